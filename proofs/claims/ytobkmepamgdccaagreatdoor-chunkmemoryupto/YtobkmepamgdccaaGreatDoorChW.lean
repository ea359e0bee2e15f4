/- The contracts of readData, trailersLength, readTrailers. -/
import Derived.Test.YtobkmepamgdccaaGreatDoorChV
import Derived.Deep.RegionLaw
import Derived.Deep.QuietTactic
import Derived.BigQuiet
namespace Go.Proofs.YtobkmepamgdccaaGreatDoor
open Go.RowKit
/-- a row of bytes appended to inside a drawn region -/
theorem step_appC {ops : Array Oper} {o : Oper} {a : Act} {K : Act → World → Prop} {Q : Exit → Act → World → Prop} {E : Prop} {W : World} (hgd : o.guard = none) (s x : Operand)
    (ho : o.op = .call { callee := .builtin .append, args := #[s, x], argTypes := #[22, 22] }) (base : Nat) (v : Value) (bs : List UInt8) (hs : a.eval s = v) (hown : W.ownsRow base 5 1 v bs.length (bs.map B)) (hbase : base ≤ W.heap.size)
    (b off m c : Nat) (qs : List UInt8) (hm : qs.length = m) (hx : a.eval x = .slice (some ⟨b, off, none⟩) m c) (hnews : ∀ j (h : j < qs.length), W.cell? ⟨b, off + j, none⟩ = some (B qs[j])) (hlen : bs.length + m ≤ 140737488355328)
    (h : ∀ v' w', w'.ownsRow base 5 1 v' (bs ++ qs).length ((bs ++ qs).map B) → Below base W w' → K (a.put o.dst v') w') : if Region.wanted o (yielded ops a.tmps) = true then Oper.wp Tryz.prog o a W K Q else E := by
  obtain ⟨i0, hi, hz0, hz1, hz2⟩ := info_parts Tryz.info5
  have hw : Region.wanted o (yielded ops a.tmps) = true := by simp [Region.wanted, hgd]
  rw [if_pos hw]
  subst hm
  refine wp_append_own W s x 22 ho base 5 i0 (.int .u8 0) 1 1 Tryz.underlying22 hi hz0 hz1 hz2 rfl (by decide) v bs.length (bs.map B) hs hown ⟨b, off, none⟩ qs.length c (qs.map B) hx (by simp) ?_ ?_ ?_ ?_ hbase ?_
  · intro j u hj
    rw [Go.WideShapes.add_plain]
    obtain ⟨hj1, hj2⟩ := List.getElem?_eq_some_iff.1 hj
    rw [List.length_map] at hj1
    rw [hnews j hj1, ← hj2]
    simp
  · intro u hu; obtain ⟨x, _, rfl⟩ := List.mem_map.1 hu; rfl
  · unfold maxLen; omega
  · omega
  · intro v' w' h1 h2 _
    refine h v' w' (by rw [List.map_append, List.length_append]; exact h1) ?_
    exact Below.grown (Below.refl _ _) h2 hbase (fun k hk => (hown.lt k hk).1)
theorem row_slice {w : World} {base k n : Nat} {t : TypeId} {v : Value} {cs : List Value} (h : w.ownsRow base t k v n cs) : ∃ a c, v = .slice a n c := by
  rcases h.2 with ⟨rfl, hn⟩ | ⟨x, cap, cur, rfl, _⟩
  · exact ⟨none, 0, by rw [hn]⟩
  · exact ⟨_, _, rfl⟩
theorem quad_base {b base : Nat} {W W' : World} {v0 v1 v2 v3 : Value} (h : Quad b W v0 v1 v2 v3) (hb : Below base W W') (hlt : b < base) : Quad b W' v0 v1 v2 v3 := by
  obtain ⟨h0, h1, h2, h3, f0, f1, f2, f3, hz⟩ := h
  have c : ∀ o, W'.cell? ⟨b, o, none⟩ = W.cell? ⟨b, o, none⟩ := fun o => hb.cell (p := ⟨b, o, none⟩) hlt
  have f : ∀ o, W'.frozen? ⟨b, o, none⟩ = W.frozen? ⟨b, o, none⟩ := fun o => hb.frozen (p := ⟨b, o, none⟩) hlt
  exact ⟨by rw [c]; exact h0, by rw [c]; exact h1, by rw [c]; exact h2, by rw [c]; exact h3, by rw [f]; exact f0, by rw [f]; exact f1, by rw [f]; exact f2, by rw [f]; exact f3, Nat.lt_of_lt_of_le hz hb.size⟩
theorem pair_take (l : List UInt8) (h : 2 ≤ l.length) : (pairB l = true → l.take 2 = [13, 10]) ∧ (pairB l = false → ¬ l.take 2 = [13, 10]) := by
  refine ⟨fun hp => ?_, fun hp e => ?_⟩
  · obtain ⟨t, rfl⟩ := (pair_iff l).1 hp
    rfl
  · have : pairB l = true := (pair_iff l).2 ⟨l.drop 2, by
      have := List.take_append_drop 2 l
      rw [e] at this
      exact this.symm⟩
    rw [this] at hp
    cases hp
theorem ne_text {l : List UInt8} (h : ¬ l = [13, 10]) : (⟨l.toArray⟩ : ByteArray) ≠ ⟨#[13, 10]⟩ := by
  intro e
  apply h
  have := congrArg (fun s : ByteArray => s.data.toList) e
  simpa using this
def rdV (n e : Int) : Value := .tuple #[.int .i64 n, .int .i64 e]
set_option maxHeartbeats 4000000 in
set_option maxRecDepth 20000 in
theorem readDataC (w0 : World) (g s : Nat) (hs0 : 0 < s) (hs1 : s < 4294967296) (out : List UInt8) (hol : out.length ≤ 65536) (tv v : Value) (bs : List UInt8) (w : World) (D : Dec w0 g 1 (s : Int) out tv w) (hv : HoldsB w0 v bs) (_hs : bs.length < 4294967281) :
    Calls Tryz.prog 29 #[.pointer (some ⟨g, 0, none⟩), v] w fun e w' => Below w0.heap.size w0 w' ∧
      ((65536 < out.length + s ∧ e = .returned (rdV 0 71)) ∨ (out.length + s ≤ 65536 ∧ bs.length < s + 2 ∧ e = .returned (rdV 0 0)) ∨ (out.length + s ≤ 65536 ∧ s + 2 ≤ bs.length ∧ pairB (bs.drop s) = false ∧ e = .returned (rdV 0 70)) ∨
       (out.length + s ≤ 65536 ∧ s + 2 ≤ bs.length ∧ pairB (bs.drop s) = true ∧ e = .returned (rdV ((s : Int) + 2) 0) ∧ Dec w0 g 0 (s : Int) (out ++ bs.take s) tv w')) := by
  unfold rdV
  have DH := hide' D
  obtain ⟨dv, q, r, b, hg⟩ := D
  obtain ⟨da, dc, hdv⟩ : ∃ da dc, dv = .slice da out.length dc := by
    rcases r.2 with ⟨rfl, hn⟩ | ⟨x, cap, cur, rfl, _⟩
    · exact ⟨none, 0, by rw [hn]⟩
    · exact ⟨_, _, rfl⟩
  subst hdv
  have Q := hide' q
  have R := hide' r
  have HV := hide' hv
  obtain ⟨k, hk⟩ : ∃ k, k = out.length := ⟨_, rfl⟩
  obtain ⟨n, hn⟩ : ∃ n, n = bs.length := ⟨_, rfl⟩
  obtain ⟨ao, cap, rfl, h0, hcp, hc⟩ := hv
  have HK := hide' hk
  have HN := hide' hn
  rw [← hk] at hol Q R ⊢
  rw [← hn] at hcp ⊢
  obtain ⟨c0, c1, c2, c3, f0, f1, f2, f3, fz⟩ := Q.out
  by_cases h1 : 65536 < k + s
  · have h1' : (65536 : Int) < (k : Int) + (s : Int) := by omega
    clear hk hn q r hc h0 b
    go_enter Tryz.func29, Tryz.ntmps29
    go_wp2_with fail
    go_quiet (fail)
    go_wp2_with fail
    go_ret2
    exact ⟨bt' (dec_bel DH.out) (below_drewN _ _), .inl ⟨h1, rfl⟩⟩
  · have h1' : (k : Int) + (s : Int) ≤ 65536 := by omega
    by_cases h2 : n < s + 2
    · have h2' : (n : Int) < (s : Int) + 2 := by omega
      clear hk hn q r hc h0 b
      go_enter Tryz.func29, Tryz.ntmps29
      go_wp2_with fail
      go_quiet (fail)
      go_wp2_with fail
      go_ret2
      exact ⟨bt' (dec_bel DH.out) (below_drewN _ _), .inr (.inl ⟨by omega, h2, rfl⟩)⟩
    · have h2' : (s : Int) + 2 ≤ (n : Int) := by omega
      obtain ⟨bb, off, rfl, hlt, hcell⟩ := hc (fun e => by rw [e] at hn; simp at hn; omega)
      have sl := fun W => cutp_at bb off n cap s ((s : Int) + 2) (s + 2) (by omega) (by omega) (by omega) (by omega) hcp W
      rw [show s + 2 - s = 2 by omega] at sl
      have hdl : (bs.drop s).length = n - s := by rw [List.length_drop, hn]
      have hv2 : HoldsB w0 (.slice (some ⟨bb, off + s, none⟩) 2 (cap - s)) ((bs.drop s).take 2) := by
        have e2 : Lib.fromV (some ⟨bb, off, none⟩) bs.length cap s = .slice (some ⟨bb, off + s, none⟩) (bs.length - s) (cap - s) := by
          unfold Lib.fromV
          rw [if_neg (by omega)]
          simp [Addr.add]
          omega
        have HS' := holdsB_suf (i := s) HV.out (by omega)
        rw [e2, ← List.length_drop] at HS'
        exact holdsB_pre HS' 2 (by omega)
      have l2 : ((bs.drop s).take 2).length = 2 := by rw [List.length_take]; omega
      have pt := pair_take (bs.drop s) (by omega)
      have cv := fun W (hb : Below w0.heap.size w0 W) => conv_holdsB W (some ⟨bb, off + s, none⟩) (cap - s) ((bs.drop s).take 2) (by rw [l2]; exact holdsB_mono hv2 hb)
      rw [l2] at cv
      have CV := hide' cv
      have DQ := fun W (hb : Below w.heap.size w W) => dec_below DH.out hb
      have DQH := hide' DQ
      clear hv2 cv DQ hdl
      cases hp : pairB (bs.drop s) with
      | false =>
        have ne := pt.2 hp
        generalize (bs.drop s).take 2 = q2 at CV ne l2
        have n0 := ne_text ne
        have n1 : ((⟨q2.toArray⟩ : ByteArray).toList == [13, 10]) = false := by rw [Lib.toList_data]; simpa using ne
        have n2 : (q2 == [13, 10]) = false := by simpa using ne
        clear hk hn q r hc h0 b pt hp ne hcell
        go_enter Tryz.func29, Tryz.ntmps29
        go_wp2_with fail
        go_quiet (fail)
        have DW := DQH.out (w.drewN nq) (below_drewN _ _)
        obtain ⟨dv4, ⟨d0, d1, d2, d3, e0, e1, e2, e3, ez⟩, _⟩ := DW
        have cvw := CV.out _ (dec_bel (DQH.out (w.drewN nq) (below_drewN _ _)))
        have BW := hide' (dec_bel (DQH.out (w.drewN nq) (below_drewN _ _)))
        generalize w.drewN nq = W2 at d0 d1 d2 d3 e0 e1 e2 e3 ez cvw BW ⊢
        go_wp2_with fail
        go_ret2
        exact ⟨BW.out, .inr (.inr (.inl ⟨by omega, by omega, by first | rfl | trivial, rfl⟩))⟩
      | true =>
        have e13 := pt.1 hp
        rw [e13] at CV
        have ht : (bs.take s).length = s := by rw [List.length_take]; omega
        have st := fun W (k2 : Nat) (hk2 : k2 = s) => (holdsB_take HV.out s (by omega))
        have sl2 : ∀ W, Sem.run Tryz.prog (Instr.slice 22 (.slice (some ⟨bb, off, none⟩) n cap) none (some (.int .i64 (s : Int))) none) W = .ok (.slice (some ⟨bb, off, none⟩) s cap) W := by
          intro W
          have hel : Tryz.prog.elem 22 = 5 := by kernel_rfl
          have hh := run_slice_h (P := Tryz.prog) W 22 (some ⟨bb, off, none⟩) n cap (by rw [hel]; exact Tryz.underlying22) .i64 s (by omega) (by omega)
          rw [hel, Tryz.sizeOf5] at hh
          simp only [Result.andThen, Int.toNat_natCast, sliced] at hh
          rw [hh]
          simp [Addr.add]
        have cs : ∀ W, Below w0.heap.size w0 W → ∀ j (h : j < (bs.take s).length), W.cell? ⟨bb, off + j, none⟩ = some (B (bs.take s)[j]) := by
          intro W hb j hj
          rw [hb.cell (p := ⟨bb, off + j, none⟩) hlt, hcell j (by rw [List.length_take] at hj; omega)]
          simp
        have CS := hide' cs
        have HT := hide' ht
        generalize bs.take s = qs at CS HT ⊢
        clear hk hn q r hc h0 b pt hp e13 hcell st cs ht
        go_enter Tryz.func29, Tryz.ntmps29
        go_wp2_with fail
        go_quiet (fail)
        obtain ⟨dv4, q4, r4, b4, _⟩ := DQH.out (w.drewN nq) (below_drewN _ _)
        obtain rfl : dv4 = .slice da k dc := by
          have h5 : (w.drewN nq).cell? ⟨g, 2, none⟩ = some (.slice da k dc) := by
            rw [(below_drewN w nq).cell (p := ⟨g, 2, none⟩) fz]; exact c2
          have h6 := q4.2.2.1
          rw [h5] at h6
          exact (Option.some.inj h6).symm
        obtain ⟨d0, d1, d2, d3, e0, e1, e2, e3, ez⟩ := q4
        have Q4 : Hid (Quad g (w.drewN nq) (.int .i64 1) (.int .i64 (s : Int)) (.slice da k dc) tv) := ⟨d0, d1, d2, d3, e0, e1, e2, e3, ez⟩
        have R4 := hide' r4
        have B4 := hide' b4
        have cvw := CV.out _ b4
        rw [← HK.out] at R4
        clear r4 b4
        generalize w.drewN nq = W2 at d0 d1 d2 d3 e0 e1 e2 e3 ez cvw Q4 R4 B4 ⊢
        go_wp2_with fail
        go_region_law
          ((refine step_appC (by rfl) _ _ (by rfl) (g + 1) _ out (by first | rfl | simp [Act.eval, Act.put]) (by rw [← HK.out]; exact R4.out.drew) (by have h9 := ez; simp; omega) bb off s cap qs HT.out (by first | rfl | simp [Act.eval, Act.put]) (CS.out _ B4.out.drew) (by rw [← HK.out]; omega) ?_; intro v2 w2 row2 bel2;
            have Q2 := hide' (quad_base (W := W2.drew) (quad_below Q4.out ((Below.refl _ _).drew)) bel2 (Nat.lt_succ_self g));
            have bw2 := hide' (B4.out.drew.trans (bel2.mono (by omega)));
            obtain ⟨va, vc, hv2⟩ := row_slice row2; rw [List.length_append] at hv2; subst hv2;
            have RW2 := hide' row2;
            obtain ⟨k0, k1, k2, k3, j0, j1, j2, j3, jz⟩ := Q2.out; clear row2 bel2))
        all_goals
          have Q3 := hide' (quad_set2 Q2.out (.slice va (out.length + qs.length) vc))
          have Q5 := hide' (quad_set0 Q3.out (.int .i64 0))
          obtain ⟨p0, p1, p2, p3, o0, o1, o2, o3, oz⟩ := Q3.out
          go_wp2_with fail
          go_ret2
          exact ⟨(bw2.out.setCell hg _).setCell hg _, .inr (.inr (.inr ⟨by omega, by omega, by first | rfl | trivial, rfl, _, Q5.out, row_poke (row_poke RW2.out (Nat.lt_succ_self g)) (Nat.lt_succ_self g), (bw2.out.setCell hg _).setCell hg _, hg⟩))⟩
set_option maxHeartbeats 4000000 in
set_option maxRecDepth 20000 in
theorem tlenTok (v : Value) (bs : List UInt8) (w : World) (hv : HoldsB w v bs) (M : MaxV w) (hs : bs.length < 4294967281) :
    Calls Tryz.prog 40 #[v] w fun e w' => e = .returned (rdV ((tlenC bs).1 : Int) (tlenC bs).2) ∧ Below w.heap.size w w' := by
  unfold rdV
  have HV := hide' hv
  obtain ⟨ao, cap, rfl, h0, hcp, _⟩ := hv
  have cP := hasPair ao cap bs w HV.out
  have kc := mark2 w
  cases hp : pairB bs with
  | true =>
    rw [hp] at cP
    have C := hide' cP
    have T : tlenC bs = (2, 0) := by unfold tlenC; rw [if_pos hp]
    rw [T]
    obtain ⟨n, hn⟩ : ∃ n, n = bs.length := ⟨_, rfl⟩
    rw [← hn] at C hs hcp ⊢
    clear cP hp T hn HV M h0
    go_enter Tryz.func40, Tryz.ntmps40
    go_wp2_with fail
    refine C.out.mono ?_
    clear kc
    rintro e w1 ⟨rfl, b1⟩
    have B1 := hide' b1
    clear b1
    go_wp2_with fail
    go_ret2
    exact ⟨rfl, B1.out⟩
  | false =>
    rw [hp] at cP
    have C := hide' cP
    have T : tlenC bs = endOf bs 0 := by unfold tlenC; rw [hp, if_neg (by simp)]
    rw [T]
    have cI := hide' (fun W (hb : Below w.heap.size w W) => indexB ao cap bs W (holdsB_mono HV.out hb) (maxV_below M hb) hs)
    rcases index_cases (bs.drop 0) E4 with hi | ⟨i, hi⟩
    · have en := end_none bs 0 hi
      rw [List.drop_zero] at hi
      rw [hi] at cI
      have EN := hide' en
      by_cases hl : 8192 ≤ bs.length
      · rw [if_pos hl] at EN
        rw [EN.out]
        obtain ⟨n, hn⟩ : ∃ n, n = bs.length := ⟨_, rfl⟩
        rw [← hn] at C cI hs hcp hl ⊢
        have t1 : decide ((n : Int) < 8192) = false := decide_eq_false (by omega)
        have HLL := hide' hl
        clear hl
        clear cP hp T hn HV M h0 en EN hi
        go_enter Tryz.func40, Tryz.ntmps40
        go_wp2_with fail
        refine C.out.mono ?_
        clear kc
        rintro e w1 ⟨rfl, b1⟩
        have B1 := hide' b1
        have kc := mark4 w1
        clear b1
        go_wp2_with fail
        refine (cI.out w1 B1.out).mono ?_
        clear kc
        rintro e w2 ⟨rfl, b2⟩
        have B2 := hide' (bt' B1.out b2)
        clear b2
        go_wp2_with fail
        go_ret2
        exact ⟨rfl, B2.out⟩
      · rw [if_neg hl] at EN
        rw [EN.out]
        obtain ⟨n, hn⟩ : ∃ n, n = bs.length := ⟨_, rfl⟩
        rw [← hn] at C cI hs hcp hl ⊢
        have t1 : decide ((n : Int) < 8192) = true := decide_eq_true (by omega)
        have HLL := hide' hl
        clear hl
        clear cP hp T hn HV M h0 en EN hi
        go_enter Tryz.func40, Tryz.ntmps40
        go_wp2_with fail
        refine C.out.mono ?_
        clear kc
        rintro e w1 ⟨rfl, b1⟩
        have B1 := hide' b1
        have kc := mark4 w1
        clear b1
        go_wp2_with fail
        refine (cI.out w1 B1.out).mono ?_
        clear kc
        rintro e w2 ⟨rfl, b2⟩
        have B2 := hide' (bt' B1.out b2)
        clear b2
        go_wp2_with fail
        go_ret2
        exact ⟨rfl, B2.out⟩
    · have en := end_some bs 0 i hi
      have hro := occ_len _ _ _ (by decide) (index_is _ _ _ hi).2.1
      rw [List.drop_zero] at hi hro
      rw [hi] at cI
      rw [show E4.length = 4 from rfl] at hro
      have EN := hide' en
      by_cases hl : 8192 < 0 + i + 4
      · rw [if_pos hl] at EN
        rw [EN.out]
        obtain ⟨n, hn⟩ : ∃ n, n = bs.length := ⟨_, rfl⟩
        rw [← hn] at C cI hs hcp hro ⊢
        have t1 : decide ((8192 : Int) < (i : Int) + 4) = true := decide_eq_true (by omega)
        clear cP hp T hn HV M h0 en EN hi hl
        go_enter Tryz.func40, Tryz.ntmps40
        go_wp2_with fail
        refine C.out.mono ?_
        clear kc
        rintro e w1 ⟨rfl, b1⟩
        have B1 := hide' b1
        have kc := mark4 w1
        clear b1
        go_wp2_with fail
        refine (cI.out w1 B1.out).mono ?_
        clear kc
        rintro e w2 ⟨rfl, b2⟩
        have B2 := hide' (bt' B1.out b2)
        clear b2
        go_wp2_with fail
        go_ret2
        exact ⟨rfl, B2.out⟩
      · rw [if_neg hl] at EN
        rw [EN.out]
        obtain ⟨n, hn⟩ : ∃ n, n = bs.length := ⟨_, rfl⟩
        rw [← hn] at C cI hs hcp hro ⊢
        have t1 : decide ((8192 : Int) < (i : Int) + 4) = false := decide_eq_false (by omega)
        clear cP hp T hn HV M h0 en EN hi hl
        go_enter Tryz.func40, Tryz.ntmps40
        go_wp2_with fail
        refine C.out.mono ?_
        clear kc
        rintro e w1 ⟨rfl, b1⟩
        have B1 := hide' b1
        have kc := mark4 w1
        clear b1
        go_wp2_with fail
        refine (cI.out w1 B1.out).mono ?_
        clear kc
        rintro e w2 ⟨rfl, b2⟩
        have B2 := hide' (bt' B1.out b2)
        clear b2
        go_wp2_with fail
        go_ret2
        exact ⟨by first | rfl | (congr 1; simp), B2.out⟩
/-- a decoder that has read the trailers -/
def FinD (w0 : World) (g : Nat) (s : Int) (out : List UInt8) (fs : FL) (w : World) : Prop :=
  ∃ dv tv, Quad g w (.int .i64 3) (.int .i64 s) dv tv ∧ w.ownsRow (g + 1) 5 1 dv out.length (out.map B) ∧ w.ownsRow (g + 1) 51 2 tv fs.length (cellsF fs) ∧ Below w0.heap.size w0 w ∧ w0.heap.size ≤ g
set_option maxHeartbeats 4000000 in
set_option maxRecDepth 20000 in
theorem readTrailersC (w0 : World) (g : Nat) (s : Int) (out : List UInt8) (tv v : Value) (bs : List UInt8) (w : World) (D : Dec w0 g 2 s out tv w) (hv : HoldsB w0 v bs) (hs : bs.length < 4294967281) (E : Env w0) :
    Calls Tryz.prog 30 #[.pointer (some ⟨g, 0, none⟩), v] w fun e w' => e = .returned (rdV ((tailC bs).2.1 : Int) (tailC bs).2.2) ∧ Below w0.heap.size w0 w' ∧ Hid ((tailC bs).2.1 ≠ 0 → FinD w0 g s out (tailC bs).1 w') := by
  unfold rdV
  have DH := hide' D
  have hb := dec_bel D
  have cT := tlenTok v bs w (holdsB_mono hv hb) (maxV_below E.1 hb) hs
  unfold rdV at cT
  have EV := hide' E
  by_cases h0 : (tlenC bs).1 = 0
  · have R := tail_len0 bs h0
    rw [R]
    rw [h0] at cT
    generalize (tlenC bs).2 = te at cT ⊢
    have C := hide' cT
    clear cT h0 R hv hb E D
    go_enter Tryz.func30, Tryz.ntmps30
    go_wp2_with fail
    refine C.out.mono ?_
    rintro e w1 ⟨rfl, b1⟩
    have D1 := hide' (dec_below DH.out b1)
    clear b1 C
    go_wp2_with fail
    go_ret2
    exact ⟨rfl, dec_bel D1.out, by first | exact fun h => absurd rfl h | trivial⟩
  · obtain ⟨t1, t2, t3, t4, R⟩ := tail_len1 bs h0
    rw [t1] at cT
    generalize (tlenC bs).1 = N at cT t2 t3 t4 R
    obtain ⟨pv, s1, HP⟩ := holdsB_take hv (N - 2) (by omega)
    have hpl : (bs.take (N - 2)).length < 4294967281 := by rw [List.length_take]; omega
    have cF := hide' (fun W (hb : Below w0.heap.size w0 W) => parseC pv (bs.take (N - 2)) W (holdsB_mono HP hb) (env_below EV.out hb) hpl)
    have fl := parse_len (bs.take (N - 2))
    generalize parseOf (bs.take (N - 2)) = f at R cF fl
    obtain ⟨fs, fe⟩ := f
    simp only at R cF fl
    have S1 : ∀ W, Sem.run Tryz.prog (Instr.slice 22 v none (some (.int .i64 ((N : Int) - 2))) none) W = .ok pv W := by
      intro W
      have := s1 W
      rwa [show (((N - 2 : Nat) : Int)) = (N : Int) - 2 by omega] at this
    have hN0 : ((N : Int) == 0) = false := by simp; omega
    have RH := hide' R
    have C := hide' cT
    obtain ⟨ao, cap, rfl, _⟩ := hv
    clear cT R HP hpl s1 t1 t3 hb E D h0
    go_enter Tryz.func30, Tryz.ntmps30
    go_wp2_with fail
    refine C.out.mono ?_
    rintro e w1 ⟨rfl, b1⟩
    have D1 := hide' (dec_below DH.out b1)
    clear b1 C
    go_wp2_with fail
    refine (cF.out _ (dec_bel D1.out)).mono ?_
    rintro e w2 ⟨lv, rfl, ho⟩
    obtain ⟨la, lc, lb, lo, hlv, _⟩ := holdsF_parts (holdsF_own ho)
    subst hlv
    have D2 := hide' (dec_below D1.out ho.2)
    have hw1 : g + 1 ≤ w1.heap.size := by obtain ⟨_, q, _⟩ := D1.out; exact q.2.2.2.2.2.2.2.2
    have RO := hide' (row_base ho.1 hw1)
    clear ho cF
    have D3 := hide' (dec_set3 D2.out (.slice la fs.length lc))
    obtain ⟨dv, ⟨c0, c1, c2, c3, f0, f1, f2, f3, fz⟩, _⟩ := D2.out
    obtain ⟨dv3, ⟨c30, c31, c32, c33, f30, f31, f32, f33, fz3⟩, _⟩ := D3.out
    by_cases g2 : fe = 0
    · subst g2
      rw [if_pos rfl] at RH
      have D4 := hide' (dec_set0 D3.out 3)
      go_wp2_with fail
      go_ret2
      rw [RH.out]
      refine ⟨rfl, dec_bel D4.out, fun _ => ?_⟩
      obtain ⟨dv5, q5, r5, b5, hg⟩ := D4.out
      exact ⟨dv5, .slice la fs.length lc, q5, r5, row_poke (row_poke RO.out (Nat.lt_succ_self g)) (Nat.lt_succ_self g), b5, hg⟩
    · have t2' : (fe != 0) = true := by simpa using g2
      rw [if_neg g2] at RH
      clear g2
      go_wp2_with fail
      go_ret2
      rw [RH.out]
      exact ⟨rfl, dec_bel D3.out, by first | exact fun h => absurd rfl h | trivial⟩
end Go.Proofs.YtobkmepamgdccaaGreatDoor
