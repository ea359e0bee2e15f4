/- The sound part of any bytes: record by record; the contracts of sameRecords, copyRecords, and of the document's Replay. The contract of the document's Replay. -/
import Derived.Test.YtijnjgnckipghaaGreatBw14
import Derived.Test.YtijnjgnckipghaaGreatRcL
import Derived.Test.YtijnjgnckipghaaGreatBw9
import Derived.Lib.Bytealg
namespace Go.Proofs.YtijnjgnckipghaaGreat
open Go.RowKit Go.Shelf
set_option maxRecDepth 20000
def atR (bs : List UInt8) : Nat → Nat
  | 0 => 0
  | k + 1 => atR bs k + (decOf (bs.drop (atR bs k))).n
def recR (bs : List UInt8) (k : Nat) : RecD := decOf (bs.drop (atR bs k))
def okR (bs : List UInt8) (k : Nat) : Prop := (recR bs k).n ≠ 0 ∧ (recR bs k).seq = k
def rcOf (d : RecD) : Rc := (d.seq, d.op, d.no, d.id)
def repR (bs : List UInt8) (k : Nat) : RL := (List.range k).map (fun i => rcOf (recR bs i))
theorem repR_succ (bs : List UInt8) (k : Nat) : repR bs (k + 1) = repR bs k ++ [rcOf (recR bs k)] := by unfold repR; rw [List.range_succ, List.map_append]; rfl
theorem repR_len (bs : List UInt8) (k : Nat) : (repR bs k).length = k := by unfold repR; simp
theorem atR_succ (bs : List UInt8) (k : Nat) : atR bs (k + 1) = atR bs k + (recR bs k).n := rfl
theorem dec_n_le (l : List UInt8) : (decOf l).n ≤ l.length := by
  unfold decOf
  repeat' split
  all_goals first | exact Nat.zero_le _ | (simp only []; omega)
theorem dec_err (l : List UInt8) (h : (decOf l).n ≠ 0) : (decOf l).e = 0 := by
  unfold decOf at h ⊢
  repeat' split
  all_goals first | rfl | (exfalso; revert h; simp [*, decErr])
theorem atR_le (bs : List UInt8) : ∀ k, atR bs k ≤ bs.length := by
  intro k
  induction k with
  | zero => exact Nat.zero_le _
  | succ k ih =>
    have h := dec_n_le (bs.drop (atR bs k))
    rw [List.length_drop] at h
    show atR bs k + _ ≤ _
    omega
theorem atR_grow (bs : List UInt8) : ∀ k, (∀ i, i < k → okR bs i) → k ≤ atR bs k := by
  intro k
  induction k with
  | zero => intro _; exact Nat.zero_le _
  | succ k ih =>
    intro h
    have h1 := ih (fun i hi => h i (by omega))
    have h2 := (h k (by omega)).1
    rw [atR_succ]
    omega
/-- the sound part has K records -/
def Stops (bs : List UInt8) (K : Nat) : Prop := (∀ i, i < K → okR bs i) ∧ ¬ okR bs K
theorem stops_one {bs : List UInt8} {K L : Nat} (h : Stops bs K) (g : Stops bs L) : K = L := by
  rcases Nat.lt_trichotomy K L with h1 | h1 | h1
  · exact absurd (g.1 K h1) h.2
  · exact h1
  · exact absurd (h.1 L h1) g.2
theorem stops_le {bs : List UInt8} {K : Nat} (h : Stops bs K) : K ≤ bs.length := Nat.le_trans (atR_grow bs K h.1) (atR_le bs K)
theorem dropB {w : World} {v : Value} {bs : List UInt8} (h : HoldsB w v bs) (k : Nat) (hk : k ≤ bs.length) :
    ∃ pv, (∀ W, Sem.run Tryz.prog (Instr.slice 67 v (some (.int .i64 (k : Int))) none none) W = .ok pv W) ∧ HoldsB w pv (bs.drop k) := by
  obtain ⟨pv, h1, h2⟩ := midB h k bs.length hk (Nat.le_refl _)
  rw [show (bs.drop k).take (bs.length - k) = bs.drop k by rw [List.take_of_length_le (by rw [List.length_drop]; omega)]] at h2
  refine ⟨pv, fun W => ?_, h2⟩
  rw [← h1 W]
  obtain ⟨ao, cap, rfl, h0, hcp, hc⟩ := h
  have hel : Tryz.prog.elem 67 = 5 := by kernel_rfl
  have e1 := run_slice_l (P := Tryz.prog) W 67 ao bs.length cap (by rw [hel]; exact Tryz.underlying67) .i64 k (by omega) (by omega)
  have e2 := run_slice_lh (P := Tryz.prog) W 67 ao bs.length cap (by rw [hel]; exact Tryz.underlying67) .i64 .i64 k bs.length (by omega) (by omega) (by omega)
  rw [e1, e2]
  simp only [Int.toNat_natCast]
theorem copyRC (v : Value) (rs : RL) (w : World) (hv : HoldsR w v rs) (hl : rs.length * 40 ≤ 140737488355328) :
    Calls Tryz.prog 12 #[v] w fun e w' => ∃ u, e = .returned u ∧ OwnR w u rs w' := by
  have HV := hide' (holdsR_mono hv (bel_a w (.cells #[] 53)))
  clear hv
  go_enter Tryz.func12, Tryz.ntmps12
  go_wp2_with (at_builtin; refine appAllR rfl (.tmp 5) (.tmp 6) rfl w _ [] rfl (ownR_empty w) v rs rfl HV.out (by simpa using hl) ?_; intro v2 w2 hown2)
  go_ret
  exact ⟨v2, rfl, by simpa using hown2⟩
set_option maxHeartbeats 2000000 in
theorem sameRC (va vb : Value) (xs ys : RL) (w : World) (ha : HoldsR w va xs) (hb : HoldsR w vb ys) (la : xs.length ≤ 1000000000000) :
    Calls Tryz.prog 9 #[va, vb] w fun e w' => e = .returned (.bool (decide (xs = ys))) ∧ ∃ n, w' = w.drewN n := by
  obtain ⟨ao, ca, b1, o1, rfl, hca⟩ := holdsR_parts ha
  obtain ⟨bo, cb, b2, o2, rfl, hcb⟩ := holdsR_parts hb
  clear ha hb
  by_cases hl : xs.length = ys.length
  · have C1 := hide' hca
    have C2 := hide' hcb
    obtain ⟨n, hn⟩ : ∃ n, n = xs.length := ⟨_, rfl⟩
    have N1 : Hid (xs.length = n) := hn.symm
    have N2 : Hid (ys.length = n) := by unfold Hid; omega
    have ln : n ≤ 1000000000000 := by omega
    rw [N1.out, N2.out]
    clear hca hcb hl la hn
    go_enter Tryz.func9, Tryz.ntmps9
    go_wp2
    go_loopw [5] (fun i wr => ∃ k : Nat, k ≤ n ∧ i = .int .i64 k ∧ Hid (xs.take k = ys.take k) ∧ ∃ m, Hid (wr = w.drewN m)) (fun i _ => n - (intOf i).toNat)
    case atStart => exact ⟨0, by omega, rfl, rfl, 0, rfl⟩
    case round =>
      obtain ⟨k, hk, rfl, hE, m, hw⟩ := hrel
      have hw' := hw.out
      subst hw'
      by_cases hlt : k < n
      · have G1 : Hid (k < xs.length) := by unfold Hid; rw [N1.out]; exact hlt
        have G2 : Hid (k < ys.length) := by unfold Hid; rw [N2.out]; exact hlt
        obtain ⟨e1, l1, d1⟩ := C1.out (by rw [N1.out]; omega)
        obtain ⟨e2, l2, d2⟩ := C2.out (by rw [N2.out]; omega)
        subst e1 e2
        obtain ⟨x0, x1, x2, x3⟩ := d1 k G1.out
        obtain ⟨y0, y1, y2, y3⟩ := d2 k G2.out
        unfold S at x3 y3
        clear d1 d2
        obtain ⟨X, hX⟩ : ∃ X, X = xs[k]'G1.out := ⟨_, rfl⟩
        obtain ⟨Y, hY⟩ : ∃ Y, Y = ys[k]'G2.out := ⟨_, rfl⟩
        rw [← hX] at x0 x1 x2 x3
        rw [← hY] at y0 y1 y2 y3
        by_cases he : X = Y
        · have E : Hid (xs.take (k + 1) = ys.take (k + 1)) := by
            unfold Hid; rw [List.take_succ_eq_append_getElem G1.out, List.take_succ_eq_append_getElem G2.out, hE.out, ← hX, ← hY, he]
          rw [he] at x0 x1 x2 x3
          clear he hX hY
          obtain ⟨q0, q1, q2, q3⟩ := Y
          dsimp only at x0 x1 x2 x3 y0 y1 y2 y3
          generalize q3.toArray = y at x3 y3
          go_wp2
          go_quiet (fail)
          go_wp2
          go_roundw
          case rel => exact ⟨k + 1, by omega, by go_num, E, _, rfl⟩
          case measure => simp [intOf]; omega
        · have F : Hid (decide (xs = ys) = false) := by
            unfold Hid; rw [decide_eq_false_iff_not]; intro e; subst e; exact he (by rw [hX, hY])
          obtain ⟨p0, p1, p2, p3⟩ := X
          obtain ⟨q0, q1, q2, q3⟩ := Y
          dsimp only at x0 x1 x2 x3 y0 y1 y2 y3
          clear hX hY
          by_cases e0 : p0 = q0
          · subst e0
            by_cases e1 : p1 = q1
            · subst e1
              by_cases e2 : p2 = q2
              · subst e2
                have e3 : ¬ p3 = q3 := fun h => he (by rw [h])
                have hne : ((⟨p3.toArray⟩ : ByteArray).toList == (⟨q3.toArray⟩ : ByteArray).toList) = false := by
                  rw [Lib.toList_data, Lib.toList_data]; simpa using e3
                have hne2 : (p3 == q3) = false := by simpa using e3
                clear he e3
                go_wp2
                go_quiet (fail)
                go_wp2
                go_ret
                exact ⟨by rw [F.out]; rfl, _, World.drewN_drewN _ _ _⟩
              · have f2 : (p2 == q2) = false := by simpa using e2
                have f2' : decide (p2 = q2) = false := by simpa using e2
                clear he
                go_wp2
                go_quiet (fail)
                go_wp2
                go_ret
                exact ⟨by rw [F.out]; rfl, _, World.drewN_drewN _ _ _⟩
            · have f1 : (p1 == q1) = false := by simpa using e1
              have f1' : decide (p1 = q1) = false := by simpa using e1
              clear he
              go_wp2
              go_quiet (fail)
              go_wp2
              go_ret
              exact ⟨by rw [F.out]; rfl, _, World.drewN_drewN _ _ _⟩
          · have f0 : (p0 == q0) = false := by simpa using e0
            have f0' : decide (p0 = q0) = false := by simpa using e0
            clear he
            go_wp2
            go_quiet (fail)
            go_wp2
            go_ret
            exact ⟨by rw [F.out]; rfl, _, World.drewN_drewN _ _ _⟩
      · obtain rfl : k = n := by omega
        have E : Hid (xs = ys) := by
          have := hE.out
          rw [List.take_of_length_le (by rw [N1.out]; omega), List.take_of_length_le (by rw [N2.out]; omega)] at this
          exact this
        go_wp2
        go_ret
        exact ⟨by have e := E.out; simp [e], m, rfl⟩
  · have F : Hid (decide (xs = ys) = false) := by
      unfold Hid; rw [decide_eq_false_iff_not]; intro e; exact hl (by rw [e])
    have q : decide ((xs.length : Int) = (ys.length : Int)) = false := by rw [decide_eq_false_iff_not]; omega
    have q2 : ¬ (xs.length : Int) = (ys.length : Int) := by omega
    generalize xs.length = n1 at q q2 ⊢
    generalize ys.length = n2 at q q2 ⊢
    clear hca hcb la
    go_enter Tryz.func9, Tryz.ntmps9
    go_wp2
    go_ret
    exact ⟨by rw [F.out]; rfl, 0, rfl⟩
end Go.Proofs.YtijnjgnckipghaaGreat
namespace Go.Proofs.YtijnjgnckipghaaGreat
open Go.RowKit Go.Shelf
set_option maxRecDepth 20000
theorem stop_not {bs : List UInt8} {k : Nat} (h : ¬ okR bs k) : (recR bs k).n = 0 ∨ (recR bs k).seq ≠ k := by
  by_cases h1 : (recR bs k).n = 0
  · exact .inl h1
  · exact .inr (fun e => h ⟨h1, e⟩)
theorem ownR_sl {w0 w : World} {v : Value} {rs : RL} (h : OwnR w0 v rs w) : ∃ a c, v = .slice a rs.length c := by
  obtain ⟨hl, h1 | ⟨g, cap, cur, hv, _⟩⟩ := h.1
  · exact ⟨none, 0, by rw [h1.1, h1.2]⟩
  · exact ⟨_, _, hv⟩
set_option maxHeartbeats 4000000 in
theorem replayRC (v : Value) (bs : List UInt8) (w : World) (hv : HoldsB w v bs) (hl : bs.length ≤ 1000000000000) :
    Calls Tryz.prog 32 #[v] w fun e w' => ∃ K u, e = .returned (.tuple #[u, .int .i64 (atR bs K : Int)]) ∧ Stops bs K ∧ OwnR w u (repR bs K) w' := by
  have HV := hide' hv
  clear hv
  go_enter Tryz.func32, Tryz.ntmps32
  go_wp2_with fail
  go_loopw [4, 5] (fun u p wr => ∃ k : Nat, p = .int .i64 (atR bs k : Int) ∧ Hid (∀ i, i < k → okR bs i) ∧ Hid (OwnR w u (repR bs k) wr)) (fun _ p _ => bs.length + 1 - (intOf p).toNat)
  case atStart => exact ⟨0, rfl, fun i hi => absurd hi (by omega), ownR_empty w⟩
  case round =>
    obtain ⟨k, rfl, HK, HO⟩ := hrel
    have ha := atR_le bs k
    have hk := atR_grow bs k HK.out
    obtain ⟨pv, hp1, hp2⟩ := dropB (holdsB_mono HV.out HO.out.2) (atR bs k) ha
    have CD := hide' (decRC pv _ wr hp2 (by rw [List.length_drop]; omega))
    have AS := hide' (atR_succ bs k)
    have A1 := hide' (atR_le bs (k + 1))
    have ER : Hid (decOf (bs.drop (atR bs k)) = recR bs k) := rfl
    rw [ER.out] at CD
    have DE : Hid ((recR bs k).n ≠ 0 → (recR bs k).e = 0) := dec_err _
    have RS := hide' (repR_succ bs k)
    have RL0 := hide' (repR_len bs k)
    obtain ⟨d, hd⟩ : ∃ d, d = recR bs k := ⟨_, rfl⟩
    rw [← hd] at CD AS DE RS
    have HD : Hid (recR bs k = d) := hd.symm
    unfold decV recV at CD
    obtain ⟨dseq, dop, dno, did, dn, de⟩ := d
    dsimp only at CD AS DE RS
    generalize hA : atR bs k = A at *
    have HA := hide' hA
    clear hp2 hd ER hA
    obtain ⟨ua, uc, hu⟩ := ownR_sl HO.out
    rw [RL0.out] at hu
    subst hu
    have FIN : Hid (¬ okR bs k → ∀ w1 X, Below wr.heap.size wr w1 → ∃ K u, (Ending.returned (Value.tuple #[.slice ua k uc, .int .i64 (A : Int)]) = .returned (.tuple #[u, .int .i64 (atR bs K : Int)]) ∧ Stops bs K ∧ OwnR w u (repR bs K) (w1.alloc X))) := by
      intro hno w1 X hb
      exact ⟨k, _, by rw [HA.out], ⟨HK.out, hno⟩, ownR_mono (ownR_mono HO.out hb) (bel_a _ _)⟩
    have hkA : k ≤ 1000000000000 := by omega
    by_cases hz : dn = 0
    · have NO : Hid (¬ okR bs k) := fun h => by have := h.1; rw [HD.out] at this; exact this hz
      subst hz
      by_cases hee : de = 0
      · subst hee
        clear hk ha DE AS A1 RS
        go_wp2_with fail
        refine CD.out.mono ?_
        rintro e w1 ⟨rfl, hb⟩
        have HB := hide' hb
        clear hb
        go_wp2_with fail
        go_ret2
        exact FIN.out NO.out _ _ HB.out
      · have f0 : decide (de = 0) = false := by simpa using hee
        clear hk ha DE AS A1 RS
        go_wp2_with fail
        refine CD.out.mono ?_
        rintro e w1 ⟨rfl, hb⟩
        have HB := hide' hb
        clear hb
        go_wp2_with fail
        go_ret2
        exact FIN.out NO.out _ _ HB.out
    · have hee : de = 0 := DE.out hz
      subst hee
      have f0 : decide ((dn : Int) = 0) = false := by rw [decide_eq_false_iff_not]; omega
      have f1 : ¬ (dn : Int) = 0 := by omega
      by_cases hq : dseq = k
      · have OK : Hid (∀ i, i < k + 1 → okR bs i) := by
          intro i hi
          by_cases h2 : i = k
          · rw [h2]; exact ⟨by rw [HD.out]; exact hz, by rw [HD.out]; exact hq⟩
          · exact HK.out i (by omega)
        have qw : IntKind.i64.wrap ((A : Int) + (dn : Int)) = (A : Int) + (dn : Int) := wrap_small _ (by omega) (by have h1 := AS.out; have h2 := A1.out; omega)
        have HQ := hide' hq
        have HZ := hide' hz
        have hlen : (k + 1) * 40 ≤ 140737488355328 := by omega
        subst hq
        clear hk ha hz hkA
        go_wp2_with fail
        refine CD.out.mono ?_
        rintro e w1 ⟨rfl, hb⟩
        have HB := hide' hb
        have HO1 := hide' (ownR_mono (ownR_mono HO.out hb) (bel_a w1 (.cells #[.int .i64 (dseq : Int), .int .i64 (dop : Int), .int .i64 (dno : Int), .string ⟨did.toArray⟩] 53)))
        clear hb
        go_wp2_with (at_builtin; refine appR rfl (.tmp 33) (.tmp 35) rfl w _ (repR bs dseq) rfl HO1.out ((dseq : Int), (dop : Int), (dno : Int), did) rfl rfl rfl rfl rfl (by simp) (by rw [RL0.out]; exact hlen) ?_; intro v2 w2 ho2; have HO2 := hide' ho2; clear ho2)
        go_roundw
        case rel => exact ⟨dseq + 1, by rw [AS.out, Int.natCast_add], OK, by unfold Hid; rw [RS.out]; exact HO2.out⟩
        case measure => simp only [intOf]; have h1 := AS.out; have h2 := A1.out; have h3 := HZ.out; omega
      · have NO : Hid (¬ okR bs k) := fun h => by have := h.2; rw [HD.out] at this; exact hq this
        have g0 : decide ((dseq : Int) = (k : Int)) = false := by rw [decide_eq_false_iff_not]; omega
        have g1 : ¬ (dseq : Int) = (k : Int) := by omega
        have g2 : ((dseq : Int) != (k : Int)) = true := by simpa using g1
        have g3 : ((dseq : Int) == (k : Int)) = false := by simpa using g1
        have g4 : decide (dseq = k) = false := by simpa using hq
        have g5 : (dseq == k) = false := by simpa using hq
        clear hk ha DE AS A1 RS
        go_wp2_with fail
        refine CD.out.mono ?_
        rintro e w1 ⟨rfl, hb⟩
        have HB := hide' hb
        clear hb
        go_wp2_with fail
        go_ret2
        exact FIN.out NO.out _ _ HB.out
end Go.Proofs.YtijnjgnckipghaaGreat
