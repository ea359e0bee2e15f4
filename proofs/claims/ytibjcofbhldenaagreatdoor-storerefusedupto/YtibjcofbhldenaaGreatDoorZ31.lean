/- The contracts of encoded, Add, Rewrite. The sound part of any bytes: record by record; the contracts of sameRecords, copyRecords, and of the document's Replay. The contract of the document's Replay. Plain: the sound part alone, and with anything behind it; what is written behind one another is read. -/
import Derived.Lib.Bytealg
import Derived.Test.YtibjcofbhldenaaGreatDoorZ30
import Derived.Test.YtibjcofbhldenaaGreatDoorZ01
import Derived.Test.YtibjcofbhldenaaGreatDoorZ24
import Derived.Test.YtibjcofbhldenaaGreatDoorZ18
namespace Go.Proofs.YtibjcofbhldenaaGreatDoor
open Go.RowKit Go.Shelf
set_option maxRecDepth 20000
theorem own_sl {w0 w : World} {v : Value} {bs : List UInt8} (h : Own w0 v bs w) : ∃ a n c, v = .slice a n c := by
  obtain ⟨a, c, e⟩ := row_sl h.1
  exact ⟨a, _, c, e⟩
theorem holdsR_parts {w : World} {v : Value} {ps : RL} (h : HoldsR w v ps) : ∃ ao cap b off, v = .slice ao ps.length cap ∧ (0 < ps.length → ao = some ⟨b, off, none⟩ ∧ b < w.heap.size ∧ ∀ j (h : j < ps.length), RcAt w b (off + j * 4) ps[j]) := by
  obtain ⟨ao, cap, rfl, _, _, hc⟩ := h
  by_cases he : ps = []
  · subst he; exact ⟨ao, cap, 0, 0, rfl, fun h => absurd h (by simp)⟩
  · obtain ⟨b, off, h1, h2, h3⟩ := hc he
    exact ⟨ao, cap, b, off, rfl, fun _ => ⟨h1, h2, h3⟩⟩
set_option maxHeartbeats 2000000 in
theorem encodedC (lv : Value) (rs : RL) (w : World) (h : HoldsR w lv rs) (hl : bulkR rs ≤ 70000000) :
    Calls Tryz.prog 167 #[lv] w fun e w' => ∃ u, e = .returned (.tuple #[u, .int .i64 (encG 0 rs).2]) ∧ Own w u (encG 0 rs).1 w' := by
  obtain ⟨ao, cap, b, off, rfl, hc⟩ := holdsR_parts h
  have HC := hide' hc
  obtain ⟨n, hn⟩ : ∃ n, n = rs.length := ⟨_, rfl⟩
  have N : Hid (rs.length = n) := hn.symm
  have hnl : n * 15 ≤ bulkR rs := by
    rw [hn]
    clear hn N HC hc h hl
    induction rs with
    | nil => simp
    | cons r rs ih => simp only [List.length_cons, bulkR]; omega
  rw [N.out]
  have HL := hide' hl
  have hn2 : n ≤ 70000000 := by omega
  clear h hc hn hl hnl
  go_enter Tryz.func167, Tryz.ntmps167
  go_wp2_with fail
  go_loopw [4, 11] (fun v i wr => ∃ (k : Nat) (acc : List UInt8), k ≤ n ∧ i = .int .i64 k ∧ Hid (Own w v acc wr) ∧ Hid (encG 0 rs = encH acc (encG k (rs.drop k))) ∧ Hid (acc.length + bulkR (rs.drop k) ≤ bulkR rs)) (fun _ i _ => n - (intOf i).toNat)
  case atStart => exact ⟨0, [], by omega, rfl, own_nil w w (Below.refl _ _), by unfold Hid; rw [List.drop_zero, encH_nil _ (encG_bad _ _)], by unfold Hid; simp⟩
  case round =>
    obtain ⟨k, acc, hk, rfl, HO, HE, HB⟩ := hrel
    by_cases hlt : k < n
    · have G : k < rs.length := by rw [N.out]; exact hlt
      obtain ⟨hao, hblt, hcell⟩ := HC.out (by rw [N.out]; omega)
      subst hao
      obtain ⟨c0, c1, c2, c3⟩ := hcell k G
      have e0 := HO.out.2
      replace c0 := (e0.cell (p := ⟨b, off + k * 4, none⟩) hblt).trans c0
      replace c1 := (e0.cell (p := ⟨b, off + k * 4 + 1, none⟩) hblt).trans c1
      replace c2 := (e0.cell (p := ⟨b, off + k * 4 + 2, none⟩) hblt).trans c2
      replace c3 := (e0.cell (p := ⟨b, off + k * 4 + 3, none⟩) hblt).trans c3
      have D : Hid (rs.drop k = rs[k] :: rs.drop (k + 1)) := List.drop_eq_getElem_cons G
      have BD := hide' (bulkR_drop rs k G)
      obtain ⟨r, hr⟩ : ∃ r, r = rs[k] := ⟨_, rfl⟩
      rw [← hr] at c0 c1 c2 c3 D BD
      obtain ⟨q0, q1, q2, q3⟩ := r
      dsimp only at c0 c1 c2 c3
      unfold S at c3
      clear hr hcell e0 hblt
      have hz0 : wr.heap.size ≤ (wr.alloc (.cells #[.int .i64 (k : Int), .int .i64 q1, .int .i64 q2, .string ⟨q3.toArray⟩] 107)).heap.size := by simp
      have CE := hide' (encC (k : Int) q1 q2 q3 (wr.alloc (.cells #[.int .i64 (k : Int), .int .i64 q1, .int .i64 q2, .string ⟨q3.toArray⟩] 107)) (by have h1 := BD.out; have h2 := HB.out; have h3 := HL.out; (try dsimp only at h1); omega))
      unfold recV at CE
      have B0 := hide' (bel_a wr (.cells #[.int .i64 (k : Int), .int .i64 q1, .int .i64 q2, .string ⟨q3.toArray⟩] 107))
      clear hz0
      by_cases hz : (encOf (k : Int) q1 q2 q3).2 = 0
      · have HE2 : Hid (encG 0 rs = encH (acc ++ (encOf (k : Int) q1 q2 q3).1) (encG (k + 1) (rs.drop (k + 1)))) := by
          unfold Hid; rw [HE.out, D.out]; exact encH_ok (r := (q0, q1, q2, q3)) hz
        have LN := hide' (enc_len (k : Int) q1 q2 q3)
        have HZ := hide' hz
        clear hz
        go_wp2_with fail
        refine CE.out.mono ?_
        rintro e w1 ⟨u, rfl, hu⟩
        rw [HZ.out]
        have HU := hide' hu
        have HO1 := hide' (own_mono HO.out (B0.out.trans (hu.2.mono B0.out.size)))
        clear hu
        go_wp2_with (at_builtin; refine appAllB rfl (.tmp 26) (.tmp 27) rfl w _ acc rfl HO1.out _ _ rfl (holdsB_own HU.out) (by have h1 := BD.out; have h2 := HB.out; have h3 := HL.out; have h4 := LN.out; (try dsimp only at h1); omega) ?_; intro v2 w2 ho2; have HO2 := hide' ho2; clear ho2)
        go_roundw
        case rel => exact ⟨k + 1, _, by omega, by go_num, HO2, HE2, by unfold Hid; have h1 := BD.out; have h2 := HB.out; have h4 := LN.out; (try dsimp only at h1); rw [List.length_append]; omega⟩
        case measure => simp [intOf]; omega
      · have HE2 : Hid (encG 0 rs = ([], (encOf (k : Int) q1 q2 q3).2)) := by
          unfold Hid; rw [HE.out, D.out]; exact encH_bad (r := (q0, q1, q2, q3)) hz
        obtain ⟨y, hy⟩ : ∃ y, y = (encOf (k : Int) q1 q2 q3).2 := ⟨_, rfl⟩
        have hy0 : decide (y = 0) = false := by rw [decide_eq_false_iff_not, hy]; exact hz
        have hy2 : ¬ y = 0 := by rw [hy]; exact hz
        rw [← hy] at CE HE2
        clear hz hy
        go_wp2_with fail
        refine CE.out.mono ?_
        rintro e w1 ⟨u, rfl, hu⟩
        have HB1 := hide' (HO.out.2.trans ((B0.out.trans (hu.2.mono B0.out.size)).mono HO.out.2.size))
        clear hu
        go_wp2_with fail
        go_ret2
        rw [HE2.out]
        exact ⟨_, rfl, own_nil w _ HB1.out⟩
    · obtain rfl : k = n := by omega
      have HE2 : Hid (encG 0 rs = (acc, 0)) := by
        unfold Hid; rw [HE.out, List.drop_eq_nil_of_le (by rw [N.out]; omega)]; show encH acc ([], 0) = _; unfold encH; rw [if_pos rfl, List.append_nil]
      go_wp2_with fail
      go_ret2
      rw [HE2.out]
      exact ⟨_, rfl, HO.out⟩
end Go.Proofs.YtibjcofbhldenaaGreatDoor
namespace Go.Proofs.YtibjcofbhldenaaGreatDoor
open Go.RowKit Go.Shelf
set_option maxRecDepth 20000
def atR (bs : List UInt8) : Nat → Nat
  | 0 => 0
  | k + 1 => atR bs k + (decOf (bs.drop (atR bs k))).n
def recR (bs : List UInt8) (k : Nat) : RecD := decOf (bs.drop (atR bs k))
def okR (bs : List UInt8) (k : Nat) : Prop := (recR bs k).n ≠ 0 ∧ (recR bs k).seq = k
def rcOf (d : RecD) : Rc := (d.seq, d.op, d.no, d.id)
def repR (bs : List UInt8) (k : Nat) : RL := (List.range k).map (fun i => rcOf (recR bs i))
theorem repR_succ (bs : List UInt8) (k : Nat) : repR bs (k + 1) = repR bs k ++ [rcOf (recR bs k)] := by unfold repR; rw [List.range_succ, List.map_append]; rfl
theorem repR_len (bs : List UInt8) (k : Nat) : (repR bs k).length = k := by unfold repR; simp
theorem atR_succ (bs : List UInt8) (k : Nat) : atR bs (k + 1) = atR bs k + (recR bs k).n := rfl
theorem dec_n_le (l : List UInt8) : (decOf l).n ≤ l.length := by
  unfold decOf
  repeat' split
  all_goals first | exact Nat.zero_le _ | (simp only []; omega)
theorem atR_le (bs : List UInt8) : ∀ k, atR bs k ≤ bs.length := by
  intro k
  induction k with
  | zero => exact Nat.zero_le _
  | succ k ih =>
    have h := dec_n_le (bs.drop (atR bs k))
    rw [List.length_drop] at h
    show atR bs k + _ ≤ _
    omega
theorem atR_grow (bs : List UInt8) : ∀ k, (∀ i, i < k → okR bs i) → k ≤ atR bs k := by
  intro k
  induction k with
  | zero => intro _; exact Nat.zero_le _
  | succ k ih =>
    intro h
    have h1 := ih (fun i hi => h i (by omega))
    have h2 := (h k (by omega)).1
    rw [atR_succ]
    omega
/-- the sound part has K records -/
def Stops (bs : List UInt8) (K : Nat) : Prop := (∀ i, i < K → okR bs i) ∧ ¬ okR bs K
theorem stops_one {bs : List UInt8} {K L : Nat} (h : Stops bs K) (g : Stops bs L) : K = L := by
  rcases Nat.lt_trichotomy K L with h1 | h1 | h1
  · exact absurd (g.1 K h1) h.2
  · exact h1
  · exact absurd (h.1 L h1) g.2
theorem stops_le {bs : List UInt8} {K : Nat} (h : Stops bs K) : K ≤ bs.length := Nat.le_trans (atR_grow bs K h.1) (atR_le bs K)
theorem dropB {w : World} {v : Value} {bs : List UInt8} (h : HoldsB w v bs) (k : Nat) (hk : k ≤ bs.length) :
    ∃ pv, (∀ W, Sem.run Tryz.prog (Instr.slice 57 v (some (.int .i64 (k : Int))) none none) W = .ok pv W) ∧ HoldsB w pv (bs.drop k) := by
  obtain ⟨pv, h1, h2⟩ := midB h k bs.length hk (Nat.le_refl _)
  rw [show (bs.drop k).take (bs.length - k) = bs.drop k by rw [List.take_of_length_le (by rw [List.length_drop]; omega)]] at h2
  refine ⟨pv, fun W => ?_, h2⟩
  rw [← h1 W]
  obtain ⟨ao, cap, rfl, h0, hcp, hc⟩ := h
  have hel : Tryz.prog.elem 57 = 5 := by kernel_rfl
  have e1 := run_slice_l (P := Tryz.prog) W 57 ao bs.length cap (by rw [hel]; exact Tryz.underlying57) .i64 k (by omega) (by omega)
  have e2 := run_slice_lh (P := Tryz.prog) W 57 ao bs.length cap (by rw [hel]; exact Tryz.underlying57) .i64 .i64 k bs.length (by omega) (by omega) (by omega)
  rw [e1, e2]
  simp only [Int.toNat_natCast]
end Go.Proofs.YtibjcofbhldenaaGreatDoor
namespace Go.Proofs.YtibjcofbhldenaaGreatDoor
open Go.RowKit Go.Shelf
set_option maxRecDepth 20000
theorem ownR_sl {w0 w : World} {v : Value} {rs : RL} (h : OwnR w0 v rs w) : ∃ a c, v = .slice a rs.length c := by
  obtain ⟨hl, h1 | ⟨g, cap, cur, hv, _⟩⟩ := h.1
  · exact ⟨none, 0, by rw [h1.1, h1.2]⟩
  · exact ⟨_, _, hv⟩
end Go.Proofs.YtibjcofbhldenaaGreatDoor
namespace Go.Proofs.YtibjcofbhldenaaGreatDoor
theorem enc_inv {seq op no : Int} {id x : List UInt8} (h : encOf seq op no id = (x, 0)) : (op = 1 ∨ op = 2) ∧ (0 ≤ seq ∧ seq ≤ 4294967295) ∧ (0 ≤ no ∧ no ≤ 4294967295) ∧ id.length ≤ 4096 ∧ x = recL op.toNat seq.toNat no.toNat id := by
  unfold encOf at h
  split at h
  · rename_i h1
    split at h
    · rename_i h2
      exact ⟨h1.1, h1.2.1, h1.2.2, h2, (congrArg Prod.fst h).symm⟩
    · exact absurd (congrArg Prod.snd h) (by simp)
  · exact absurd (congrArg Prod.snd h) (by simp)
end Go.Proofs.YtibjcofbhldenaaGreatDoor
