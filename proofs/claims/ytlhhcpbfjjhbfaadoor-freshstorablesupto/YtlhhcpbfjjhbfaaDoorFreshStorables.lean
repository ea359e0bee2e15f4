/- FreshStorables, for arguments up to the reading's bound: every Storable is the document's, and what is handed in is left as it was. -/
import Derived.Test.YtlhhcpbfjjhbfaaDoorFhR
import Derived.Test.YtlhhcpbfjjhbfaaDoorFhS
import Derived.Test.YtlhhcpbfjjhbfaaDoorBr
import Derived.Deep.DeepCutAuto
import Derived.Test.YtlhhcpbfjjhbfaaDoorFhRa
import Derived.Test.YtlhhcpbfjjhbfaaDoorFhRb
import Derived.Test.YtlhhcpbfjjhbfaaDoorBm
import Derived.Test.YtlhhcpbfjjhbfaaDoorCards
import Derived.Test.YtlhhcpbfjjhbfaaDoorTie
import Derived.OpenShut
import Derived.ShutString
import Derived.ChangeOld
import Derived.Below
import Derived.SizedLaws
import Derived.Deep.DeepHandedRow
import Derived.Lib.LaidTab
namespace Go.Proofs.YtlhhcpbfjjhbfaaDoor
open Go.RowKit
set_option maxRecDepth 20000 in
set_option maxHeartbeats 16000000 in
theorem storableRc (mt : List UInt8) (T R : ByteArray) (kq s k : Int) (aq ao : Option Addr) (nq cq n ca : Nat) (gs fs : FL) (c0 c1 c2 c3 c4 c5 : Bool) (m6 m7 m8 m9 : Int) (b0 b1 b2 b3 b4 b5 : Bool) (n6 n7 n8 n9 : Int) (w : World) (h7 : n7 = -1) (h6 : n6 = -1) (hs : -9223372036854775808 ≤ s ∧ s ≤ 9223372036854775807) (hg : HoldsF w (.slice aq nq cq) gs) (hv : HoldsF w (.slice ao n ca) fs) (hbg : bulkF gs ≤ 1048576) (hb : bulkF fs ≤ 1048576) (TG : Told gs c0 c1 c2 c3 c4 c5 m6 m7 m8 m9) (TF : Told fs b0 b1 b2 b3 b4 b5 n6 n7 n8 n9) :
    Calls Tryd.prog 10 #[.agg #[.string ⟨mt.toArray⟩, .string T, .int .i64 kq, .slice aq nq cq], .agg #[.int .i64 s, .string R, .int .i64 k, .slice ao n ca]] w fun e w' => e = .returned (.bool (stoB (decide (mt = getB)) (okS s n7 n6 (hasN fs exb)) c0 b0 b2 (hasN gs aub) (b3 || (b4 || decide (n7 ≠ -1))) (hasStar fs) (hasN gs rab) (decide (200 ≤ s ∧ s ≤ 299)))) ∧ Below w.heap.size w w' := by
  have H7 := hide' h7
  clear h7
  have H6 := hide' h6
  clear h6
  have O0 : Hid (Below w.heap.size w ((w.alloc (.cells #[.string ⟨mt.toArray⟩, .string T, .int .i64 kq, .slice aq nq cq] 24)).alloc (.cells #[.int .i64 s, .string R, .int .i64 k, .slice ao n ca] 26)) ∧ Blk w.heap.size ((w.alloc (.cells #[.string ⟨mt.toArray⟩, .string T, .int .i64 kq, .slice aq nq cq] 24)).alloc (.cells #[.int .i64 s, .string R, .int .i64 k, .slice ao n ca] 26)) [.string ⟨mt.toArray⟩, .string T, .int .i64 kq, .slice aq nq cq] ∧ Blk (w.heap.size + 1) ((w.alloc (.cells #[.string ⟨mt.toArray⟩, .string T, .int .i64 kq, .slice aq nq cq] 24)).alloc (.cells #[.int .i64 s, .string R, .int .i64 k, .slice ao n ca] 26)) [.int .i64 s, .string R, .int .i64 k, .slice ao n ca]) := by
    have b1 := below_alloc' w (.cells #[.string ⟨mt.toArray⟩, .string T, .int .i64 kq, .slice aq nq cq] 24)
    have b2 := below_alloc' (w.alloc (.cells #[.string ⟨mt.toArray⟩, .string T, .int .i64 kq, .slice aq nq cq] 24)) (.cells #[.int .i64 s, .string R, .int .i64 k, .slice ao n ca] 26)
    have c2 := cells_lit (w.alloc (.cells #[.string ⟨mt.toArray⟩, .string T, .int .i64 kq, .slice aq nq cq] 24)) #[.int .i64 s, .string R, .int .i64 k, .slice ao n ca] 26
    have z : (w.alloc (.cells #[.string ⟨mt.toArray⟩, .string T, .int .i64 kq, .slice aq nq cq] 24)).heap.size = w.heap.size + 1 := by simp
    rw [z] at c2
    exact ⟨bt' b1 b2, cells_below (cells_lit w #[.string ⟨mt.toArray⟩, .string T, .int .i64 kq, .slice aq nq cq] 24) b2, c2⟩
  have cT := hide' (fun W (h : Below w.heap.size w W) => ctlRT (.slice ao n ca) fs b0 b1 b2 b3 b4 b5 n6 n7 n8 n9 TF W (holdsF_mono hv h) hb)
  have cG := hide' (fun W (h : Below w.heap.size w W) => ctlRT (.slice aq nq cq) gs c0 c1 c2 c3 c4 c5 m6 m7 m8 m9 TG W (holdsF_mono hg h) hbg)
  have cX := hide' (fun W (h : Below w.heap.size w W) => by have c := hasRC (.slice ao n ca) fs exbR W (holdsF_mono hv h) hb (by decide); unfold hasN at c; rw [vals_exb] at c; exact c)
  have cA := hide' (fun W (h : Below w.heap.size w W) => by have c := hasRC (.slice aq nq cq) gs auR W (holdsF_mono hg h) hbg (by decide); unfold hasN at c; rw [vals_au] at c; exact c)
  have cR := hide' (fun W (h : Below w.heap.size w W) => by have c := hasRC (.slice aq nq cq) gs raR W (holdsF_mono hg h) hbg (by decide); unfold hasN at c; rw [vals_ra] at c; exact c)
  have cV := hide' (fun W (h : Below w.heap.size w W) => by have c := hasRef (.slice ao n ca) fs vaR [42] W (holdsF_mono hv h) hb (by decide); rw [vals_va] at c; exact c)
  have c9 : Hid (∀ (W : World) (b : Nat), b = W.heap.size → Calls Tryd.prog 28 #[.int .i64 s, .slice (some ⟨b, 0, none⟩) 9 9] (W.alloc (.cells #[.int .i64 200, .int .i64 203, .int .i64 300, .int .i64 301, .int .i64 404, .int .i64 405, .int .i64 410, .int .i64 414, .int .i64 501] 3)) fun e w' => e = .returned (.bool (inL9 s)) ∧ w' = W.alloc (.cells #[.int .i64 200, .int .i64 203, .int .i64 300, .int .i64 301, .int .i64 404, .int .i64 405, .int .i64 410, .int .i64 414, .int .i64 501] 3)) := fun W b hb => by rw [hb]; exact amongL s [200, 203, 300, 301, 404, 405, 410, 414, 501] 9 rfl (by omega) W
  have c2' : Hid (∀ (W : World) (b : Nat), b = W.heap.size → Calls Tryd.prog 28 #[.int .i64 s, .slice (some ⟨b, 0, none⟩) 2 2] (W.alloc (.cells #[.int .i64 302, .int .i64 307] 3)) fun e w' => e = .returned (.bool (inL2 s)) ∧ w' = W.alloc (.cells #[.int .i64 302, .int .i64 307] 3)) := fun W b hb => by rw [hb]; exact amongL s [302, 307] 2 rfl (by omega) W
  have t7 := TF.i7.1
  have t6 := TF.i6.1
  have qs : IntKind.i64.wrap (s.tdiv 100) = s.tdiv 100 := by
    have h1 : s.tdiv 100 ≤ 9223372036854775807 := by
      rcases Int.le_total 0 s with h | h
      · rw [Int.tdiv_eq_ediv_of_nonneg h]; omega
      · have := tdiv_neg s h; omega
    have h2 : -9223372036854775808 ≤ s.tdiv 100 := by
      rcases Int.le_total 0 s with h | h
      · rw [Int.tdiv_eq_ediv_of_nonneg h]; omega
      · have e : s.tdiv 100 = -((-s).tdiv 100) := by rw [Int.neg_tdiv]; omega
        rw [e, Int.tdiv_eq_ediv_of_nonneg (by omega)]; omega
    rw [IntKind.wrap_i64]; omega
  clear hv hg hb hbg TG TF hs
  obtain ⟨r, er⟩ : ∃ r, r = stoB (decide (mt = getB)) (okS s n7 n6 (hasN fs exb)) c0 b0 b2 (hasN gs aub) (b3 || (b4 || decide (n7 ≠ -1))) (hasStar fs) (hasN gs rab) (decide (200 ≤ s ∧ s ≤ 299)) := ⟨_, rfl⟩
  rw [← er]
  rw [okS_eq] at er
  unfold hasStar hasN at er
  have ER := hide' er
  clear er
  generalize decide (0 < (valsOf fs exb).length) = hE at cX ER
  generalize decide (0 < (valsOf gs aub).length) = hA at cA ER
  generalize decide (0 < (valsOf gs rab).length) = hR at cR ER
  generalize decide (([42] : List UInt8) ∈ toksOf (valsOf fs vab)) = star at cV ER
  generalize inL9 s = i9 at c9 ER
  generalize inL2 s = i2 at c2' ER
  go_enter Tryd.func10, Tryd.ntmps10
  go_wp2_with fail
  refine (cG.out _ O0.out.1).mono ?_
  rintro e w1 ⟨rfl, bw1⟩
  have O1 : Hid (Below w.heap.size w (w1.alloc (.cells #[.bool c0, .bool c1, .bool c2, .bool c3, .bool c4, .bool c5, .int .i64 m6, .int .i64 m7, .int .i64 m8, .int .i64 m9] 40)) ∧ Blk w.heap.size (w1.alloc (.cells #[.bool c0, .bool c1, .bool c2, .bool c3, .bool c4, .bool c5, .int .i64 m6, .int .i64 m7, .int .i64 m8, .int .i64 m9] 40)) [.string ⟨mt.toArray⟩, .string T, .int .i64 kq, .slice aq nq cq] ∧ Blk (w.heap.size + 1) (w1.alloc (.cells #[.bool c0, .bool c1, .bool c2, .bool c3, .bool c4, .bool c5, .int .i64 m6, .int .i64 m7, .int .i64 m8, .int .i64 m9] 40)) [.int .i64 s, .string R, .int .i64 k, .slice ao n ca] ∧ Blk w1.heap.size (w1.alloc (.cells #[.bool c0, .bool c1, .bool c2, .bool c3, .bool c4, .bool c5, .int .i64 m6, .int .i64 m7, .int .i64 m8, .int .i64 m9] 40)) [.bool c0, .bool c1, .bool c2, .bool c3, .bool c4, .bool c5, .int .i64 m6, .int .i64 m7, .int .i64 m8, .int .i64 m9]) := by
    have bb := bt' bw1 (below_alloc' w1 (.cells #[.bool c0, .bool c1, .bool c2, .bool c3, .bool c4, .bool c5, .int .i64 m6, .int .i64 m7, .int .i64 m8, .int .i64 m9] 40))
    exact ⟨bt' O0.out.1 bb, cells_below O0.out.2.1 bb, cells_below O0.out.2.2 bb, cells_lit w1 #[.bool c0, .bool c1, .bool c2, .bool c3, .bool c4, .bool c5, .int .i64 m6, .int .i64 m7, .int .i64 m8, .int .i64 m9] 40⟩
  clear bw1 O0 cG
  obtain ⟨r0, r1, r2, r3⟩ := four_open O1.out.2.2.1
  go_wp2_with fail
  refine (cT.out _ O1.out.1).mono ?_
  rintro e w2 ⟨rfl, bw2⟩
  have O : Hid (S4 w w1.heap.size w2.heap.size (w2.alloc (.cells #[.bool b0, .bool b1, .bool b2, .bool b3, .bool b4, .bool b5, .int .i64 n6, .int .i64 n7, .int .i64 n8, .int .i64 n9] 40)) mt T R kq s k aq ao nq cq n ca [.bool c0, .bool c1, .bool c2, .bool c3, .bool c4, .bool c5, .int .i64 m6, .int .i64 m7, .int .i64 m8, .int .i64 m9] [.bool b0, .bool b1, .bool b2, .bool b3, .bool b4, .bool b5, .int .i64 n6, .int .i64 n7, .int .i64 n8, .int .i64 n9]) := by
    have bb := bt' bw2 (below_alloc' w2 (.cells #[.bool b0, .bool b1, .bool b2, .bool b3, .bool b4, .bool b5, .int .i64 n6, .int .i64 n7, .int .i64 n8, .int .i64 n9] 40))
    exact ⟨bt' O1.out.1 bb, cells_below O1.out.2.1 bb, cells_below O1.out.2.2.1 bb, cells_below O1.out.2.2.2 bb, cells_lit w2 #[.bool b0, .bool b1, .bool b2, .bool b3, .bool b4, .bool b5, .int .i64 n6, .int .i64 n7, .int .i64 n8, .int .i64 n9] 40⟩
  clear bw2 O1 cT r0 r1 r2 r3
  have O9 := O.out
  obtain ⟨q0, q1, q2, q3⟩ := four_open O9.2.1
  obtain ⟨r0, r1, r2, r3⟩ := four_open O9.2.2.1
  obtain ⟨k0, k1, k2, k3, k4, k5, k6, k7, k8, k9⟩ := (cells10K O9.2.2.2.1).1
  obtain ⟨l0, l1, l2, l3, l4, l5, l6, l7, l8, l9⟩ := (cells10K O9.2.2.2.2).1
  clear O9
  obtain ⟨tl, etl⟩ : ∃ tl, tl = (decide (n7 ≠ -1) || (decide (n6 ≠ -1) || hE)) := ⟨_, rfl⟩
  rw [← etl] at ER
  have h7 := H7.out
  have h6 := H6.out
  clear H7 H6
  subst h7 h6
  have ht : tl = hE := by rw [etl]; simp
  clear etl
  subst ht
  go_wp2_with fail
  refine (cX.out _ O.out.1).mono ?_
  rintro e wn ⟨rfl, bn⟩
  replace O := hide' (s4_below O.out bn)
  clear bn q0 q1 q2 q3 r0 r1 r2 r3 k0 k1 k2 k3 k4 k5 k6 k7 k8 k9 l0 l1 l2 l3 l4 l5 l6 l7 l8 l9
  have O9 := O.out
  obtain ⟨q0, q1, q2, q3⟩ := four_open O9.2.1
  obtain ⟨r0, r1, r2, r3⟩ := four_open O9.2.2.1
  obtain ⟨k0, k1, k2, k3, k4, k5, k6, k7, k8, k9⟩ := (cells10K O9.2.2.2.1).1
  obtain ⟨l0, l1, l2, l3, l4, l5, l6, l7, l8, l9⟩ := (cells10K O9.2.2.2.2).1
  clear O9
  by_cases hM : mt = getB
  case neg =>
    have hq := ba_eql' mt getB hM
    rw [decide_eq_false hM] at ER
    have EQ : Hid (r = false) := by unfold Hid; rw [ER.out]; simp [stoB]
    clear ER
    go_wp2_with fail
    go_ret
    exact ⟨by rw [EQ.out]; try rfl, O.out.1⟩
  subst hM
  rw [decide_eq_true rfl] at ER
  cases c0 with
  | true =>
    have EQ : Hid (r = false) := by unfold Hid; rw [ER.out]; simp [stoB]
    clear ER
    go_wp2_with fail
    go_ret
    exact ⟨by rw [EQ.out]; try rfl, O.out.1⟩
  | false =>
  cases b0 with
  | true =>
    have EQ : Hid (r = false) := by unfold Hid; rw [ER.out]; simp [stoB]
    clear ER
    go_wp2_with fail
    go_ret
    exact ⟨by rw [EQ.out]; try rfl, O.out.1⟩
  | false =>
  cases b2 with
  | true =>
    have EQ : Hid (r = false) := by unfold Hid; rw [ER.out]; simp [stoB]
    clear ER
    go_wp2_with fail
    go_ret
    exact ⟨by rw [EQ.out]; try rfl, O.out.1⟩
  | false =>
  go_wp2_with fail
  refine (c9.out wn _ (by simp)).mono ?_
  rintro e w9 ⟨rfl, ew⟩
  rw [ew]
  clear ew w9
  replace O := hide' (s4_below O.out (below_alloc' _ (.cells #[.int .i64 200, .int .i64 203, .int .i64 300, .int .i64 301, .int .i64 404, .int .i64 405, .int .i64 410, .int .i64 414, .int .i64 501] 3)))
  clear q0 q1 q2 q3 r0 r1 r2 r3 k0 k1 k2 k3 k4 k5 k6 k7 k8 k9 l0 l1 l2 l3 l4 l5 l6 l7 l8 l9
  have O9 := O.out
  obtain ⟨q0, q1, q2, q3⟩ := four_open O9.2.1
  obtain ⟨r0, r1, r2, r3⟩ := four_open O9.2.2.1
  obtain ⟨k0, k1, k2, k3, k4, k5, k6, k7, k8, k9⟩ := (cells10K O9.2.2.2.1).1
  obtain ⟨l0, l1, l2, l3, l4, l5, l6, l7, l8, l9⟩ := (cells10K O9.2.2.2.2).1
  clear O9
  cases i9 with
  | true =>
    go_wp2_with fail
    refine (cA.out _ O.out.1).mono ?_
    rintro e wn ⟨rfl, bn⟩
    replace O := hide' (s4_below O.out bn)
    clear bn q0 q1 q2 q3 r0 r1 r2 r3 k0 k1 k2 k3 k4 k5 k6 k7 k8 k9 l0 l1 l2 l3 l4 l5 l6 l7 l8 l9
    have O9 := O.out
    obtain ⟨q0, q1, q2, q3⟩ := four_open O9.2.1
    obtain ⟨r0, r1, r2, r3⟩ := four_open O9.2.2.1
    obtain ⟨k0, k1, k2, k3, k4, k5, k6, k7, k8, k9⟩ := (cells10K O9.2.2.2.1).1
    obtain ⟨l0, l1, l2, l3, l4, l5, l6, l7, l8, l9⟩ := (cells10K O9.2.2.2.2).1
    clear O9
    cases hA with
    | false =>
      go_wp2_with fail
      refine (cV.out _ O.out.1).mono ?_
      rintro e wn ⟨rfl, bn⟩
      replace O := hide' (s4_below O.out bn)
      clear bn q0 q1 q2 q3 r0 r1 r2 r3 k0 k1 k2 k3 k4 k5 k6 k7 k8 k9 l0 l1 l2 l3 l4 l5 l6 l7 l8 l9
      have O9 := O.out
      obtain ⟨q0, q1, q2, q3⟩ := four_open O9.2.1
      obtain ⟨r0, r1, r2, r3⟩ := four_open O9.2.2.1
      obtain ⟨k0, k1, k2, k3, k4, k5, k6, k7, k8, k9⟩ := (cells10K O9.2.2.2.1).1
      obtain ⟨l0, l1, l2, l3, l4, l5, l6, l7, l8, l9⟩ := (cells10K O9.2.2.2.2).1
      clear O9
      cases star with
      | true =>
        have EQ : Hid (r = false) := by unfold Hid; rw [ER.out]; simp [stoB]
        clear ER
        go_wp2_with fail
        go_ret
        exact ⟨by rw [EQ.out]; try rfl, O.out.1⟩
      | false =>
      go_wp2_with fail
      refine (cR.out _ O.out.1).mono ?_
      rintro e wn ⟨rfl, bn⟩
      replace O := hide' (s4_below O.out bn)
      clear bn q0 q1 q2 q3 r0 r1 r2 r3 k0 k1 k2 k3 k4 k5 k6 k7 k8 k9 l0 l1 l2 l3 l4 l5 l6 l7 l8 l9
      have O9 := O.out
      obtain ⟨q0, q1, q2, q3⟩ := four_open O9.2.1
      obtain ⟨r0, r1, r2, r3⟩ := four_open O9.2.2.1
      obtain ⟨k0, k1, k2, k3, k4, k5, k6, k7, k8, k9⟩ := (cells10K O9.2.2.2.1).1
      obtain ⟨l0, l1, l2, l3, l4, l5, l6, l7, l8, l9⟩ := (cells10K O9.2.2.2.2).1
      clear O9
      cases hR with
      | false =>
        have EQ : Hid (r = true) := by unfold Hid; rw [ER.out]; simp [stoB]
        clear ER
        go_wp2_with fail
        go_ret
        exact ⟨by rw [EQ.out]; try rfl, O.out.1⟩
      | true =>
      rw [part_eq] at ER
      have EQ : Hid (r = !(s.tdiv 100 == 2)) := by unfold Hid; rw [ER.out]; simp [stoB]
      clear ER
      go_wp2_with fail
      go_ret
      exact ⟨by rw [EQ.out]; try rfl, O.out.1⟩
    | true =>
    cases b3 with
    | true =>
      go_wp2_with fail
      refine (cV.out _ O.out.1).mono ?_
      rintro e wn ⟨rfl, bn⟩
      replace O := hide' (s4_below O.out bn)
      clear bn q0 q1 q2 q3 r0 r1 r2 r3 k0 k1 k2 k3 k4 k5 k6 k7 k8 k9 l0 l1 l2 l3 l4 l5 l6 l7 l8 l9
      have O9 := O.out
      obtain ⟨q0, q1, q2, q3⟩ := four_open O9.2.1
      obtain ⟨r0, r1, r2, r3⟩ := four_open O9.2.2.1
      obtain ⟨k0, k1, k2, k3, k4, k5, k6, k7, k8, k9⟩ := (cells10K O9.2.2.2.1).1
      obtain ⟨l0, l1, l2, l3, l4, l5, l6, l7, l8, l9⟩ := (cells10K O9.2.2.2.2).1
      clear O9
      cases star with
      | true =>
        have EQ : Hid (r = false) := by unfold Hid; rw [ER.out]; simp [stoB]
        clear ER
        go_wp2_with fail
        go_ret
        exact ⟨by rw [EQ.out]; try rfl, O.out.1⟩
      | false =>
      go_wp2_with fail
      refine (cR.out _ O.out.1).mono ?_
      rintro e wn ⟨rfl, bn⟩
      replace O := hide' (s4_below O.out bn)
      clear bn q0 q1 q2 q3 r0 r1 r2 r3 k0 k1 k2 k3 k4 k5 k6 k7 k8 k9 l0 l1 l2 l3 l4 l5 l6 l7 l8 l9
      have O9 := O.out
      obtain ⟨q0, q1, q2, q3⟩ := four_open O9.2.1
      obtain ⟨r0, r1, r2, r3⟩ := four_open O9.2.2.1
      obtain ⟨k0, k1, k2, k3, k4, k5, k6, k7, k8, k9⟩ := (cells10K O9.2.2.2.1).1
      obtain ⟨l0, l1, l2, l3, l4, l5, l6, l7, l8, l9⟩ := (cells10K O9.2.2.2.2).1
      clear O9
      cases hR with
      | false =>
        have EQ : Hid (r = true) := by unfold Hid; rw [ER.out]; simp [stoB]
        clear ER
        go_wp2_with fail
        go_ret
        exact ⟨by rw [EQ.out]; try rfl, O.out.1⟩
      | true =>
      rw [part_eq] at ER
      have EQ : Hid (r = !(s.tdiv 100 == 2)) := by unfold Hid; rw [ER.out]; simp [stoB]
      clear ER
      go_wp2_with fail
      go_ret
      exact ⟨by rw [EQ.out]; try rfl, O.out.1⟩
    | false =>
    cases b4 with
    | true =>
      go_wp2_with fail
      refine (cV.out _ O.out.1).mono ?_
      rintro e wn ⟨rfl, bn⟩
      replace O := hide' (s4_below O.out bn)
      clear bn q0 q1 q2 q3 r0 r1 r2 r3 k0 k1 k2 k3 k4 k5 k6 k7 k8 k9 l0 l1 l2 l3 l4 l5 l6 l7 l8 l9
      have O9 := O.out
      obtain ⟨q0, q1, q2, q3⟩ := four_open O9.2.1
      obtain ⟨r0, r1, r2, r3⟩ := four_open O9.2.2.1
      obtain ⟨k0, k1, k2, k3, k4, k5, k6, k7, k8, k9⟩ := (cells10K O9.2.2.2.1).1
      obtain ⟨l0, l1, l2, l3, l4, l5, l6, l7, l8, l9⟩ := (cells10K O9.2.2.2.2).1
      clear O9
      cases star with
      | true =>
        have EQ : Hid (r = false) := by unfold Hid; rw [ER.out]; simp [stoB]
        clear ER
        go_wp2_with fail
        go_ret
        exact ⟨by rw [EQ.out]; try rfl, O.out.1⟩
      | false =>
      go_wp2_with fail
      refine (cR.out _ O.out.1).mono ?_
      rintro e wn ⟨rfl, bn⟩
      replace O := hide' (s4_below O.out bn)
      clear bn q0 q1 q2 q3 r0 r1 r2 r3 k0 k1 k2 k3 k4 k5 k6 k7 k8 k9 l0 l1 l2 l3 l4 l5 l6 l7 l8 l9
      have O9 := O.out
      obtain ⟨q0, q1, q2, q3⟩ := four_open O9.2.1
      obtain ⟨r0, r1, r2, r3⟩ := four_open O9.2.2.1
      obtain ⟨k0, k1, k2, k3, k4, k5, k6, k7, k8, k9⟩ := (cells10K O9.2.2.2.1).1
      obtain ⟨l0, l1, l2, l3, l4, l5, l6, l7, l8, l9⟩ := (cells10K O9.2.2.2.2).1
      clear O9
      cases hR with
      | false =>
        have EQ : Hid (r = true) := by unfold Hid; rw [ER.out]; simp [stoB]
        clear ER
        go_wp2_with fail
        go_ret
        exact ⟨by rw [EQ.out]; try rfl, O.out.1⟩
      | true =>
      rw [part_eq] at ER
      have EQ : Hid (r = !(s.tdiv 100 == 2)) := by unfold Hid; rw [ER.out]; simp [stoB]
      clear ER
      go_wp2_with fail
      go_ret
      exact ⟨by rw [EQ.out]; try rfl, O.out.1⟩
    | false =>
    have EQ : Hid (r = false) := by unfold Hid; rw [ER.out]; simp [stoB]
    clear ER
    go_wp2_with fail
    go_ret
    exact ⟨by rw [EQ.out]; try rfl, O.out.1⟩
  | false =>
  go_wp2_with fail
  refine (c2'.out (wn.alloc (.cells #[.int .i64 200, .int .i64 203, .int .i64 300, .int .i64 301, .int .i64 404, .int .i64 405, .int .i64 410, .int .i64 414, .int .i64 501] 3)) _ (by simp)).mono ?_
  rintro e w9 ⟨rfl, ew⟩
  rw [ew]
  clear ew w9
  replace O := hide' (s4_below O.out (below_alloc' _ (.cells #[.int .i64 302, .int .i64 307] 3)))
  clear q0 q1 q2 q3 r0 r1 r2 r3 k0 k1 k2 k3 k4 k5 k6 k7 k8 k9 l0 l1 l2 l3 l4 l5 l6 l7 l8 l9
  have O9 := O.out
  obtain ⟨q0, q1, q2, q3⟩ := four_open O9.2.1
  obtain ⟨r0, r1, r2, r3⟩ := four_open O9.2.2.1
  obtain ⟨k0, k1, k2, k3, k4, k5, k6, k7, k8, k9⟩ := (cells10K O9.2.2.2.1).1
  obtain ⟨l0, l1, l2, l3, l4, l5, l6, l7, l8, l9⟩ := (cells10K O9.2.2.2.2).1
  clear O9
  cases i2 with
  | false =>
    have EQ : Hid (r = false) := by unfold Hid; rw [ER.out]; simp [stoB]
    clear ER
    go_wp2_with fail
    go_ret
    exact ⟨by rw [EQ.out]; try rfl, O.out.1⟩
  | true =>
  cases tl with
  | false =>
    have EQ : Hid (r = false) := by unfold Hid; rw [ER.out]; simp [stoB]
    clear ER
    go_wp2_with fail
    go_ret
    exact ⟨by rw [EQ.out]; try rfl, O.out.1⟩
  | true =>
  go_wp2_with fail
  refine (cA.out _ O.out.1).mono ?_
  rintro e wn ⟨rfl, bn⟩
  replace O := hide' (s4_below O.out bn)
  clear bn q0 q1 q2 q3 r0 r1 r2 r3 k0 k1 k2 k3 k4 k5 k6 k7 k8 k9 l0 l1 l2 l3 l4 l5 l6 l7 l8 l9
  have O9 := O.out
  obtain ⟨q0, q1, q2, q3⟩ := four_open O9.2.1
  obtain ⟨r0, r1, r2, r3⟩ := four_open O9.2.2.1
  obtain ⟨k0, k1, k2, k3, k4, k5, k6, k7, k8, k9⟩ := (cells10K O9.2.2.2.1).1
  obtain ⟨l0, l1, l2, l3, l4, l5, l6, l7, l8, l9⟩ := (cells10K O9.2.2.2.2).1
  clear O9
  cases hA with
  | false =>
    go_wp2_with fail
    refine (cV.out _ O.out.1).mono ?_
    rintro e wn ⟨rfl, bn⟩
    replace O := hide' (s4_below O.out bn)
    clear bn q0 q1 q2 q3 r0 r1 r2 r3 k0 k1 k2 k3 k4 k5 k6 k7 k8 k9 l0 l1 l2 l3 l4 l5 l6 l7 l8 l9
    have O9 := O.out
    obtain ⟨q0, q1, q2, q3⟩ := four_open O9.2.1
    obtain ⟨r0, r1, r2, r3⟩ := four_open O9.2.2.1
    obtain ⟨k0, k1, k2, k3, k4, k5, k6, k7, k8, k9⟩ := (cells10K O9.2.2.2.1).1
    obtain ⟨l0, l1, l2, l3, l4, l5, l6, l7, l8, l9⟩ := (cells10K O9.2.2.2.2).1
    clear O9
    cases star with
    | true =>
      have EQ : Hid (r = false) := by unfold Hid; rw [ER.out]; simp [stoB]
      clear ER
      go_wp2_with fail
      go_ret
      exact ⟨by rw [EQ.out]; try rfl, O.out.1⟩
    | false =>
    go_wp2_with fail
    refine (cR.out _ O.out.1).mono ?_
    rintro e wn ⟨rfl, bn⟩
    replace O := hide' (s4_below O.out bn)
    clear bn q0 q1 q2 q3 r0 r1 r2 r3 k0 k1 k2 k3 k4 k5 k6 k7 k8 k9 l0 l1 l2 l3 l4 l5 l6 l7 l8 l9
    have O9 := O.out
    obtain ⟨q0, q1, q2, q3⟩ := four_open O9.2.1
    obtain ⟨r0, r1, r2, r3⟩ := four_open O9.2.2.1
    obtain ⟨k0, k1, k2, k3, k4, k5, k6, k7, k8, k9⟩ := (cells10K O9.2.2.2.1).1
    obtain ⟨l0, l1, l2, l3, l4, l5, l6, l7, l8, l9⟩ := (cells10K O9.2.2.2.2).1
    clear O9
    cases hR with
    | false =>
      have EQ : Hid (r = true) := by unfold Hid; rw [ER.out]; simp [stoB]
      clear ER
      go_wp2_with fail
      go_ret
      exact ⟨by rw [EQ.out]; try rfl, O.out.1⟩
    | true =>
    rw [part_eq] at ER
    have EQ : Hid (r = !(s.tdiv 100 == 2)) := by unfold Hid; rw [ER.out]; simp [stoB]
    clear ER
    go_wp2_with fail
    go_ret
    exact ⟨by rw [EQ.out]; try rfl, O.out.1⟩
  | true =>
  cases b3 with
  | true =>
    go_wp2_with fail
    refine (cV.out _ O.out.1).mono ?_
    rintro e wn ⟨rfl, bn⟩
    replace O := hide' (s4_below O.out bn)
    clear bn q0 q1 q2 q3 r0 r1 r2 r3 k0 k1 k2 k3 k4 k5 k6 k7 k8 k9 l0 l1 l2 l3 l4 l5 l6 l7 l8 l9
    have O9 := O.out
    obtain ⟨q0, q1, q2, q3⟩ := four_open O9.2.1
    obtain ⟨r0, r1, r2, r3⟩ := four_open O9.2.2.1
    obtain ⟨k0, k1, k2, k3, k4, k5, k6, k7, k8, k9⟩ := (cells10K O9.2.2.2.1).1
    obtain ⟨l0, l1, l2, l3, l4, l5, l6, l7, l8, l9⟩ := (cells10K O9.2.2.2.2).1
    clear O9
    cases star with
    | true =>
      have EQ : Hid (r = false) := by unfold Hid; rw [ER.out]; simp [stoB]
      clear ER
      go_wp2_with fail
      go_ret
      exact ⟨by rw [EQ.out]; try rfl, O.out.1⟩
    | false =>
    go_wp2_with fail
    refine (cR.out _ O.out.1).mono ?_
    rintro e wn ⟨rfl, bn⟩
    replace O := hide' (s4_below O.out bn)
    clear bn q0 q1 q2 q3 r0 r1 r2 r3 k0 k1 k2 k3 k4 k5 k6 k7 k8 k9 l0 l1 l2 l3 l4 l5 l6 l7 l8 l9
    have O9 := O.out
    obtain ⟨q0, q1, q2, q3⟩ := four_open O9.2.1
    obtain ⟨r0, r1, r2, r3⟩ := four_open O9.2.2.1
    obtain ⟨k0, k1, k2, k3, k4, k5, k6, k7, k8, k9⟩ := (cells10K O9.2.2.2.1).1
    obtain ⟨l0, l1, l2, l3, l4, l5, l6, l7, l8, l9⟩ := (cells10K O9.2.2.2.2).1
    clear O9
    cases hR with
    | false =>
      have EQ : Hid (r = true) := by unfold Hid; rw [ER.out]; simp [stoB]
      clear ER
      go_wp2_with fail
      go_ret
      exact ⟨by rw [EQ.out]; try rfl, O.out.1⟩
    | true =>
    rw [part_eq] at ER
    have EQ : Hid (r = !(s.tdiv 100 == 2)) := by unfold Hid; rw [ER.out]; simp [stoB]
    clear ER
    go_wp2_with fail
    go_ret
    exact ⟨by rw [EQ.out]; try rfl, O.out.1⟩
  | false =>
  cases b4 with
  | true =>
    go_wp2_with fail
    refine (cV.out _ O.out.1).mono ?_
    rintro e wn ⟨rfl, bn⟩
    replace O := hide' (s4_below O.out bn)
    clear bn q0 q1 q2 q3 r0 r1 r2 r3 k0 k1 k2 k3 k4 k5 k6 k7 k8 k9 l0 l1 l2 l3 l4 l5 l6 l7 l8 l9
    have O9 := O.out
    obtain ⟨q0, q1, q2, q3⟩ := four_open O9.2.1
    obtain ⟨r0, r1, r2, r3⟩ := four_open O9.2.2.1
    obtain ⟨k0, k1, k2, k3, k4, k5, k6, k7, k8, k9⟩ := (cells10K O9.2.2.2.1).1
    obtain ⟨l0, l1, l2, l3, l4, l5, l6, l7, l8, l9⟩ := (cells10K O9.2.2.2.2).1
    clear O9
    cases star with
    | true =>
      have EQ : Hid (r = false) := by unfold Hid; rw [ER.out]; simp [stoB]
      clear ER
      go_wp2_with fail
      go_ret
      exact ⟨by rw [EQ.out]; try rfl, O.out.1⟩
    | false =>
    go_wp2_with fail
    refine (cR.out _ O.out.1).mono ?_
    rintro e wn ⟨rfl, bn⟩
    replace O := hide' (s4_below O.out bn)
    clear bn q0 q1 q2 q3 r0 r1 r2 r3 k0 k1 k2 k3 k4 k5 k6 k7 k8 k9 l0 l1 l2 l3 l4 l5 l6 l7 l8 l9
    have O9 := O.out
    obtain ⟨q0, q1, q2, q3⟩ := four_open O9.2.1
    obtain ⟨r0, r1, r2, r3⟩ := four_open O9.2.2.1
    obtain ⟨k0, k1, k2, k3, k4, k5, k6, k7, k8, k9⟩ := (cells10K O9.2.2.2.1).1
    obtain ⟨l0, l1, l2, l3, l4, l5, l6, l7, l8, l9⟩ := (cells10K O9.2.2.2.2).1
    clear O9
    cases hR with
    | false =>
      have EQ : Hid (r = true) := by unfold Hid; rw [ER.out]; simp [stoB]
      clear ER
      go_wp2_with fail
      go_ret
      exact ⟨by rw [EQ.out]; try rfl, O.out.1⟩
    | true =>
    rw [part_eq] at ER
    have EQ : Hid (r = !(s.tdiv 100 == 2)) := by unfold Hid; rw [ER.out]; simp [stoB]
    clear ER
    go_wp2_with fail
    go_ret
    exact ⟨by rw [EQ.out]; try rfl, O.out.1⟩
  | false =>
  have EQ : Hid (r = false) := by unfold Hid; rw [ER.out]; simp [stoB]
  clear ER
  go_wp2_with fail
  go_ret
  exact ⟨by rw [EQ.out]; try rfl, O.out.1⟩
end Go.Proofs.YtlhhcpbfjjhbfaaDoor
namespace Go.Proofs.YtlhhcpbfjjhbfaaDoor
open Go.RowKit
/-- a request and a response in blocks, and what lists of fields hold besides -/
def H2 (w W : World) (mt tg zr : List UInt8) (kq s k : Int) (aq ao : Option Addr) (nq cq n ca : Nat) (l : List (Value × FL)) : Prop := Below w.heap.size w W ∧ Blk w.heap.size W [.string ⟨mt.toArray⟩, .string ⟨tg.toArray⟩, .int .i64 kq, .slice aq nq cq] ∧ Blk (w.heap.size + 1) W [.int .i64 s, .string ⟨zr.toArray⟩, .int .i64 k, .slice ao n ca] ∧ ∀ p ∈ l, HoldsF W p.1 p.2
theorem h2_below {w W W' : World} {mt tg zr : List UInt8} {kq s k : Int} {aq ao : Option Addr} {nq cq n ca : Nat} {l : List (Value × FL)} (h : H2 w W mt tg zr kq s k aq ao nq cq n ca l) (hb : Below W.heap.size W W') : H2 w W' mt tg zr kq s k aq ao nq cq n ca l := ⟨bt' h.1 hb, cells_below h.2.1 hb, cells_below h.2.2.1 hb, fun p hp => holdsF_mono (h.2.2.2 p hp) hb⟩
theorem h2_drew {w W : World} {mt tg zr : List UInt8} {kq s k : Int} {aq ao : Option Addr} {nq cq n ca : Nat} {l : List (Value × FL)} (h : H2 w W mt tg zr kq s k aq ao nq cq n ca l) : H2 w W.drew mt tg zr kq s k aq ao nq cq n ca l := h2_below h (Below.refl _ _).drew
theorem h2_cells {w W : World} {q : Nat} {mt tg zr : List UInt8} {kq s k : Int} {aq ao : Option Addr} {nq cq n ca : Nat} {l : List (Value × FL)} (hq : q = w.heap.size) (h : H2 w W mt tg zr kq s k aq ao nq cq n ca l) : W.cell? ⟨q, 0, none⟩ = some (.string ⟨mt.toArray⟩) ∧ W.cell? ⟨q, 1, none⟩ = some (.string ⟨tg.toArray⟩) ∧ W.cell? ⟨q, 2, none⟩ = some (.int .i64 kq) ∧ W.cell? ⟨q, 3, none⟩ = some (.slice aq nq cq) ∧ W.cell? ⟨q + 1, 0, none⟩ = some (.int .i64 s) ∧ W.cell? ⟨q + 1, 1, none⟩ = some (.string ⟨zr.toArray⟩) ∧ W.cell? ⟨q + 1, 2, none⟩ = some (.int .i64 k) ∧ W.cell? ⟨q + 1, 3, none⟩ = some (.slice ao n ca) := by
  subst hq
  obtain ⟨h0, h1, h2, h3⟩ := four_open h.2.1
  obtain ⟨i0, i1, i2, i3⟩ := four_open h.2.2.1
  exact ⟨h0, h1, h2, h3, i0, i1, i2, i3⟩
theorem h2_lit (w : World) (mt tg zr : List UInt8) (kq s k : Int) (aq ao : Option Addr) (nq cq n ca : Nat) : H2 w ((w.alloc (.cells #[.string ⟨mt.toArray⟩, .string ⟨tg.toArray⟩, .int .i64 kq, .slice aq nq cq] 24)).alloc (.cells #[.int .i64 s, .string ⟨zr.toArray⟩, .int .i64 k, .slice ao n ca] 26)) mt tg zr kq s k aq ao nq cq n ca [] := by
  have b1 := below_alloc' w (.cells #[.string ⟨mt.toArray⟩, .string ⟨tg.toArray⟩, .int .i64 kq, .slice aq nq cq] 24)
  have b2 := below_alloc' (w.alloc (.cells #[.string ⟨mt.toArray⟩, .string ⟨tg.toArray⟩, .int .i64 kq, .slice aq nq cq] 24)) (.cells #[.int .i64 s, .string ⟨zr.toArray⟩, .int .i64 k, .slice ao n ca] 26)
  have c2 := cells_lit (w.alloc (.cells #[.string ⟨mt.toArray⟩, .string ⟨tg.toArray⟩, .int .i64 kq, .slice aq nq cq] 24)) #[.int .i64 s, .string ⟨zr.toArray⟩, .int .i64 k, .slice ao n ca] 26
  have z : (w.alloc (.cells #[.string ⟨mt.toArray⟩, .string ⟨tg.toArray⟩, .int .i64 kq, .slice aq nq cq] 24)).heap.size = w.heap.size + 1 := by simp
  rw [z] at c2
  exact ⟨bt' b1 b2, cells_below (cells_lit w #[.string ⟨mt.toArray⟩, .string ⟨tg.toArray⟩, .int .i64 kq, .slice aq nq cq] 24) b2, c2, fun p hp => by cases hp⟩
theorem nil_told : Told [] false false false false false false (-1) (-1) (-1) (-1) := ⟨rfl, by omega, by omega, by omega, by omega⟩
theorem nil_holds (w : World) : HoldsF w (.slice none 0 0) [] := ⟨none, 0, rfl, fun _ => rfl, Nat.le_refl _, fun h => absurd rfl h⟩
theorem sto_true {get ok cns dns prv hA op star hR part : Bool} (h : stoB get ok cns dns prv hA op star hR part = true) : get = true ∧ ok = true ∧ cns = false ∧ dns = false ∧ prv = false := by
  unfold stoB at h
  cases get <;> cases ok <;> cases cns <;> cases dns <;> cases prv <;> simp at h ⊢
theorem ok_st {s smx mx : Int} {hE : Bool} (h : okS s smx mx hE = true) : s ≠ 206 ∧ s ≠ 304 ∧ 200 ≤ s := by
  unfold okS negS at h
  simp at h
  omega
/-- the first line of both laws -/
theorem getOk (w : World) : Calls Tryd.prog 7 #[.agg #[.string ⟨getB.toArray⟩, .string ⟨#[]⟩, .int .i64 0, .slice none 0 0], .agg #[.int .i64 200, .string ⟨#[]⟩, .int .i64 0, .slice none 0 0]] w fun e w' => e = .returned (.bool true) ∧ Below w.heap.size w w' := by
  have c := storableFC getB ⟨#[]⟩ ⟨#[]⟩ 0 200 0 none none 0 0 0 0 [] [] false false false false false false (-1) (-1) (-1) (-1) false false false false false false (-1) (-1) (-1) (-1) w (nil_holds w) (nil_holds w) (by decide) (by decide) nil_told nil_told
  rw [show stoB (decide (getB = getB)) (okS 200 (-1) (-1) (hasN [] exb)) false false false (hasN [] aub) (false || (false || decide ((-1 : Int) ≠ -1))) (hasStar []) (hasN [] rab) (decide ((200 : Int) ≤ 200 ∧ (200 : Int) ≤ 299)) = true by decide] at c
  exact c
end Go.Proofs.YtlhhcpbfjjhbfaaDoor
namespace Go.Proofs.YtlhhcpbfjjhbfaaDoor
open Go.RowKit
theorem storableRC (mt : List UInt8) (T R : ByteArray) (kq s k : Int) (aq ao : Option Addr) (nq cq n ca : Nat) (gs fs : FL) (c0 c1 c2 c3 c4 c5 : Bool) (m6 m7 m8 m9 : Int) (b0 b1 b2 b3 b4 b5 : Bool) (n6 n7 n8 n9 : Int) (w : World) (hs : -9223372036854775808 ≤ s ∧ s ≤ 9223372036854775807) (hg : HoldsF w (.slice aq nq cq) gs) (hv : HoldsF w (.slice ao n ca) fs) (hbg : bulkF gs ≤ 1048576) (hb : bulkF fs ≤ 1048576) (TG : Told gs c0 c1 c2 c3 c4 c5 m6 m7 m8 m9) (TF : Told fs b0 b1 b2 b3 b4 b5 n6 n7 n8 n9) :
    Calls Tryd.prog 10 #[.agg #[.string ⟨mt.toArray⟩, .string T, .int .i64 kq, .slice aq nq cq], .agg #[.int .i64 s, .string R, .int .i64 k, .slice ao n ca]] w fun e w' => e = .returned (.bool (stoB (decide (mt = getB)) (okS s n7 n6 (hasN fs exb)) c0 b0 b2 (hasN gs aub) (b3 || (b4 || decide (n7 ≠ -1))) (hasStar fs) (hasN gs rab) (decide (200 ≤ s ∧ s ≤ 299)))) ∧ Below w.heap.size w w' := by
  by_cases h7 : n7 = -1
  · by_cases h6 : n6 = -1
    · exact storableRc mt T R kq s k aq ao nq cq n ca gs fs c0 c1 c2 c3 c4 c5 m6 m7 m8 m9 b0 b1 b2 b3 b4 b5 n6 n7 n8 n9 w h7 h6 hs hg hv hbg hb TG TF
    · exact storableRb mt T R kq s k aq ao nq cq n ca gs fs c0 c1 c2 c3 c4 c5 m6 m7 m8 m9 b0 b1 b2 b3 b4 b5 n6 n7 n8 n9 w h7 h6 hs hg hv hbg hb TG TF
  · exact storableRa mt T R kq s k aq ao nq cq n ca gs fs c0 c1 c2 c3 c4 c5 m6 m7 m8 m9 b0 b1 b2 b3 b4 b5 n6 n7 n8 n9 w h7 hs hg hv hbg hb TG TF
/-- a request, a response and their copies in blocks -/
def U4 (w : World) (za zb : Nat) (W : World) (mt tg zr : List UInt8) (kq s k : Int) (aq ao : Option Addr) (nq cq n ca : Nat) (gs fs : FL) (aq2 ao2 : Option Addr) (cq2 ca2 : Nat) : Prop := Below w.heap.size w W ∧ Blk w.heap.size W [.string ⟨mt.toArray⟩, .string ⟨tg.toArray⟩, .int .i64 kq, .slice aq nq cq] ∧ Blk (w.heap.size + 1) W [.int .i64 s, .string ⟨zr.toArray⟩, .int .i64 k, .slice ao n ca] ∧ Blk za W [.string ⟨mt.toArray⟩, .string ⟨tg.toArray⟩, .int .i64 kq, .slice aq2 nq cq2] ∧ Blk zb W [.int .i64 s, .string ⟨zr.toArray⟩, .int .i64 k, .slice ao2 n ca2] ∧ HoldsF W (.slice aq2 nq cq2) gs ∧ HoldsF W (.slice ao2 n ca2) fs
theorem u4_below {w : World} {za zb : Nat} {mt tg zr : List UInt8} {kq s k : Int} {aq ao : Option Addr} {nq cq n ca : Nat} {gs fs : FL} {aq2 ao2 : Option Addr} {cq2 ca2 : Nat} {W W' : World} (h : U4 w za zb W mt tg zr kq s k aq ao nq cq n ca gs fs aq2 ao2 cq2 ca2) (hb : Below W.heap.size W W') : U4 w za zb W' mt tg zr kq s k aq ao nq cq n ca gs fs aq2 ao2 cq2 ca2 := ⟨bt' h.1 hb, cells_below h.2.1 hb, cells_below h.2.2.1 hb, cells_below h.2.2.2.1 hb, cells_below h.2.2.2.2.1 hb, holdsF_mono h.2.2.2.2.2.1 hb, holdsF_mono h.2.2.2.2.2.2 hb⟩
theorem u4_drew {w : World} {za zb : Nat} {mt tg zr : List UInt8} {kq s k : Int} {aq ao : Option Addr} {nq cq n ca : Nat} {gs fs : FL} {aq2 ao2 : Option Addr} {cq2 ca2 : Nat} {W : World} (h : U4 w za zb W mt tg zr kq s k aq ao nq cq n ca gs fs aq2 ao2 cq2 ca2) : U4 w za zb W.drew mt tg zr kq s k aq ao nq cq n ca gs fs aq2 ao2 cq2 ca2 := u4_below h (Below.refl _ _).drew
theorem u4_cells {w : World} {za zb : Nat} {mt tg zr : List UInt8} {kq s k : Int} {aq ao : Option Addr} {nq cq n ca : Nat} {gs fs : FL} {aq2 ao2 : Option Addr} {cq2 ca2 : Nat} {W : World} {q : Nat} (hq : q = w.heap.size) (h : U4 w za zb W mt tg zr kq s k aq ao nq cq n ca gs fs aq2 ao2 cq2 ca2) : W.cell? ⟨q, 0, none⟩ = some (.string ⟨mt.toArray⟩) ∧ W.cell? ⟨q, 1, none⟩ = some (.string ⟨tg.toArray⟩) ∧ W.cell? ⟨q, 2, none⟩ = some (.int .i64 kq) ∧ W.cell? ⟨q, 3, none⟩ = some (.slice aq nq cq) ∧ W.cell? ⟨q + 1, 0, none⟩ = some (.int .i64 s) ∧ W.cell? ⟨q + 1, 1, none⟩ = some (.string ⟨zr.toArray⟩) ∧ W.cell? ⟨q + 1, 2, none⟩ = some (.int .i64 k) ∧ W.cell? ⟨q + 1, 3, none⟩ = some (.slice ao n ca) ∧ W.cell? ⟨za, 0, none⟩ = some (.string ⟨mt.toArray⟩) ∧ W.cell? ⟨za, 1, none⟩ = some (.string ⟨tg.toArray⟩) ∧ W.cell? ⟨za, 2, none⟩ = some (.int .i64 kq) ∧ W.cell? ⟨za, 3, none⟩ = some (.slice aq2 nq cq2) ∧ W.cell? ⟨zb, 0, none⟩ = some (.int .i64 s) ∧ W.cell? ⟨zb, 1, none⟩ = some (.string ⟨zr.toArray⟩) ∧ W.cell? ⟨zb, 2, none⟩ = some (.int .i64 k) ∧ W.cell? ⟨zb, 3, none⟩ = some (.slice ao2 n ca2) := by
  subst hq
  obtain ⟨h0, h1, h2, h3⟩ := four_open h.2.1
  obtain ⟨i0, i1, i2, i3⟩ := four_open h.2.2.1
  obtain ⟨j0, j1, j2, j3⟩ := four_open h.2.2.2.1
  obtain ⟨k0, k1, k2, k3⟩ := four_open h.2.2.2.2.1
  exact ⟨h0, h1, h2, h3, i0, i1, i2, i3, j0, j1, j2, j3, k0, k1, k2, k3⟩
set_option maxRecDepth 20000 in
set_option maxHeartbeats 16000000 in
theorem storablesW (mt tg zr : List UInt8) (kq s k : Int) (lq lv : Value) (gs fs : FL) (w : World) (hs : -9223372036854775808 ≤ s ∧ s ≤ 9223372036854775807) (hg : HoldsF w lq gs) (hv : HoldsF w lv fs) (hbg : bulkF gs ≤ 1048576) (hb : bulkF fs ≤ 1048576) :
    Calls Tryd.prog 3 #[.agg #[.string ⟨mt.toArray⟩, .string ⟨tg.toArray⟩, .int .i64 kq, lq], .agg #[.int .i64 s, .string ⟨zr.toArray⟩, .int .i64 k, lv]] w fun e w' => e = .returned (.bool true) ∧ Below w.heap.size w w' := by
  have hnq : gs.length ≤ 2000000 := by have := bulkF_len gs; omega
  have hn : fs.length ≤ 2000000 := by have := bulkF_len fs; omega
  obtain ⟨aq, cq, _, _, eq, _⟩ := holdsF_parts hg
  obtain ⟨ao, ca, _, _, el, _⟩ := holdsF_parts hv
  subst eq el
  obtain ⟨b0, b1, b2, b3, b4, b5, n6, n7, n8, n9, TF⟩ := told_ex fs
  obtain ⟨c0, c1, c2, c3, c4, c5, m6, m7, m8, m9, TG⟩ := told_ex gs
  obtain ⟨q, hq⟩ : ∃ q, q = w.heap.size := ⟨_, rfl⟩
  have HQ := hide' hq
  have kQ := fun W (h : Below w.heap.size w W) => copyRq mt tg kq gs _ W (holdsF_mono hg h) hnq
  have kR := fun W (h : Below w.heap.size w W) => copyRs s k zr fs _ W (holdsF_mono hv h) hn
  have kS := fun aq2 cq2 ao2 ca2 W (h1 : HoldsF W (.slice aq2 gs.length cq2) gs) (h2 : HoldsF W (.slice ao2 fs.length ca2) fs) => storableFC mt ⟨tg.toArray⟩ ⟨zr.toArray⟩ kq s k aq2 ao2 gs.length cq2 fs.length ca2 gs fs c0 c1 c2 c3 c4 c5 m6 m7 m8 m9 b0 b1 b2 b3 b4 b5 n6 n7 n8 n9 W h1 h2 hbg hb TG TF
  have kX := fun W (h : Below w.heap.size w W) => storableRC mt ⟨tg.toArray⟩ ⟨zr.toArray⟩ kq s k aq ao gs.length cq fs.length ca gs fs c0 c1 c2 c3 c4 c5 m6 m7 m8 m9 b0 b1 b2 b3 b4 b5 n6 n7 n8 n9 W hs (holdsF_mono hg h) (holdsF_mono hv h) hbg hb TG TF
  have k1 := fun u W (h : Below w.heap.size w W) (hu : HoldsF W u gs) => sameRq mt tg kq gs u _ W hu (holdsF_mono hg h) hnq
  have k2 := fun u W (h : Below w.heap.size w W) (hu : HoldsF W u fs) => sameRs s k zr fs u _ W hu (holdsF_mono hv h) hn
  clear TF TG hg hv hbg hb hn hnq hs
  generalize stoB (decide (mt = getB)) (okS s n7 n6 (hasN fs exb)) c0 b0 b2 (hasN gs aub) (b3 || (b4 || decide (n7 ≠ -1))) (hasStar fs) (hasN gs rab) (decide (200 ≤ s ∧ s ≤ 299)) = sto at kS kX
  generalize hn1 : gs.length = nq at kQ kS kX k1 ⊢
  generalize hn2 : fs.length = n at kR kS kX k2 ⊢
  have N1 := hide' hn1
  have N2 := hide' hn2
  clear hn1 hn2
  replace kQ := hide' kQ
  replace kR := hide' kR
  replace kS := hide' kS
  replace kX := hide' kX
  replace k1 := hide' k1
  replace k2 := hide' k2
  have O0 := hide' (h2_lit w mt tg zr kq s k aq ao nq cq n ca)
  have cO := hide' (fun W => getOk W)
  go_enter Tryd.func3, Tryd.ntmps3
  go_wp2_with fail
  refine (cO.out _).mono ?_
  rintro e w1 ⟨rfl, bw1⟩
  have O1 := hide' (h2_below O0.out bw1)
  clear bw1 O0 cO
  obtain ⟨h0, h1, h2, h3⟩ := four_open O1.out.2.1
  go_wp2_with fail
  refine (kQ.out _ O1.out.1).mono ?_
  rintro e w2 ⟨u, rfl, hu⟩
  obtain ⟨aq2, cq2, _, _, eu, _⟩ := holdsF_parts (holdsF_own hu)
  rw [N1.out] at eu
  have hx := holdsF_own hu
  rw [eu] at hx ⊢
  have bz := below_alloc' w2 (.cells #[.string ⟨mt.toArray⟩, .string ⟨tg.toArray⟩, .int .i64 kq, .slice aq2 nq cq2] 24)
  have LA := hide' (cells_lit w2 #[.string ⟨mt.toArray⟩, .string ⟨tg.toArray⟩, .int .i64 kq, .slice aq2 nq cq2] 24)
  have O2 := hide' (h2_below O1.out (bt' hu.2 bz))
  have HX := hide' (holdsF_mono hx bz)
  clear hu eu hx bz O1 kQ h0 h1 h2 h3
  obtain ⟨h0, h1, h2, h3⟩ := four_open O2.out.2.2.1
  go_wp2_with fail
  refine (kR.out _ O2.out.1).mono ?_
  rintro e w3 ⟨u2, rfl, hu⟩
  obtain ⟨ao2, ca2, _, _, eu, _⟩ := holdsF_parts (holdsF_own hu)
  rw [N2.out] at eu
  have hy := holdsF_own hu
  rw [eu] at hy ⊢
  have bz := below_alloc' w3 (.cells #[.int .i64 s, .string ⟨zr.toArray⟩, .int .i64 k, .slice ao2 n ca2] 26)
  have bw3 := hu.2
  obtain ⟨W, hW⟩ : ∃ W, W = w3.alloc (.cells #[.int .i64 s, .string ⟨zr.toArray⟩, .int .i64 k, .slice ao2 n ca2] 26) := ⟨_, rfl⟩
  obtain ⟨za, hza⟩ : ∃ za, za = w2.heap.size := ⟨_, rfl⟩
  obtain ⟨zb, hzb⟩ : ∃ zb, zb = w3.heap.size := ⟨_, rfl⟩
  have O := hide' (show U4 w za zb W mt tg zr kq s k aq ao nq cq n ca gs fs aq2 ao2 cq2 ca2 from by
    rw [hW, hza, hzb]
    have bb := bt' bw3 bz
    have hh := h2_below O2.out bb
    exact ⟨hh.1, hh.2.1, hh.2.2.1, cells_below LA.out bb, cells_lit w3 #[.int .i64 s, .string ⟨zr.toArray⟩, .int .i64 k, .slice ao2 n ca2] 26, holdsF_mono HX.out bb, holdsF_mono hy bz⟩)
  clear hu eu hy bz bw3 O2 HX LA kR h0 h1 h2 h3
  have q1 : Hid (∀ W, U4 w za zb W mt tg zr kq s k aq ao nq cq n ca gs fs aq2 ao2 cq2 ca2 → Calls Tryd.prog 7 #[.agg #[.string ⟨mt.toArray⟩, .string ⟨tg.toArray⟩, .int .i64 kq, .slice aq2 nq cq2], .agg #[.int .i64 s, .string ⟨zr.toArray⟩, .int .i64 k, .slice ao2 n ca2]] W fun e w' => e = .returned (.bool sto) ∧ Hid (U4 w za zb w' mt tg zr kq s k aq ao nq cq n ca gs fs aq2 ao2 cq2 ca2) ∧ w'.cell? ⟨q, 0, none⟩ = some (.string ⟨mt.toArray⟩) ∧ w'.cell? ⟨q, 1, none⟩ = some (.string ⟨tg.toArray⟩) ∧ w'.cell? ⟨q, 2, none⟩ = some (.int .i64 kq) ∧ w'.cell? ⟨q, 3, none⟩ = some (.slice aq nq cq) ∧ w'.cell? ⟨q + 1, 0, none⟩ = some (.int .i64 s) ∧ w'.cell? ⟨q + 1, 1, none⟩ = some (.string ⟨zr.toArray⟩) ∧ w'.cell? ⟨q + 1, 2, none⟩ = some (.int .i64 k) ∧ w'.cell? ⟨q + 1, 3, none⟩ = some (.slice ao n ca) ∧ w'.cell? ⟨za, 0, none⟩ = some (.string ⟨mt.toArray⟩) ∧ w'.cell? ⟨za, 1, none⟩ = some (.string ⟨tg.toArray⟩) ∧ w'.cell? ⟨za, 2, none⟩ = some (.int .i64 kq) ∧ w'.cell? ⟨za, 3, none⟩ = some (.slice aq2 nq cq2) ∧ w'.cell? ⟨zb, 0, none⟩ = some (.int .i64 s) ∧ w'.cell? ⟨zb, 1, none⟩ = some (.string ⟨zr.toArray⟩) ∧ w'.cell? ⟨zb, 2, none⟩ = some (.int .i64 k) ∧ w'.cell? ⟨zb, 3, none⟩ = some (.slice ao2 n ca2)) := fun W h => (kS.out aq2 cq2 ao2 ca2 W h.2.2.2.2.2.1 h.2.2.2.2.2.2).mono (fun e w' ⟨h1, h2⟩ => ⟨h1, u4_below h h2, u4_cells hq (u4_below h h2)⟩)
  have q2 : Hid (∀ W, U4 w za zb W mt tg zr kq s k aq ao nq cq n ca gs fs aq2 ao2 cq2 ca2 → Calls Tryd.prog 10 #[.agg #[.string ⟨mt.toArray⟩, .string ⟨tg.toArray⟩, .int .i64 kq, .slice aq nq cq], .agg #[.int .i64 s, .string ⟨zr.toArray⟩, .int .i64 k, .slice ao n ca]] W fun e w' => e = .returned (.bool sto) ∧ Hid (U4 w za zb w' mt tg zr kq s k aq ao nq cq n ca gs fs aq2 ao2 cq2 ca2) ∧ w'.cell? ⟨q, 0, none⟩ = some (.string ⟨mt.toArray⟩) ∧ w'.cell? ⟨q, 1, none⟩ = some (.string ⟨tg.toArray⟩) ∧ w'.cell? ⟨q, 2, none⟩ = some (.int .i64 kq) ∧ w'.cell? ⟨q, 3, none⟩ = some (.slice aq nq cq) ∧ w'.cell? ⟨q + 1, 0, none⟩ = some (.int .i64 s) ∧ w'.cell? ⟨q + 1, 1, none⟩ = some (.string ⟨zr.toArray⟩) ∧ w'.cell? ⟨q + 1, 2, none⟩ = some (.int .i64 k) ∧ w'.cell? ⟨q + 1, 3, none⟩ = some (.slice ao n ca) ∧ w'.cell? ⟨za, 0, none⟩ = some (.string ⟨mt.toArray⟩) ∧ w'.cell? ⟨za, 1, none⟩ = some (.string ⟨tg.toArray⟩) ∧ w'.cell? ⟨za, 2, none⟩ = some (.int .i64 kq) ∧ w'.cell? ⟨za, 3, none⟩ = some (.slice aq2 nq cq2) ∧ w'.cell? ⟨zb, 0, none⟩ = some (.int .i64 s) ∧ w'.cell? ⟨zb, 1, none⟩ = some (.string ⟨zr.toArray⟩) ∧ w'.cell? ⟨zb, 2, none⟩ = some (.int .i64 k) ∧ w'.cell? ⟨zb, 3, none⟩ = some (.slice ao2 n ca2)) := fun W h => (kX.out W h.1).mono (fun e w' ⟨h1, h2⟩ => ⟨h1, u4_below h h2, u4_cells hq (u4_below h h2)⟩)
  have q3 : Hid (∀ W, U4 w za zb W mt tg zr kq s k aq ao nq cq n ca gs fs aq2 ao2 cq2 ca2 → Calls Tryd.prog 11 #[.agg #[.string ⟨mt.toArray⟩, .string ⟨tg.toArray⟩, .int .i64 kq, .slice aq2 nq cq2], .agg #[.string ⟨mt.toArray⟩, .string ⟨tg.toArray⟩, .int .i64 kq, .slice aq nq cq]] W fun e w' => e = .returned (.bool true) ∧ Hid (U4 w za zb w' mt tg zr kq s k aq ao nq cq n ca gs fs aq2 ao2 cq2 ca2) ∧ w'.cell? ⟨q, 0, none⟩ = some (.string ⟨mt.toArray⟩) ∧ w'.cell? ⟨q, 1, none⟩ = some (.string ⟨tg.toArray⟩) ∧ w'.cell? ⟨q, 2, none⟩ = some (.int .i64 kq) ∧ w'.cell? ⟨q, 3, none⟩ = some (.slice aq nq cq) ∧ w'.cell? ⟨q + 1, 0, none⟩ = some (.int .i64 s) ∧ w'.cell? ⟨q + 1, 1, none⟩ = some (.string ⟨zr.toArray⟩) ∧ w'.cell? ⟨q + 1, 2, none⟩ = some (.int .i64 k) ∧ w'.cell? ⟨q + 1, 3, none⟩ = some (.slice ao n ca) ∧ w'.cell? ⟨za, 0, none⟩ = some (.string ⟨mt.toArray⟩) ∧ w'.cell? ⟨za, 1, none⟩ = some (.string ⟨tg.toArray⟩) ∧ w'.cell? ⟨za, 2, none⟩ = some (.int .i64 kq) ∧ w'.cell? ⟨za, 3, none⟩ = some (.slice aq2 nq cq2) ∧ w'.cell? ⟨zb, 0, none⟩ = some (.int .i64 s) ∧ w'.cell? ⟨zb, 1, none⟩ = some (.string ⟨zr.toArray⟩) ∧ w'.cell? ⟨zb, 2, none⟩ = some (.int .i64 k) ∧ w'.cell? ⟨zb, 3, none⟩ = some (.slice ao2 n ca2)) := fun W h => (k1.out _ W h.1 h.2.2.2.2.2.1).mono (fun e w' ⟨h1, h2⟩ => ⟨h1, u4_below h h2, u4_cells hq (u4_below h h2)⟩)
  have q4 : Hid (∀ W, U4 w za zb W mt tg zr kq s k aq ao nq cq n ca gs fs aq2 ao2 cq2 ca2 → Calls Tryd.prog 12 #[.agg #[.int .i64 s, .string ⟨zr.toArray⟩, .int .i64 k, .slice ao2 n ca2], .agg #[.int .i64 s, .string ⟨zr.toArray⟩, .int .i64 k, .slice ao n ca]] W fun e w' => e = .returned (.bool true) ∧ Hid (U4 w za zb w' mt tg zr kq s k aq ao nq cq n ca gs fs aq2 ao2 cq2 ca2) ∧ w'.cell? ⟨q, 0, none⟩ = some (.string ⟨mt.toArray⟩) ∧ w'.cell? ⟨q, 1, none⟩ = some (.string ⟨tg.toArray⟩) ∧ w'.cell? ⟨q, 2, none⟩ = some (.int .i64 kq) ∧ w'.cell? ⟨q, 3, none⟩ = some (.slice aq nq cq) ∧ w'.cell? ⟨q + 1, 0, none⟩ = some (.int .i64 s) ∧ w'.cell? ⟨q + 1, 1, none⟩ = some (.string ⟨zr.toArray⟩) ∧ w'.cell? ⟨q + 1, 2, none⟩ = some (.int .i64 k) ∧ w'.cell? ⟨q + 1, 3, none⟩ = some (.slice ao n ca) ∧ w'.cell? ⟨za, 0, none⟩ = some (.string ⟨mt.toArray⟩) ∧ w'.cell? ⟨za, 1, none⟩ = some (.string ⟨tg.toArray⟩) ∧ w'.cell? ⟨za, 2, none⟩ = some (.int .i64 kq) ∧ w'.cell? ⟨za, 3, none⟩ = some (.slice aq2 nq cq2) ∧ w'.cell? ⟨zb, 0, none⟩ = some (.int .i64 s) ∧ w'.cell? ⟨zb, 1, none⟩ = some (.string ⟨zr.toArray⟩) ∧ w'.cell? ⟨zb, 2, none⟩ = some (.int .i64 k) ∧ w'.cell? ⟨zb, 3, none⟩ = some (.slice ao2 n ca2)) := fun W h => (k2.out _ W h.1 h.2.2.2.2.2.2).mono (fun e w' ⟨h1, h2⟩ => ⟨h1, u4_below h h2, u4_cells hq (u4_below h h2)⟩)
  clear kS kX k1 k2
  have qz : q < W.heap.size := by have := O.out.2.1.2; omega
  have qz1 : q + 1 < W.heap.size := by have := O.out.2.2.1.2; omega
  have qz2 : za < W.heap.size := O.out.2.2.2.1.2
  have qz3 : zb < W.heap.size := O.out.2.2.2.2.1.2
  obtain ⟨ce0, ce1, ce2, ce3, ce4, ce5, ce6, ce7, ce8, ce9, ce10, ce11, ce12, ce13, ce14, ce15⟩ := u4_cells hq O.out
  go_upto_region 5 with fail
  rw [← hW, ← hza, ← hzb, ← hq]
  clear hq hW hza hzb
  go_region_held3 (fun w' => w'.cell? ⟨q, 0, none⟩ = some (.string ⟨mt.toArray⟩) ∧ w'.cell? ⟨q, 1, none⟩ = some (.string ⟨tg.toArray⟩) ∧ w'.cell? ⟨q, 2, none⟩ = some (.int .i64 kq) ∧ w'.cell? ⟨q, 3, none⟩ = some (.slice aq nq cq) ∧ w'.cell? ⟨q + 1, 0, none⟩ = some (.int .i64 s) ∧ w'.cell? ⟨q + 1, 1, none⟩ = some (.string ⟨zr.toArray⟩) ∧ w'.cell? ⟨q + 1, 2, none⟩ = some (.int .i64 k) ∧ w'.cell? ⟨q + 1, 3, none⟩ = some (.slice ao n ca) ∧ w'.cell? ⟨za, 0, none⟩ = some (.string ⟨mt.toArray⟩) ∧ w'.cell? ⟨za, 1, none⟩ = some (.string ⟨tg.toArray⟩) ∧ w'.cell? ⟨za, 2, none⟩ = some (.int .i64 kq) ∧ w'.cell? ⟨za, 3, none⟩ = some (.slice aq2 nq cq2) ∧ w'.cell? ⟨zb, 0, none⟩ = some (.int .i64 s) ∧ w'.cell? ⟨zb, 1, none⟩ = some (.string ⟨zr.toArray⟩) ∧ w'.cell? ⟨zb, 2, none⟩ = some (.int .i64 k) ∧ w'.cell? ⟨zb, 3, none⟩ = some (.slice ao2 n ca2)) (go_keep)
    (first
      | (go_at_call 7; refine (q1.out _ ?_).mono ?_; (first | exact O.out | exact u4_drew O.out); rintro e w9 ⟨rfl, O, ce0, ce1, ce2, ce3, ce4, ce5, ce6, ce7, ce8, ce9, ce10, ce11, ce12, ce13, ce14, ce15⟩)
      | (go_at_call 10; refine (q2.out _ ?_).mono ?_; (first | exact O.out | exact u4_drew O.out); rintro e w9 ⟨rfl, O, ce0, ce1, ce2, ce3, ce4, ce5, ce6, ce7, ce8, ce9, ce10, ce11, ce12, ce13, ce14, ce15⟩)
      | (go_at_call 11; refine (q3.out _ ?_).mono ?_; (first | exact O.out | exact u4_drew O.out); rintro e w9 ⟨rfl, O, ce0, ce1, ce2, ce3, ce4, ce5, ce6, ce7, ce8, ce9, ce10, ce11, ce12, ce13, ce14, ce15⟩)
      | (go_at_call 12; refine (q4.out _ ?_).mono ?_; (first | exact O.out | exact u4_drew O.out); rintro e w9 ⟨rfl, O, ce0, ce1, ce2, ce3, ce4, ce5, ce6, ce7, ce8, ce9, ce10, ce11, ce12, ce13, ce14, ce15⟩))
  all_goals
    go_wp2_with fail
    go_ret
    exact ⟨by simp, O.out.1⟩
end Go.Proofs.YtlhhcpbfjjhbfaaDoor
namespace Go.Proofs.YtlhhcpbfjjhbfaaDoor.freshStorables
open Go.ChangeShapes Go.WideShapes Go.ChangeAt Go.RowKit
open Go.ChangeMaps (open_string shut_string)

theorem own : ownKnob Tryd.prog.godebug = none := by kernel_rfl
set_option maxRecDepth 100000 in
theorem contract (H : Type) (enc : TypeId × Value → H) (W : World) (base : Nat) (args : Array Value) (ds gs : List (DataW H)) (before : List MemPlace)
    (hval : ∀ (j : Nat) t v, Tryd.f3.params[j]? = some t → args[j]? = some v → Value.okWide Tryd.prog W .any base t v)
    (hW : DataW.Whole enc Tryd.prog Tryd.f3.params.toList Rows.freshStorablesSpec.vars false W args.toList ds gs before) (hk0 : Rows.uptoSmall H (ds ++ gs) = true) :
    Calls Tryd.prog 3 args W fun e W' => ∃ v, e = .returned v ∧ Rows.freshStorablesSpec.post enc Tryd.prog Tryd.f3 false true false false W args v W' := by
  have hW' := hW
  obtain ⟨p, q, hA0, hV, rfl, hfz, hnd⟩ := hW
  have hA : DataW.TrodAll enc Tryd.prog W 0 (fun _ => true) true Tryd.f3.params.toList args.toList ds p := hA0
  rw [Tryd.params3] at hA hval
  obtain ⟨v0, vs0, d0, ds0, p0, q0, hargs, rfl, rfl, h0, r0⟩ := trodAll_cons hA
  obtain ⟨v1, vs1, d1, ds1, p1, q1, rfl, rfl, rfl, h1, r1⟩ := trodAll_cons r0
  obtain ⟨rfl, rfl, rfl⟩ := trodAll_nil r1
  obtain rfl : args = #[v0, v1] := by cases args; simp_all
  obtain ⟨rfl, rfl⟩ := trodVars_none hV
  have hk := of_decide_eq_true hk0
  simp only [List.append_nil, Rows.uptoBulkAll] at hk
  have lt0 : ∀ x ∈ p0, x.block < W.heap.size := by obtain ⟨m, hm⟩ := h0; exact DataW.trod_lt m _ _ _ hm
  obtain ⟨m0, t0, k0, l0, fs0, rfl, H0, K0, w0⟩ := open_rq (hval 0 24 v0 rfl rfl) h0
  have lt1 : ∀ x ∈ p1, x.block < W.heap.size := by obtain ⟨m, hm⟩ := h1; exact DataW.trod_lt m _ _ _ hm
  obtain ⟨s1, z1, k1, l1, fs1, rfl, H1, K1, w1⟩ := open_rs (hval 1 26 v1 rfl rfl) h1
  clear hA0
  refine (storablesW m0 t0 z1 k0 s1 k1 l0 l1 fs0 fs1 W w1.1 H0 H1 (by omega) (by omega)).mono fun e W' ⟨he, bel⟩ => ?_
  subst he
  exact ⟨_, rfl, _, _, _, [], _, [], hW', trodAll_mk1 (shut_bool Tryd.underlying4 _), (trodAll_cons_mk (Below.trod laidOut (by kernel_rfl) (of_decide_eq_true (by kernel_rfl)) h0 bel lt0) (trodAll_cons_mk (Below.trod laidOut (by kernel_rfl) (of_decide_eq_true (by kernel_rfl)) h1 bel lt1) trodAll_mk0)), rfl, bel.frame _, fun h => by cases h⟩

/-- a world whose listed variables hold what their text lays -/
def laying (w : World) : World :=
  { w with heap := ((w.heap).modify 5 fun
      | .cells _ t frozen => .cells #[.int .u8 128, .int .u8 191, .int .u8 160, .int .u8 191, .int .u8 128, .int .u8 159, .int .u8 144, .int .u8 191, .int .u8 128, .int .u8 143, .int .u8 0, .int .u8 0, .int .u8 0, .int .u8 0, .int .u8 0, .int .u8 0, .int .u8 0, .int .u8 0, .int .u8 0, .int .u8 0, .int .u8 0, .int .u8 0, .int .u8 0, .int .u8 0, .int .u8 0, .int .u8 0, .int .u8 0, .int .u8 0, .int .u8 0, .int .u8 0, .int .u8 0, .int .u8 0] t frozen
      | o => o).modify 4 fun
      | .cells _ t frozen => .cells (Go.Pinned.utf8FirstZ.map fun (n : Nat) => Value.int .u8 (n : Int)).toArray t frozen
      | o => o }
theorem laid_met (os : Os) : laidMet Tryd.prog Rows.freshStorablesUptoRow.laid ((laying (World.holding Tryd.prog os ⟨#[], #[], []⟩)).forCall (fun _ _ => 0) ⟨#[], #[.agg #[.string ⟨#[]⟩, .string ⟨#[]⟩, .int .i64 0, .slice none 0 0], .agg #[.int .i64 0, .string ⟨#[]⟩, .int .i64 0, .slice none 0 0]], []⟩).memory :=
  laidMet_of_run' 8 (by kernel_rfl) (by kernel_rfl)
theorem reads (os : Os) {H : Type} (enc : TypeId × Value → H) : ∃ places, DataW.whole enc Tryd.prog ((laying (World.holding Tryd.prog os ⟨#[], #[], []⟩)).forCall (fun _ _ => 0) ⟨#[], #[.agg #[.string ⟨#[]⟩, .string ⟨#[]⟩, .int .i64 0, .slice none 0 0], .agg #[.int .i64 0, .string ⟨#[]⟩, .int .i64 0, .slice none 0 0]], []⟩).memory Tryd.f3.params.toList Rows.freshStorablesSpec.vars false #[Value.agg #[.string ⟨#[]⟩, .string ⟨#[]⟩, .int .i64 0, .slice none 0 0], Value.agg #[.int .i64 0, .string ⟨#[]⟩, .int .i64 0, .slice none 0 0]].toList 8 = some ([.agg [.lit (.string []), .lit (.string []), .lit (.int .i64 0), .nil], .agg [.lit (.int .i64 0), .lit (.string []), .lit (.int .i64 0), .nil]], [], places) :=
  ⟨[], by kernel_rfl⟩

set_option maxRecDepth 100000 in
theorem lifted (os : Os) (started : os.Started) (H : Type) (enc : TypeId × Value → H) (F : Stop.Interp) :
    ReturnsInHanded {} Tryd.checked os 3 .any ((Rows.OpenSpec.upto Rows.freshStorablesSpec).preRow enc Tryd.prog Tryd.f3 Rows.freshStorablesUptoRow.domain false Rows.freshStorablesUptoRow.laid) (((Rows.OpenSpec.upto Rows.freshStorablesSpec).at F).post enc Tryd.prog Tryd.f3 false true false false) := by
  obtain ⟨places, hx⟩ := reads os enc
  refine returnsInHanded_of_row (C := Tryd.checked) (s := Rows.OpenSpec.upto Rows.freshStorablesSpec) own started (by kernel_rfl) Tryd.func3
    (witness_row_at (enc := enc) (C := Tryd.checked) false (laying (World.holding Tryd.prog os ⟨#[], #[], []⟩)) #[.agg #[.string ⟨#[]⟩, .string ⟨#[]⟩, .int .i64 0, .slice none 0 0], .agg #[.int .i64 0, .string ⟨#[]⟩, .int .i64 0, .slice none 0 0]] rfl (by kernel_rfl) (by kernel_rfl) (by kernel_rfl)
      (OpenSpec.preRow_of_cond 8 hx (by kernel_rfl) (fun k hk => by cases hk; kernel_rfl) (by kernel_rfl) (laid_met os))) ?_
  intro W base args ds gs before hval hW _ hcond _ _ _ _
  exact contract H enc W base args ds gs before hval hW (hcond _ rfl)

theorem said : Rows.FreshStorablesUptoSaid :=
  OpenClaim.holds_of_cond 3 Tryd.f3 rfl rfl rfl rfl rfl rfl rfl ⟨rfl, rfl, rfl, rfl, rfl⟩ rfl rfl rfl rfl rfl (by kernel_rfl) Tryd.func3 (by kernel_rfl)
    (of_decide_eq_true (by kernel_rfl)) (by unfold Func.isWrapper; first | (rw [if_pos (by decide +kernel)]; kernel_rfl) | (rw [if_neg (by decide +kernel)]; exact ⟨rfl, rfl⟩))
    (fun os started H enc _ F => by rw [OpenClaim.pre_eq_preRow]; exact lifted os started H enc F)

theorem plain (f : FuncId) (fn : Func) (hf : Tryd.pinned.checked.prog.funcNamed Tryd.f3.name = some f) (hfn : Tryd.pinned.checked.prog.funcs[f]? = some fn) :
    false = Tryd.pinned.checked.prog.looks [] ∧ ∀ (j : Nat) t, fn.params[j]? = some t → Tryd.pinned.checked.prog.wantsStandIn t = false := by
  obtain rfl : f = 3 := Option.some.inj ((show Tryd.prog.funcNamed Tryd.f3.name = some 3 by kernel_rfl).symm.trans hf) |>.symm
  obtain rfl : fn = Tryd.f3 := (Option.some.inj (Tryd.func3.symm.trans hfn)).symm
  refine ⟨by kernel_rfl, fun j t ht => ?_⟩
  rw [Tryd.params3] at ht
  rcases (show t = 24 ∨ t = 26 by simpa using Array.mem_of_getElem? ht) with rfl | rfl
  · exact (show Tryd.prog.wantsStandIn 24 = false by kernel_rfl)
  · exact (show Tryd.prog.wantsStandIn 26 = false by kernel_rfl)
end Go.Proofs.YtlhhcpbfjjhbfaaDoor.freshStorables
namespace Go.Proofs.YtlhhcpbfjjhbfaaDoor
theorem freshStorables_holds : Rows.FreshStorablesUptoCardSaid :=
  Claim7.holds_tied_plain_at .later [] _ _ _ _ freshStorables.said (fun _ h => by cases h) (by kernel_rfl) (fun _ h => by cases h) freshStorablesUpto_row_tie rfl ⟨rfl, rfl⟩ (by kernel_rfl) rfl freshStorables.plain (by kernel_rfl)
#print axioms freshStorables_holds
end Go.Proofs.YtlhhcpbfjjhbfaaDoor
