/- The contract of the document's Storable, a part. -/
import Derived.Test.YtlhhcpbfjjhbfaaDoorFhR
namespace Go.Proofs.YtlhhcpbfjjhbfaaDoor
open Go.RowKit
set_option maxRecDepth 20000 in
set_option maxHeartbeats 16000000 in
theorem storableRc (mt : List UInt8) (T R : ByteArray) (kq s k : Int) (aq ao : Option Addr) (nq cq n ca : Nat) (gs fs : FL) (c0 c1 c2 c3 c4 c5 : Bool) (m6 m7 m8 m9 : Int) (b0 b1 b2 b3 b4 b5 : Bool) (n6 n7 n8 n9 : Int) (w : World) (h7 : n7 = -1) (h6 : n6 = -1) (hs : -9223372036854775808 ≤ s ∧ s ≤ 9223372036854775807) (hg : HoldsF w (.slice aq nq cq) gs) (hv : HoldsF w (.slice ao n ca) fs) (hbg : bulkF gs ≤ 1048576) (hb : bulkF fs ≤ 1048576) (TG : Told gs c0 c1 c2 c3 c4 c5 m6 m7 m8 m9) (TF : Told fs b0 b1 b2 b3 b4 b5 n6 n7 n8 n9) :
    Calls Tryd.prog 10 #[.agg #[.string ⟨mt.toArray⟩, .string T, .int .i64 kq, .slice aq nq cq], .agg #[.int .i64 s, .string R, .int .i64 k, .slice ao n ca]] w fun e w' => e = .returned (.bool (stoB (decide (mt = getB)) (okS s n7 n6 (hasN fs exb)) c0 b0 b2 (hasN gs aub) (b3 || (b4 || decide (n7 ≠ -1))) (hasStar fs) (hasN gs rab) (decide (200 ≤ s ∧ s ≤ 299)))) ∧ Below w.heap.size w w' := by
  have H7 := hide' h7
  clear h7
  have H6 := hide' h6
  clear h6
  have O0 : Hid (Below w.heap.size w ((w.alloc (.cells #[.string ⟨mt.toArray⟩, .string T, .int .i64 kq, .slice aq nq cq] 24)).alloc (.cells #[.int .i64 s, .string R, .int .i64 k, .slice ao n ca] 26)) ∧ Blk w.heap.size ((w.alloc (.cells #[.string ⟨mt.toArray⟩, .string T, .int .i64 kq, .slice aq nq cq] 24)).alloc (.cells #[.int .i64 s, .string R, .int .i64 k, .slice ao n ca] 26)) [.string ⟨mt.toArray⟩, .string T, .int .i64 kq, .slice aq nq cq] ∧ Blk (w.heap.size + 1) ((w.alloc (.cells #[.string ⟨mt.toArray⟩, .string T, .int .i64 kq, .slice aq nq cq] 24)).alloc (.cells #[.int .i64 s, .string R, .int .i64 k, .slice ao n ca] 26)) [.int .i64 s, .string R, .int .i64 k, .slice ao n ca]) := by
    have b1 := below_alloc' w (.cells #[.string ⟨mt.toArray⟩, .string T, .int .i64 kq, .slice aq nq cq] 24)
    have b2 := below_alloc' (w.alloc (.cells #[.string ⟨mt.toArray⟩, .string T, .int .i64 kq, .slice aq nq cq] 24)) (.cells #[.int .i64 s, .string R, .int .i64 k, .slice ao n ca] 26)
    have c2 := cells_lit (w.alloc (.cells #[.string ⟨mt.toArray⟩, .string T, .int .i64 kq, .slice aq nq cq] 24)) #[.int .i64 s, .string R, .int .i64 k, .slice ao n ca] 26
    have z : (w.alloc (.cells #[.string ⟨mt.toArray⟩, .string T, .int .i64 kq, .slice aq nq cq] 24)).heap.size = w.heap.size + 1 := by simp
    rw [z] at c2
    exact ⟨bt' b1 b2, cells_below (cells_lit w #[.string ⟨mt.toArray⟩, .string T, .int .i64 kq, .slice aq nq cq] 24) b2, c2⟩
  have cT := hide' (fun W (h : Below w.heap.size w W) => ctlRT (.slice ao n ca) fs b0 b1 b2 b3 b4 b5 n6 n7 n8 n9 TF W (holdsF_mono hv h) hb)
  have cG := hide' (fun W (h : Below w.heap.size w W) => ctlRT (.slice aq nq cq) gs c0 c1 c2 c3 c4 c5 m6 m7 m8 m9 TG W (holdsF_mono hg h) hbg)
  have cX := hide' (fun W (h : Below w.heap.size w W) => by have c := hasRC (.slice ao n ca) fs exbR W (holdsF_mono hv h) hb (by decide); unfold hasN at c; rw [vals_exb] at c; exact c)
  have cA := hide' (fun W (h : Below w.heap.size w W) => by have c := hasRC (.slice aq nq cq) gs auR W (holdsF_mono hg h) hbg (by decide); unfold hasN at c; rw [vals_au] at c; exact c)
  have cR := hide' (fun W (h : Below w.heap.size w W) => by have c := hasRC (.slice aq nq cq) gs raR W (holdsF_mono hg h) hbg (by decide); unfold hasN at c; rw [vals_ra] at c; exact c)
  have cV := hide' (fun W (h : Below w.heap.size w W) => by have c := hasRef (.slice ao n ca) fs vaR [42] W (holdsF_mono hv h) hb (by decide); rw [vals_va] at c; exact c)
  have c9 : Hid (∀ (W : World) (b : Nat), b = W.heap.size → Calls Tryd.prog 28 #[.int .i64 s, .slice (some ⟨b, 0, none⟩) 9 9] (W.alloc (.cells #[.int .i64 200, .int .i64 203, .int .i64 300, .int .i64 301, .int .i64 404, .int .i64 405, .int .i64 410, .int .i64 414, .int .i64 501] 3)) fun e w' => e = .returned (.bool (inL9 s)) ∧ w' = W.alloc (.cells #[.int .i64 200, .int .i64 203, .int .i64 300, .int .i64 301, .int .i64 404, .int .i64 405, .int .i64 410, .int .i64 414, .int .i64 501] 3)) := fun W b hb => by rw [hb]; exact amongL s [200, 203, 300, 301, 404, 405, 410, 414, 501] 9 rfl (by omega) W
  have c2' : Hid (∀ (W : World) (b : Nat), b = W.heap.size → Calls Tryd.prog 28 #[.int .i64 s, .slice (some ⟨b, 0, none⟩) 2 2] (W.alloc (.cells #[.int .i64 302, .int .i64 307] 3)) fun e w' => e = .returned (.bool (inL2 s)) ∧ w' = W.alloc (.cells #[.int .i64 302, .int .i64 307] 3)) := fun W b hb => by rw [hb]; exact amongL s [302, 307] 2 rfl (by omega) W
  have t7 := TF.i7.1
  have t6 := TF.i6.1
  have qs : IntKind.i64.wrap (s.tdiv 100) = s.tdiv 100 := by
    have h1 : s.tdiv 100 ≤ 9223372036854775807 := by
      rcases Int.le_total 0 s with h | h
      · rw [Int.tdiv_eq_ediv_of_nonneg h]; omega
      · have := tdiv_neg s h; omega
    have h2 : -9223372036854775808 ≤ s.tdiv 100 := by
      rcases Int.le_total 0 s with h | h
      · rw [Int.tdiv_eq_ediv_of_nonneg h]; omega
      · have e : s.tdiv 100 = -((-s).tdiv 100) := by rw [Int.neg_tdiv]; omega
        rw [e, Int.tdiv_eq_ediv_of_nonneg (by omega)]; omega
    rw [IntKind.wrap_i64]; omega
  clear hv hg hb hbg TG TF hs
  obtain ⟨r, er⟩ : ∃ r, r = stoB (decide (mt = getB)) (okS s n7 n6 (hasN fs exb)) c0 b0 b2 (hasN gs aub) (b3 || (b4 || decide (n7 ≠ -1))) (hasStar fs) (hasN gs rab) (decide (200 ≤ s ∧ s ≤ 299)) := ⟨_, rfl⟩
  rw [← er]
  rw [okS_eq] at er
  unfold hasStar hasN at er
  have ER := hide' er
  clear er
  generalize decide (0 < (valsOf fs exb).length) = hE at cX ER
  generalize decide (0 < (valsOf gs aub).length) = hA at cA ER
  generalize decide (0 < (valsOf gs rab).length) = hR at cR ER
  generalize decide (([42] : List UInt8) ∈ toksOf (valsOf fs vab)) = star at cV ER
  generalize inL9 s = i9 at c9 ER
  generalize inL2 s = i2 at c2' ER
  go_enter Tryd.func10, Tryd.ntmps10
  go_wp2_with fail
  refine (cG.out _ O0.out.1).mono ?_
  rintro e w1 ⟨rfl, bw1⟩
  have O1 : Hid (Below w.heap.size w (w1.alloc (.cells #[.bool c0, .bool c1, .bool c2, .bool c3, .bool c4, .bool c5, .int .i64 m6, .int .i64 m7, .int .i64 m8, .int .i64 m9] 40)) ∧ Blk w.heap.size (w1.alloc (.cells #[.bool c0, .bool c1, .bool c2, .bool c3, .bool c4, .bool c5, .int .i64 m6, .int .i64 m7, .int .i64 m8, .int .i64 m9] 40)) [.string ⟨mt.toArray⟩, .string T, .int .i64 kq, .slice aq nq cq] ∧ Blk (w.heap.size + 1) (w1.alloc (.cells #[.bool c0, .bool c1, .bool c2, .bool c3, .bool c4, .bool c5, .int .i64 m6, .int .i64 m7, .int .i64 m8, .int .i64 m9] 40)) [.int .i64 s, .string R, .int .i64 k, .slice ao n ca] ∧ Blk w1.heap.size (w1.alloc (.cells #[.bool c0, .bool c1, .bool c2, .bool c3, .bool c4, .bool c5, .int .i64 m6, .int .i64 m7, .int .i64 m8, .int .i64 m9] 40)) [.bool c0, .bool c1, .bool c2, .bool c3, .bool c4, .bool c5, .int .i64 m6, .int .i64 m7, .int .i64 m8, .int .i64 m9]) := by
    have bb := bt' bw1 (below_alloc' w1 (.cells #[.bool c0, .bool c1, .bool c2, .bool c3, .bool c4, .bool c5, .int .i64 m6, .int .i64 m7, .int .i64 m8, .int .i64 m9] 40))
    exact ⟨bt' O0.out.1 bb, cells_below O0.out.2.1 bb, cells_below O0.out.2.2 bb, cells_lit w1 #[.bool c0, .bool c1, .bool c2, .bool c3, .bool c4, .bool c5, .int .i64 m6, .int .i64 m7, .int .i64 m8, .int .i64 m9] 40⟩
  clear bw1 O0 cG
  obtain ⟨r0, r1, r2, r3⟩ := four_open O1.out.2.2.1
  go_wp2_with fail
  refine (cT.out _ O1.out.1).mono ?_
  rintro e w2 ⟨rfl, bw2⟩
  have O : Hid (S4 w w1.heap.size w2.heap.size (w2.alloc (.cells #[.bool b0, .bool b1, .bool b2, .bool b3, .bool b4, .bool b5, .int .i64 n6, .int .i64 n7, .int .i64 n8, .int .i64 n9] 40)) mt T R kq s k aq ao nq cq n ca [.bool c0, .bool c1, .bool c2, .bool c3, .bool c4, .bool c5, .int .i64 m6, .int .i64 m7, .int .i64 m8, .int .i64 m9] [.bool b0, .bool b1, .bool b2, .bool b3, .bool b4, .bool b5, .int .i64 n6, .int .i64 n7, .int .i64 n8, .int .i64 n9]) := by
    have bb := bt' bw2 (below_alloc' w2 (.cells #[.bool b0, .bool b1, .bool b2, .bool b3, .bool b4, .bool b5, .int .i64 n6, .int .i64 n7, .int .i64 n8, .int .i64 n9] 40))
    exact ⟨bt' O1.out.1 bb, cells_below O1.out.2.1 bb, cells_below O1.out.2.2.1 bb, cells_below O1.out.2.2.2 bb, cells_lit w2 #[.bool b0, .bool b1, .bool b2, .bool b3, .bool b4, .bool b5, .int .i64 n6, .int .i64 n7, .int .i64 n8, .int .i64 n9] 40⟩
  clear bw2 O1 cT r0 r1 r2 r3
  have O9 := O.out
  obtain ⟨q0, q1, q2, q3⟩ := four_open O9.2.1
  obtain ⟨r0, r1, r2, r3⟩ := four_open O9.2.2.1
  obtain ⟨k0, k1, k2, k3, k4, k5, k6, k7, k8, k9⟩ := (cells10K O9.2.2.2.1).1
  obtain ⟨l0, l1, l2, l3, l4, l5, l6, l7, l8, l9⟩ := (cells10K O9.2.2.2.2).1
  clear O9
  obtain ⟨tl, etl⟩ : ∃ tl, tl = (decide (n7 ≠ -1) || (decide (n6 ≠ -1) || hE)) := ⟨_, rfl⟩
  rw [← etl] at ER
  have h7 := H7.out
  have h6 := H6.out
  clear H7 H6
  subst h7 h6
  have ht : tl = hE := by rw [etl]; simp
  clear etl
  subst ht
  go_wp2_with fail
  refine (cX.out _ O.out.1).mono ?_
  rintro e wn ⟨rfl, bn⟩
  replace O := hide' (s4_below O.out bn)
  clear bn q0 q1 q2 q3 r0 r1 r2 r3 k0 k1 k2 k3 k4 k5 k6 k7 k8 k9 l0 l1 l2 l3 l4 l5 l6 l7 l8 l9
  have O9 := O.out
  obtain ⟨q0, q1, q2, q3⟩ := four_open O9.2.1
  obtain ⟨r0, r1, r2, r3⟩ := four_open O9.2.2.1
  obtain ⟨k0, k1, k2, k3, k4, k5, k6, k7, k8, k9⟩ := (cells10K O9.2.2.2.1).1
  obtain ⟨l0, l1, l2, l3, l4, l5, l6, l7, l8, l9⟩ := (cells10K O9.2.2.2.2).1
  clear O9
  by_cases hM : mt = getB
  case neg =>
    have hq := ba_eql' mt getB hM
    rw [decide_eq_false hM] at ER
    have EQ : Hid (r = false) := by unfold Hid; rw [ER.out]; simp [stoB]
    clear ER
    go_wp2_with fail
    go_ret
    exact ⟨by rw [EQ.out]; try rfl, O.out.1⟩
  subst hM
  rw [decide_eq_true rfl] at ER
  cases c0 with
  | true =>
    have EQ : Hid (r = false) := by unfold Hid; rw [ER.out]; simp [stoB]
    clear ER
    go_wp2_with fail
    go_ret
    exact ⟨by rw [EQ.out]; try rfl, O.out.1⟩
  | false =>
  cases b0 with
  | true =>
    have EQ : Hid (r = false) := by unfold Hid; rw [ER.out]; simp [stoB]
    clear ER
    go_wp2_with fail
    go_ret
    exact ⟨by rw [EQ.out]; try rfl, O.out.1⟩
  | false =>
  cases b2 with
  | true =>
    have EQ : Hid (r = false) := by unfold Hid; rw [ER.out]; simp [stoB]
    clear ER
    go_wp2_with fail
    go_ret
    exact ⟨by rw [EQ.out]; try rfl, O.out.1⟩
  | false =>
  go_wp2_with fail
  refine (c9.out wn _ (by simp)).mono ?_
  rintro e w9 ⟨rfl, ew⟩
  rw [ew]
  clear ew w9
  replace O := hide' (s4_below O.out (below_alloc' _ (.cells #[.int .i64 200, .int .i64 203, .int .i64 300, .int .i64 301, .int .i64 404, .int .i64 405, .int .i64 410, .int .i64 414, .int .i64 501] 3)))
  clear q0 q1 q2 q3 r0 r1 r2 r3 k0 k1 k2 k3 k4 k5 k6 k7 k8 k9 l0 l1 l2 l3 l4 l5 l6 l7 l8 l9
  have O9 := O.out
  obtain ⟨q0, q1, q2, q3⟩ := four_open O9.2.1
  obtain ⟨r0, r1, r2, r3⟩ := four_open O9.2.2.1
  obtain ⟨k0, k1, k2, k3, k4, k5, k6, k7, k8, k9⟩ := (cells10K O9.2.2.2.1).1
  obtain ⟨l0, l1, l2, l3, l4, l5, l6, l7, l8, l9⟩ := (cells10K O9.2.2.2.2).1
  clear O9
  cases i9 with
  | true =>
    go_wp2_with fail
    refine (cA.out _ O.out.1).mono ?_
    rintro e wn ⟨rfl, bn⟩
    replace O := hide' (s4_below O.out bn)
    clear bn q0 q1 q2 q3 r0 r1 r2 r3 k0 k1 k2 k3 k4 k5 k6 k7 k8 k9 l0 l1 l2 l3 l4 l5 l6 l7 l8 l9
    have O9 := O.out
    obtain ⟨q0, q1, q2, q3⟩ := four_open O9.2.1
    obtain ⟨r0, r1, r2, r3⟩ := four_open O9.2.2.1
    obtain ⟨k0, k1, k2, k3, k4, k5, k6, k7, k8, k9⟩ := (cells10K O9.2.2.2.1).1
    obtain ⟨l0, l1, l2, l3, l4, l5, l6, l7, l8, l9⟩ := (cells10K O9.2.2.2.2).1
    clear O9
    cases hA with
    | false =>
      go_wp2_with fail
      refine (cV.out _ O.out.1).mono ?_
      rintro e wn ⟨rfl, bn⟩
      replace O := hide' (s4_below O.out bn)
      clear bn q0 q1 q2 q3 r0 r1 r2 r3 k0 k1 k2 k3 k4 k5 k6 k7 k8 k9 l0 l1 l2 l3 l4 l5 l6 l7 l8 l9
      have O9 := O.out
      obtain ⟨q0, q1, q2, q3⟩ := four_open O9.2.1
      obtain ⟨r0, r1, r2, r3⟩ := four_open O9.2.2.1
      obtain ⟨k0, k1, k2, k3, k4, k5, k6, k7, k8, k9⟩ := (cells10K O9.2.2.2.1).1
      obtain ⟨l0, l1, l2, l3, l4, l5, l6, l7, l8, l9⟩ := (cells10K O9.2.2.2.2).1
      clear O9
      cases star with
      | true =>
        have EQ : Hid (r = false) := by unfold Hid; rw [ER.out]; simp [stoB]
        clear ER
        go_wp2_with fail
        go_ret
        exact ⟨by rw [EQ.out]; try rfl, O.out.1⟩
      | false =>
      go_wp2_with fail
      refine (cR.out _ O.out.1).mono ?_
      rintro e wn ⟨rfl, bn⟩
      replace O := hide' (s4_below O.out bn)
      clear bn q0 q1 q2 q3 r0 r1 r2 r3 k0 k1 k2 k3 k4 k5 k6 k7 k8 k9 l0 l1 l2 l3 l4 l5 l6 l7 l8 l9
      have O9 := O.out
      obtain ⟨q0, q1, q2, q3⟩ := four_open O9.2.1
      obtain ⟨r0, r1, r2, r3⟩ := four_open O9.2.2.1
      obtain ⟨k0, k1, k2, k3, k4, k5, k6, k7, k8, k9⟩ := (cells10K O9.2.2.2.1).1
      obtain ⟨l0, l1, l2, l3, l4, l5, l6, l7, l8, l9⟩ := (cells10K O9.2.2.2.2).1
      clear O9
      cases hR with
      | false =>
        have EQ : Hid (r = true) := by unfold Hid; rw [ER.out]; simp [stoB]
        clear ER
        go_wp2_with fail
        go_ret
        exact ⟨by rw [EQ.out]; try rfl, O.out.1⟩
      | true =>
      rw [part_eq] at ER
      have EQ : Hid (r = !(s.tdiv 100 == 2)) := by unfold Hid; rw [ER.out]; simp [stoB]
      clear ER
      go_wp2_with fail
      go_ret
      exact ⟨by rw [EQ.out]; try rfl, O.out.1⟩
    | true =>
    cases b3 with
    | true =>
      go_wp2_with fail
      refine (cV.out _ O.out.1).mono ?_
      rintro e wn ⟨rfl, bn⟩
      replace O := hide' (s4_below O.out bn)
      clear bn q0 q1 q2 q3 r0 r1 r2 r3 k0 k1 k2 k3 k4 k5 k6 k7 k8 k9 l0 l1 l2 l3 l4 l5 l6 l7 l8 l9
      have O9 := O.out
      obtain ⟨q0, q1, q2, q3⟩ := four_open O9.2.1
      obtain ⟨r0, r1, r2, r3⟩ := four_open O9.2.2.1
      obtain ⟨k0, k1, k2, k3, k4, k5, k6, k7, k8, k9⟩ := (cells10K O9.2.2.2.1).1
      obtain ⟨l0, l1, l2, l3, l4, l5, l6, l7, l8, l9⟩ := (cells10K O9.2.2.2.2).1
      clear O9
      cases star with
      | true =>
        have EQ : Hid (r = false) := by unfold Hid; rw [ER.out]; simp [stoB]
        clear ER
        go_wp2_with fail
        go_ret
        exact ⟨by rw [EQ.out]; try rfl, O.out.1⟩
      | false =>
      go_wp2_with fail
      refine (cR.out _ O.out.1).mono ?_
      rintro e wn ⟨rfl, bn⟩
      replace O := hide' (s4_below O.out bn)
      clear bn q0 q1 q2 q3 r0 r1 r2 r3 k0 k1 k2 k3 k4 k5 k6 k7 k8 k9 l0 l1 l2 l3 l4 l5 l6 l7 l8 l9
      have O9 := O.out
      obtain ⟨q0, q1, q2, q3⟩ := four_open O9.2.1
      obtain ⟨r0, r1, r2, r3⟩ := four_open O9.2.2.1
      obtain ⟨k0, k1, k2, k3, k4, k5, k6, k7, k8, k9⟩ := (cells10K O9.2.2.2.1).1
      obtain ⟨l0, l1, l2, l3, l4, l5, l6, l7, l8, l9⟩ := (cells10K O9.2.2.2.2).1
      clear O9
      cases hR with
      | false =>
        have EQ : Hid (r = true) := by unfold Hid; rw [ER.out]; simp [stoB]
        clear ER
        go_wp2_with fail
        go_ret
        exact ⟨by rw [EQ.out]; try rfl, O.out.1⟩
      | true =>
      rw [part_eq] at ER
      have EQ : Hid (r = !(s.tdiv 100 == 2)) := by unfold Hid; rw [ER.out]; simp [stoB]
      clear ER
      go_wp2_with fail
      go_ret
      exact ⟨by rw [EQ.out]; try rfl, O.out.1⟩
    | false =>
    cases b4 with
    | true =>
      go_wp2_with fail
      refine (cV.out _ O.out.1).mono ?_
      rintro e wn ⟨rfl, bn⟩
      replace O := hide' (s4_below O.out bn)
      clear bn q0 q1 q2 q3 r0 r1 r2 r3 k0 k1 k2 k3 k4 k5 k6 k7 k8 k9 l0 l1 l2 l3 l4 l5 l6 l7 l8 l9
      have O9 := O.out
      obtain ⟨q0, q1, q2, q3⟩ := four_open O9.2.1
      obtain ⟨r0, r1, r2, r3⟩ := four_open O9.2.2.1
      obtain ⟨k0, k1, k2, k3, k4, k5, k6, k7, k8, k9⟩ := (cells10K O9.2.2.2.1).1
      obtain ⟨l0, l1, l2, l3, l4, l5, l6, l7, l8, l9⟩ := (cells10K O9.2.2.2.2).1
      clear O9
      cases star with
      | true =>
        have EQ : Hid (r = false) := by unfold Hid; rw [ER.out]; simp [stoB]
        clear ER
        go_wp2_with fail
        go_ret
        exact ⟨by rw [EQ.out]; try rfl, O.out.1⟩
      | false =>
      go_wp2_with fail
      refine (cR.out _ O.out.1).mono ?_
      rintro e wn ⟨rfl, bn⟩
      replace O := hide' (s4_below O.out bn)
      clear bn q0 q1 q2 q3 r0 r1 r2 r3 k0 k1 k2 k3 k4 k5 k6 k7 k8 k9 l0 l1 l2 l3 l4 l5 l6 l7 l8 l9
      have O9 := O.out
      obtain ⟨q0, q1, q2, q3⟩ := four_open O9.2.1
      obtain ⟨r0, r1, r2, r3⟩ := four_open O9.2.2.1
      obtain ⟨k0, k1, k2, k3, k4, k5, k6, k7, k8, k9⟩ := (cells10K O9.2.2.2.1).1
      obtain ⟨l0, l1, l2, l3, l4, l5, l6, l7, l8, l9⟩ := (cells10K O9.2.2.2.2).1
      clear O9
      cases hR with
      | false =>
        have EQ : Hid (r = true) := by unfold Hid; rw [ER.out]; simp [stoB]
        clear ER
        go_wp2_with fail
        go_ret
        exact ⟨by rw [EQ.out]; try rfl, O.out.1⟩
      | true =>
      rw [part_eq] at ER
      have EQ : Hid (r = !(s.tdiv 100 == 2)) := by unfold Hid; rw [ER.out]; simp [stoB]
      clear ER
      go_wp2_with fail
      go_ret
      exact ⟨by rw [EQ.out]; try rfl, O.out.1⟩
    | false =>
    have EQ : Hid (r = false) := by unfold Hid; rw [ER.out]; simp [stoB]
    clear ER
    go_wp2_with fail
    go_ret
    exact ⟨by rw [EQ.out]; try rfl, O.out.1⟩
  | false =>
  go_wp2_with fail
  refine (c2'.out (wn.alloc (.cells #[.int .i64 200, .int .i64 203, .int .i64 300, .int .i64 301, .int .i64 404, .int .i64 405, .int .i64 410, .int .i64 414, .int .i64 501] 3)) _ (by simp)).mono ?_
  rintro e w9 ⟨rfl, ew⟩
  rw [ew]
  clear ew w9
  replace O := hide' (s4_below O.out (below_alloc' _ (.cells #[.int .i64 302, .int .i64 307] 3)))
  clear q0 q1 q2 q3 r0 r1 r2 r3 k0 k1 k2 k3 k4 k5 k6 k7 k8 k9 l0 l1 l2 l3 l4 l5 l6 l7 l8 l9
  have O9 := O.out
  obtain ⟨q0, q1, q2, q3⟩ := four_open O9.2.1
  obtain ⟨r0, r1, r2, r3⟩ := four_open O9.2.2.1
  obtain ⟨k0, k1, k2, k3, k4, k5, k6, k7, k8, k9⟩ := (cells10K O9.2.2.2.1).1
  obtain ⟨l0, l1, l2, l3, l4, l5, l6, l7, l8, l9⟩ := (cells10K O9.2.2.2.2).1
  clear O9
  cases i2 with
  | false =>
    have EQ : Hid (r = false) := by unfold Hid; rw [ER.out]; simp [stoB]
    clear ER
    go_wp2_with fail
    go_ret
    exact ⟨by rw [EQ.out]; try rfl, O.out.1⟩
  | true =>
  cases tl with
  | false =>
    have EQ : Hid (r = false) := by unfold Hid; rw [ER.out]; simp [stoB]
    clear ER
    go_wp2_with fail
    go_ret
    exact ⟨by rw [EQ.out]; try rfl, O.out.1⟩
  | true =>
  go_wp2_with fail
  refine (cA.out _ O.out.1).mono ?_
  rintro e wn ⟨rfl, bn⟩
  replace O := hide' (s4_below O.out bn)
  clear bn q0 q1 q2 q3 r0 r1 r2 r3 k0 k1 k2 k3 k4 k5 k6 k7 k8 k9 l0 l1 l2 l3 l4 l5 l6 l7 l8 l9
  have O9 := O.out
  obtain ⟨q0, q1, q2, q3⟩ := four_open O9.2.1
  obtain ⟨r0, r1, r2, r3⟩ := four_open O9.2.2.1
  obtain ⟨k0, k1, k2, k3, k4, k5, k6, k7, k8, k9⟩ := (cells10K O9.2.2.2.1).1
  obtain ⟨l0, l1, l2, l3, l4, l5, l6, l7, l8, l9⟩ := (cells10K O9.2.2.2.2).1
  clear O9
  cases hA with
  | false =>
    go_wp2_with fail
    refine (cV.out _ O.out.1).mono ?_
    rintro e wn ⟨rfl, bn⟩
    replace O := hide' (s4_below O.out bn)
    clear bn q0 q1 q2 q3 r0 r1 r2 r3 k0 k1 k2 k3 k4 k5 k6 k7 k8 k9 l0 l1 l2 l3 l4 l5 l6 l7 l8 l9
    have O9 := O.out
    obtain ⟨q0, q1, q2, q3⟩ := four_open O9.2.1
    obtain ⟨r0, r1, r2, r3⟩ := four_open O9.2.2.1
    obtain ⟨k0, k1, k2, k3, k4, k5, k6, k7, k8, k9⟩ := (cells10K O9.2.2.2.1).1
    obtain ⟨l0, l1, l2, l3, l4, l5, l6, l7, l8, l9⟩ := (cells10K O9.2.2.2.2).1
    clear O9
    cases star with
    | true =>
      have EQ : Hid (r = false) := by unfold Hid; rw [ER.out]; simp [stoB]
      clear ER
      go_wp2_with fail
      go_ret
      exact ⟨by rw [EQ.out]; try rfl, O.out.1⟩
    | false =>
    go_wp2_with fail
    refine (cR.out _ O.out.1).mono ?_
    rintro e wn ⟨rfl, bn⟩
    replace O := hide' (s4_below O.out bn)
    clear bn q0 q1 q2 q3 r0 r1 r2 r3 k0 k1 k2 k3 k4 k5 k6 k7 k8 k9 l0 l1 l2 l3 l4 l5 l6 l7 l8 l9
    have O9 := O.out
    obtain ⟨q0, q1, q2, q3⟩ := four_open O9.2.1
    obtain ⟨r0, r1, r2, r3⟩ := four_open O9.2.2.1
    obtain ⟨k0, k1, k2, k3, k4, k5, k6, k7, k8, k9⟩ := (cells10K O9.2.2.2.1).1
    obtain ⟨l0, l1, l2, l3, l4, l5, l6, l7, l8, l9⟩ := (cells10K O9.2.2.2.2).1
    clear O9
    cases hR with
    | false =>
      have EQ : Hid (r = true) := by unfold Hid; rw [ER.out]; simp [stoB]
      clear ER
      go_wp2_with fail
      go_ret
      exact ⟨by rw [EQ.out]; try rfl, O.out.1⟩
    | true =>
    rw [part_eq] at ER
    have EQ : Hid (r = !(s.tdiv 100 == 2)) := by unfold Hid; rw [ER.out]; simp [stoB]
    clear ER
    go_wp2_with fail
    go_ret
    exact ⟨by rw [EQ.out]; try rfl, O.out.1⟩
  | true =>
  cases b3 with
  | true =>
    go_wp2_with fail
    refine (cV.out _ O.out.1).mono ?_
    rintro e wn ⟨rfl, bn⟩
    replace O := hide' (s4_below O.out bn)
    clear bn q0 q1 q2 q3 r0 r1 r2 r3 k0 k1 k2 k3 k4 k5 k6 k7 k8 k9 l0 l1 l2 l3 l4 l5 l6 l7 l8 l9
    have O9 := O.out
    obtain ⟨q0, q1, q2, q3⟩ := four_open O9.2.1
    obtain ⟨r0, r1, r2, r3⟩ := four_open O9.2.2.1
    obtain ⟨k0, k1, k2, k3, k4, k5, k6, k7, k8, k9⟩ := (cells10K O9.2.2.2.1).1
    obtain ⟨l0, l1, l2, l3, l4, l5, l6, l7, l8, l9⟩ := (cells10K O9.2.2.2.2).1
    clear O9
    cases star with
    | true =>
      have EQ : Hid (r = false) := by unfold Hid; rw [ER.out]; simp [stoB]
      clear ER
      go_wp2_with fail
      go_ret
      exact ⟨by rw [EQ.out]; try rfl, O.out.1⟩
    | false =>
    go_wp2_with fail
    refine (cR.out _ O.out.1).mono ?_
    rintro e wn ⟨rfl, bn⟩
    replace O := hide' (s4_below O.out bn)
    clear bn q0 q1 q2 q3 r0 r1 r2 r3 k0 k1 k2 k3 k4 k5 k6 k7 k8 k9 l0 l1 l2 l3 l4 l5 l6 l7 l8 l9
    have O9 := O.out
    obtain ⟨q0, q1, q2, q3⟩ := four_open O9.2.1
    obtain ⟨r0, r1, r2, r3⟩ := four_open O9.2.2.1
    obtain ⟨k0, k1, k2, k3, k4, k5, k6, k7, k8, k9⟩ := (cells10K O9.2.2.2.1).1
    obtain ⟨l0, l1, l2, l3, l4, l5, l6, l7, l8, l9⟩ := (cells10K O9.2.2.2.2).1
    clear O9
    cases hR with
    | false =>
      have EQ : Hid (r = true) := by unfold Hid; rw [ER.out]; simp [stoB]
      clear ER
      go_wp2_with fail
      go_ret
      exact ⟨by rw [EQ.out]; try rfl, O.out.1⟩
    | true =>
    rw [part_eq] at ER
    have EQ : Hid (r = !(s.tdiv 100 == 2)) := by unfold Hid; rw [ER.out]; simp [stoB]
    clear ER
    go_wp2_with fail
    go_ret
    exact ⟨by rw [EQ.out]; try rfl, O.out.1⟩
  | false =>
  cases b4 with
  | true =>
    go_wp2_with fail
    refine (cV.out _ O.out.1).mono ?_
    rintro e wn ⟨rfl, bn⟩
    replace O := hide' (s4_below O.out bn)
    clear bn q0 q1 q2 q3 r0 r1 r2 r3 k0 k1 k2 k3 k4 k5 k6 k7 k8 k9 l0 l1 l2 l3 l4 l5 l6 l7 l8 l9
    have O9 := O.out
    obtain ⟨q0, q1, q2, q3⟩ := four_open O9.2.1
    obtain ⟨r0, r1, r2, r3⟩ := four_open O9.2.2.1
    obtain ⟨k0, k1, k2, k3, k4, k5, k6, k7, k8, k9⟩ := (cells10K O9.2.2.2.1).1
    obtain ⟨l0, l1, l2, l3, l4, l5, l6, l7, l8, l9⟩ := (cells10K O9.2.2.2.2).1
    clear O9
    cases star with
    | true =>
      have EQ : Hid (r = false) := by unfold Hid; rw [ER.out]; simp [stoB]
      clear ER
      go_wp2_with fail
      go_ret
      exact ⟨by rw [EQ.out]; try rfl, O.out.1⟩
    | false =>
    go_wp2_with fail
    refine (cR.out _ O.out.1).mono ?_
    rintro e wn ⟨rfl, bn⟩
    replace O := hide' (s4_below O.out bn)
    clear bn q0 q1 q2 q3 r0 r1 r2 r3 k0 k1 k2 k3 k4 k5 k6 k7 k8 k9 l0 l1 l2 l3 l4 l5 l6 l7 l8 l9
    have O9 := O.out
    obtain ⟨q0, q1, q2, q3⟩ := four_open O9.2.1
    obtain ⟨r0, r1, r2, r3⟩ := four_open O9.2.2.1
    obtain ⟨k0, k1, k2, k3, k4, k5, k6, k7, k8, k9⟩ := (cells10K O9.2.2.2.1).1
    obtain ⟨l0, l1, l2, l3, l4, l5, l6, l7, l8, l9⟩ := (cells10K O9.2.2.2.2).1
    clear O9
    cases hR with
    | false =>
      have EQ : Hid (r = true) := by unfold Hid; rw [ER.out]; simp [stoB]
      clear ER
      go_wp2_with fail
      go_ret
      exact ⟨by rw [EQ.out]; try rfl, O.out.1⟩
    | true =>
    rw [part_eq] at ER
    have EQ : Hid (r = !(s.tdiv 100 == 2)) := by unfold Hid; rw [ER.out]; simp [stoB]
    clear ER
    go_wp2_with fail
    go_ret
    exact ⟨by rw [EQ.out]; try rfl, O.out.1⟩
  | false =>
  have EQ : Hid (r = false) := by unfold Hid; rw [ER.out]; simp [stoB]
  clear ER
  go_wp2_with fail
  go_ret
  exact ⟨by rw [EQ.out]; try rfl, O.out.1⟩
end Go.Proofs.YtlhhcpbfjjhbfaaDoor
