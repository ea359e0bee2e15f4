/- The walk of ControlParses. -/
import Derived.Test.YtemmghmacbofaaaDoorLawKnB
import Derived.Test.YtemmghmacbofaaaDoorKnJ
namespace Go.Proofs.YtemmghmacbofaaaDoor
open Go.RowKit
theorem par_shape (fs : FL) : ∃ (b0 b1 b2 b3 b4 b5 : Bool) (n6 n7 n8 n9 : Int), parOf fs = .agg #[.bool b0, .bool b1, .bool b2, .bool b3, .bool b4, .bool b5, .int .i64 n6, .int .i64 n7, .int .i64 n8, .int .i64 n9] := ⟨_, _, _, _, _, _, _, _, _, _, rfl⟩
set_option maxHeartbeats 2000000 in
theorem parsesW (v : Value) (fs : FL) (w : World) (hv : HoldsF w v fs) (hb : bulkF fs ≤ 1048576) :
    Calls Tryd.prog 3 #[v] w fun e w' => e = .returned (.bool true) ∧ Below w.heap.size w w' := by
  have hl := bulkF_len fs
  have cA := hide' (aliveK w)
  have cY := hide' (fun W (hw : Below w.heap.size w W) => copyF v fs W (holdsF_mono hv hw) (by omega))
  have cP := hide' (fun u W (hu : HoldsF W u fs) => ctlAny u fs W hu hb)
  have cR := hide' (fun W (hw : Below w.heap.size w W) => ctlR v fs W (holdsF_mono hv hw) hb)
  have cS := hide' (fun u W (hw : Below w.heap.size w W) (hu : HoldsF W u fs) => sameF u v fs fs W hu (holdsF_mono hv hw) (by omega) (by omega))
  rw [decide_eq_true (rfl : fs = fs)] at cS
  obtain ⟨b0, b1, b2, b3, b4, b5, n6, n7, n8, n9, hE⟩ := par_shape fs
  rw [hE] at cP cR
  obtain ⟨ao, ca, _, _, hve, -⟩ := holdsF_parts hv
  rw [hve] at cY cR cS ⊢
  clear hv hve hE
  go_enter Tryd.func3, Tryd.ntmps3
  go_wp2_with fail
  refine cA.out.mono ?_
  rintro e w1 ⟨rfl, bw⟩
  have B1 := hide' bw
  clear bw cA
  go_wp2_with fail
  refine (cY.out _ B1.out).mono ?_
  rintro e w2 ⟨u, rfl, ho⟩
  have U2 := hide' (holdsF_own ho)
  have c2 := hide' (cP.out u w2 U2.out)
  have c4 := hide' (fun W hw (h : Below w2.heap.size w2 W) => cS.out u W hw (holdsF_mono U2.out h))
  obtain ⟨ao2, ca2, _, _, hu, -⟩ := holdsF_parts U2.out
  rw [hu] at c2 c4 ⊢
  have B2 := hide' (bt' B1.out ho.2)
  clear ho hu cP cY B1 cS U2
  go_wp2_with fail
  refine c2.out.mono ?_
  rintro e w3 ⟨rfl, bw⟩
  have B3 := hide' (bt' B2.out bw)
  have Q3 := hide' bw
  clear bw c2 B2
  go_wp2_with fail
  refine (cR.out _ B3.out).mono ?_
  rintro e w4 ⟨rfl, bw⟩
  have B4 := hide' (bt' B3.out bw)
  have Q4 := hide' (bt' Q3.out bw)
  clear bw B3 Q3 cR
  go_wp2_with fail
  refine (c4.out _ B4.out Q4.out).mono ?_
  rintro e w5 ⟨rfl, n5, e5⟩
  have B5 : Hid (Below w.heap.size w w5) := by unfold Hid; rw [e5]; exact bt' B4.out (below_drewN _ n5)
  clear e5 B4 Q4 c4
  go_wp2_with fail
  go_ret
  exact ⟨rfl, B5.out⟩
end Go.Proofs.YtemmghmacbofaaaDoor
