/- one and alive of the law, and the walk of ControlBounds. -/
import Derived.Test.YtemmghmacbofaaaDoorKnG
import Derived.Test.YtemmghmacbofaaaDoorFdS
namespace Go.Proofs.YtemmghmacbofaaaDoor
open Go.RowKit
set_option maxHeartbeats 400000 in
theorem oneC (t : List UInt8) (w : World) :
    Calls Tryd.prog 13 #[.string ⟨t.toArray⟩] w fun e w' => ∃ u, e = .returned u ∧ HoldsF w' u [(ccb, t)] ∧ Below w.heap.size w w' := by
  have H := hide' (holdsF_lit1 w ccb t)
  go_enter Tryd.func13, Tryd.ntmps13
  go_wp2_with fail
  go_ret
  exact ⟨_, rfl, H.out, below_alloc' w _⟩
theorem vals_one (t : List UInt8) : valsOf [(ccb, t)] ccb = [t] := by simp [valsOf]
theorem fit_two (x y : List UInt8) (hx : x.length ≤ 140737488351232) (hy : y.length ≤ 140737488351232) : Fit [(x, y)] := by
  intro f hf
  simp at hf
  subst hf
  exact ⟨hx, hy⟩
/-- Parse of one field of the name -/
theorem ctlOne (v : Value) (t : List UInt8) (w : World) (hv : HoldsF w v [(ccb, t)]) (ht : t.length ≤ 4190000) :
    Calls Tryd.prog 10 #[v] w fun e w' => e = .returned (ctlV (dirsOf [t]) false) ∧ Below w.heap.size w w' := by
  have h := ctlC v [(ccb, t)] w hv (fit_two _ _ (by decide) (by omega)) (by simp) (by rw [vals_one]; simp [bulkT]; omega) (fun e => by rw [vals_one] at e; cases e)
  have e : parOf [(ccb, t)] = ctlV (dirsOf [t]) false := by unfold parOf; rw [vals_one]; rfl
  rw [e] at h
  exact h
def aliveT : List UInt8 := [77, 97, 120, 45, 65, 103, 101, 61, 53, 44, 32, 110, 111, 45, 99, 97, 99, 104, 101, 61, 34, 88, 34]
theorem alive_is : ctlV (dirsOf [aliveT]) false = .agg #[.bool false, .bool true, .bool false, .bool false, .bool false, .bool false, .int .i64 5, .int .i64 (-1), .int .i64 (-1), .int .i64 (-1)] := by
  have : dirsOf [aliveT] = [(mab, [53], true), (ncb, [88], true)] := by decide +kernel
  rw [this]
  rfl
set_option maxHeartbeats 1000000 in
theorem aliveK (w : World) :
    Calls Tryd.prog 8 #[] w fun e w' => e = .returned (.bool true) ∧ Below w.heap.size w w' := by
  have cO := hide' (oneC aliveT w)
  go_enter Tryd.func8, Tryd.ntmps8
  go_wp2_with fail
  refine cO.out.mono ?_
  rintro e w1 ⟨u, rfl, hu, b1⟩
  have cP := hide' (ctlOne u aliveT w1 hu (by decide))
  rw [alive_is] at cP
  obtain ⟨ao, ca, _, _, he, -⟩ := holdsF_parts hu
  replace he : u = .slice ao 1 ca := he
  have B1 := hide' b1
  rw [he] at cP ⊢
  clear hu b1 cO he
  go_wp2_with fail
  refine cP.out.mono ?_
  rintro e w2 ⟨rfl, b2⟩
  have B2 := hide' (B1.out.trans (b2.mono B1.out.size))
  clear b2 cP B1
  go_wp2_with fail
  go_ret
  exact ⟨rfl, B2.out.trans ((below_alloc' w2 _).mono B2.out.size)⟩
theorem fit_bulk (fs : FL) (h : bulkF fs ≤ 1048576) : Fit fs := fun f hf => by have := bulkF_mem fs f hf; omega
/-- Parse of any fields -/
theorem ctlAny (v : Value) (fs : FL) (w : World) (hv : HoldsF w v fs) (hb : bulkF fs ≤ 1048576) :
    Calls Tryd.prog 10 #[v] w fun e w' => e = .returned (parOf fs) ∧ Below w.heap.size w w' := by
  have hl := bulkF_len fs
  exact ctlC v fs w hv (fit_bulk fs hb) (by omega) (by have := bulk_vals fs ccb; omega) (fun _ => hb)
set_option maxHeartbeats 2000000 in
theorem boundsW (v : Value) (fs : FL) (w : World) (hv : HoldsF w v fs) (hb : bulkF fs ≤ 1048576) :
    Calls Tryd.prog 4 #[v] w fun e w' => e = .returned (.bool true) ∧ Below w.heap.size w w' := by
  have hl := bulkF_len fs
  have cA := hide' (aliveK w)
  have cY := hide' (fun W (hw : Below w.heap.size w W) => copyF v fs W (holdsF_mono hv hw) (by omega))
  have cP := hide' (fun u W (hu : HoldsF W u fs) => ctlAny u fs W hu hb)
  obtain ⟨i6, i6'⟩ := numO_in (fndD (dirsOf (valsOf fs ccb)) mab)
  obtain ⟨i7, i7'⟩ := numO_in (fndD (dirsOf (valsOf fs ccb)) smb)
  obtain ⟨i8, i8'⟩ := numO_in (fndD (dirsOf (valsOf fs ccb)) mfb)
  obtain ⟨i9, i9'⟩ := stlO_in (fndD (dirsOf (valsOf fs ccb)) msb)
  unfold parOf ctlV numD at cP
  generalize numO (fndD (dirsOf (valsOf fs ccb)) mab) = n6 at cP i6 i6'
  generalize numO (fndD (dirsOf (valsOf fs ccb)) smb) = n7 at cP i7 i7'
  generalize numO (fndD (dirsOf (valsOf fs ccb)) mfb) = n8 at cP i8 i8'
  generalize stlO (fndD (dirsOf (valsOf fs ccb)) msb) = n9 at cP i9 i9'
  obtain ⟨ao, ca, _, _, hve, -⟩ := holdsF_parts hv
  rw [hve] at cY ⊢
  clear hv hve
  go_enter Tryd.func4, Tryd.ntmps4
  go_wp2_with fail
  refine cA.out.mono ?_
  rintro e w1 ⟨rfl, b1⟩
  have B1 := hide' b1
  clear b1 cA
  go_wp2_with fail
  refine (cY.out _ B1.out).mono ?_
  rintro e w2 ⟨u, rfl, ho⟩
  have c2 := hide' (cP.out u w2 (holdsF_own ho))
  obtain ⟨ao2, ca2, _, _, hu, -⟩ := holdsF_parts (holdsF_own ho)
  rw [hu] at c2 ⊢
  have B2 := hide' (B1.out.trans (ho.2.mono B1.out.size))
  clear ho hu cP cY B1
  go_wp2_with fail
  refine c2.out.mono ?_
  rintro e w3 ⟨rfl, b3⟩
  have B3 := hide' (B2.out.trans (b3.mono B2.out.size))
  clear b3 c2 B2
  go_wp2_with fail
  go_rounds 5
  go_ret
  exact ⟨rfl, (B3.out.alloc B3.out.size _).alloc (by have := B3.out.size; simp; omega) _⟩
end Go.Proofs.YtemmghmacbofaaaDoor
