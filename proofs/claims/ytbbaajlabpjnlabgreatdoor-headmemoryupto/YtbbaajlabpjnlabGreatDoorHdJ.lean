/- The law's own check of one call. -/
import Derived.Test.YtbbaajlabpjnlabGreatDoorHdI
namespace Go.Proofs.YtbbaajlabpjnlabGreatDoor
open Go.RowKit
def aliveH : List UInt8 := [71, 69, 84, 32, 104, 116, 116, 112, 58, 47, 47, 97, 47, 32, 72, 84, 84, 80, 47, 49, 46, 49, 13, 10, 72, 111, 115, 116, 58, 32, 97, 13, 10, 13, 10, 120]
theorem aliveH_m : (reqOf aliveH).1.m = [71, 69, 84] := by decide +kernel
theorem aliveH_t : (reqOf aliveH).1.t = [104, 116, 116, 112, 58, 47, 47, 97, 47] := by decide +kernel
theorem aliveH_k : (reqOf aliveH).1.k = 1 := by decide +kernel
theorem aliveH_n : (reqOf aliveH).2 = (35, 0) := by decide +kernel
set_option maxRecDepth 20000 in
theorem markH (W : World) : Sem.run Tryz.prog (convert 22 22 (.slice (some ⟨W.heap.size, 0, none⟩) 36 36)) (W.alloc (.cells #[.int .u8 71, .int .u8 69, .int .u8 84, .int .u8 32, .int .u8 104, .int .u8 116, .int .u8 116, .int .u8 112, .int .u8 58, .int .u8 47, .int .u8 47, .int .u8 97, .int .u8 47, .int .u8 32, .int .u8 72, .int .u8 84, .int .u8 84, .int .u8 80, .int .u8 47, .int .u8 49, .int .u8 46, .int .u8 49, .int .u8 13, .int .u8 10, .int .u8 72, .int .u8 111, .int .u8 115, .int .u8 116, .int .u8 58, .int .u8 32, .int .u8 97, .int .u8 13, .int .u8 10, .int .u8 13, .int .u8 10, .int .u8 120] 5)) = .ok (.slice (some ⟨W.heap.size, 0, none⟩) 36 36) (W.alloc (.cells #[.int .u8 71, .int .u8 69, .int .u8 84, .int .u8 32, .int .u8 104, .int .u8 116, .int .u8 116, .int .u8 112, .int .u8 58, .int .u8 47, .int .u8 47, .int .u8 97, .int .u8 47, .int .u8 32, .int .u8 72, .int .u8 84, .int .u8 84, .int .u8 80, .int .u8 47, .int .u8 49, .int .u8 46, .int .u8 49, .int .u8 13, .int .u8 10, .int .u8 72, .int .u8 111, .int .u8 115, .int .u8 116, .int .u8 58, .int .u8 32, .int .u8 97, .int .u8 13, .int .u8 10, .int .u8 13, .int .u8 10, .int .u8 120] 5 (36, 37))) :=
  Lib.run_convert_bytes_const W 22 5 #[.int .u8 71, .int .u8 69, .int .u8 84, .int .u8 32, .int .u8 104, .int .u8 116, .int .u8 116, .int .u8 112, .int .u8 58, .int .u8 47, .int .u8 47, .int .u8 97, .int .u8 47, .int .u8 32, .int .u8 72, .int .u8 84, .int .u8 84, .int .u8 80, .int .u8 47, .int .u8 49, .int .u8 46, .int .u8 49, .int .u8 13, .int .u8 10, .int .u8 72, .int .u8 111, .int .u8 115, .int .u8 116, .int .u8 58, .int .u8 32, .int .u8 97, .int .u8 13, .int .u8 10, .int .u8 13, .int .u8 10, .int .u8 120] 36 36 Tryz.underlying22 Tryz.underlying5
set_option maxRecDepth 20000 in
theorem aliveH_at (j : Nat) (hj : j < aliveH.length) : (#[.int .u8 71, .int .u8 69, .int .u8 84, .int .u8 32, .int .u8 104, .int .u8 116, .int .u8 116, .int .u8 112, .int .u8 58, .int .u8 47, .int .u8 47, .int .u8 97, .int .u8 47, .int .u8 32, .int .u8 72, .int .u8 84, .int .u8 84, .int .u8 80, .int .u8 47, .int .u8 49, .int .u8 46, .int .u8 49, .int .u8 13, .int .u8 10, .int .u8 72, .int .u8 111, .int .u8 115, .int .u8 116, .int .u8 58, .int .u8 32, .int .u8 97, .int .u8 13, .int .u8 10, .int .u8 13, .int .u8 10, .int .u8 120] : Array Value)[0 + j]? = some (B aliveH[j]) := by
  rw [show (#[.int .u8 71, .int .u8 69, .int .u8 84, .int .u8 32, .int .u8 104, .int .u8 116, .int .u8 116, .int .u8 112, .int .u8 58, .int .u8 47, .int .u8 47, .int .u8 97, .int .u8 47, .int .u8 32, .int .u8 72, .int .u8 84, .int .u8 84, .int .u8 80, .int .u8 47, .int .u8 49, .int .u8 46, .int .u8 49, .int .u8 13, .int .u8 10, .int .u8 72, .int .u8 111, .int .u8 115, .int .u8 116, .int .u8 58, .int .u8 32, .int .u8 97, .int .u8 13, .int .u8 10, .int .u8 13, .int .u8 10, .int .u8 120] : Array Value) = (aliveH.map B).toArray from rfl, Nat.zero_add]
  simp [hj]
set_option maxRecDepth 20000 in
theorem aliveH_holds (W : World) : HoldsB (W.alloc (.cells #[.int .u8 71, .int .u8 69, .int .u8 84, .int .u8 32, .int .u8 104, .int .u8 116, .int .u8 116, .int .u8 112, .int .u8 58, .int .u8 47, .int .u8 47, .int .u8 97, .int .u8 47, .int .u8 32, .int .u8 72, .int .u8 84, .int .u8 84, .int .u8 80, .int .u8 47, .int .u8 49, .int .u8 46, .int .u8 49, .int .u8 13, .int .u8 10, .int .u8 72, .int .u8 111, .int .u8 115, .int .u8 116, .int .u8 58, .int .u8 32, .int .u8 97, .int .u8 13, .int .u8 10, .int .u8 13, .int .u8 10, .int .u8 120] 5 (36, 37))) (.slice (some ⟨W.heap.size, 0, none⟩) 36 36) aliveH := by
  refine ⟨_, 36, rfl, (fun e => by cases e), Nat.le_refl _, fun _ => ⟨W.heap.size, 0, rfl, by simp, fun j hj => ?_⟩⟩
  rw [World.cell?_alloc_mark]
  exact aliveH_at j hj
set_option maxRecDepth 20000 in
set_option maxHeartbeats 1000000 in
theorem aliveHC (w : World) (E : Env w) :
    Calls Tryz.prog 4 #[] w fun e w' => e = .returned (.bool true) ∧ Below w.heap.size w w' := by
  have kc := markH w
  have b0 := below_alloc' w (.cells #[.int .u8 71, .int .u8 69, .int .u8 84, .int .u8 32, .int .u8 104, .int .u8 116, .int .u8 116, .int .u8 112, .int .u8 58, .int .u8 47, .int .u8 47, .int .u8 97, .int .u8 47, .int .u8 32, .int .u8 72, .int .u8 84, .int .u8 84, .int .u8 80, .int .u8 47, .int .u8 49, .int .u8 46, .int .u8 49, .int .u8 13, .int .u8 10, .int .u8 72, .int .u8 111, .int .u8 115, .int .u8 116, .int .u8 58, .int .u8 32, .int .u8 97, .int .u8 13, .int .u8 10, .int .u8 13, .int .u8 10, .int .u8 120] 5 (36, 37))
  have cP := reqC _ aliveH _ (aliveH_holds w) (env_below E b0) (by decide)
  unfold reqV rqV at cP
  rw [aliveH_m, aliveH_t, aliveH_k, aliveH_n] at cP
  have CP := hide' cP
  have B0 := hide' b0
  clear cP b0 E
  go_enter Tryz.func4, Tryz.ntmps4
  go_wp2_with fail
  refine CP.out.mono ?_
  rintro e w1 ⟨lv, rfl, ho⟩
  have B1 := hide' (bt' B0.out ho.2)
  obtain ⟨la, lc, lb, lo, hlv, _⟩ := holdsF_parts (holdsF_own ho)
  subst hlv
  clear ho CP kc B0
  generalize (reqOf aliveH).1.fs.length = nf
  go_wp2_with fail
  go_ret
  exact ⟨rfl, B1.out.alloc B1.out.size _⟩
end Go.Proofs.YtbbaajlabpjnlabGreatDoor
