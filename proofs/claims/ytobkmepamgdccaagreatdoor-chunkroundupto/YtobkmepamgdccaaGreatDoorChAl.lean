/- The laws' own check of one call. -/
import Derived.Test.YtobkmepamgdccaaGreatDoorChX
import Derived.Test.YtobkmepamgdccaaGreatDoorChY
namespace Go.Proofs.YtobkmepamgdccaaGreatDoor
open Go.RowKit
def aliveK : List UInt8 := [51, 13, 10, 97, 98, 99, 13, 10, 48, 13, 10, 65, 58, 32, 98, 13, 10, 13, 10, 120]
theorem dec_alive : decOf aliveK = ([97, 98, 99], [([65], [98])], 19, 0) := by decide +kernel
theorem markK (W : World) : Sem.run Tryz.prog (convert 22 22 (.slice (some ⟨W.heap.size, 0, none⟩) 20 20)) (W.alloc (.cells #[.int .u8 51, .int .u8 13, .int .u8 10, .int .u8 97, .int .u8 98, .int .u8 99, .int .u8 13, .int .u8 10, .int .u8 48, .int .u8 13, .int .u8 10, .int .u8 65, .int .u8 58, .int .u8 32, .int .u8 98, .int .u8 13, .int .u8 10, .int .u8 13, .int .u8 10, .int .u8 120] 5)) = .ok (.slice (some ⟨W.heap.size, 0, none⟩) 20 20) (W.alloc (.cells #[.int .u8 51, .int .u8 13, .int .u8 10, .int .u8 97, .int .u8 98, .int .u8 99, .int .u8 13, .int .u8 10, .int .u8 48, .int .u8 13, .int .u8 10, .int .u8 65, .int .u8 58, .int .u8 32, .int .u8 98, .int .u8 13, .int .u8 10, .int .u8 13, .int .u8 10, .int .u8 120] 5 (20, 21))) :=
  Lib.run_convert_bytes_const W 22 5 #[.int .u8 51, .int .u8 13, .int .u8 10, .int .u8 97, .int .u8 98, .int .u8 99, .int .u8 13, .int .u8 10, .int .u8 48, .int .u8 13, .int .u8 10, .int .u8 65, .int .u8 58, .int .u8 32, .int .u8 98, .int .u8 13, .int .u8 10, .int .u8 13, .int .u8 10, .int .u8 120] 20 20 Tryz.underlying22 Tryz.underlying5
theorem aliveK_holds (W : World) : HoldsB (W.alloc (.cells #[.int .u8 51, .int .u8 13, .int .u8 10, .int .u8 97, .int .u8 98, .int .u8 99, .int .u8 13, .int .u8 10, .int .u8 48, .int .u8 13, .int .u8 10, .int .u8 65, .int .u8 58, .int .u8 32, .int .u8 98, .int .u8 13, .int .u8 10, .int .u8 13, .int .u8 10, .int .u8 120] 5 (20, 21))) (.slice (some ⟨W.heap.size, 0, none⟩) 20 20) aliveK := by
  refine ⟨_, 20, rfl, (fun e => by cases e), Nat.le_refl _, fun _ => ⟨W.heap.size, 0, rfl, by simp, fun j hj => ?_⟩⟩
  rw [World.cell?_alloc_mark]
  have : ∀ j : Fin 20, (#[Value.int .u8 51, .int .u8 13, .int .u8 10, .int .u8 97, .int .u8 98, .int .u8 99, .int .u8 13, .int .u8 10, .int .u8 48, .int .u8 13, .int .u8 10, .int .u8 65, .int .u8 58, .int .u8 32, .int .u8 98, .int .u8 13, .int .u8 10, .int .u8 13, .int .u8 10, .int .u8 120])[0 + j.val]? = some (B (aliveK[j.val]'(j.isLt))) := by
    intro j
    match j with
    | ⟨0, _⟩ => rfl
    | ⟨1, _⟩ => rfl
    | ⟨2, _⟩ => rfl
    | ⟨3, _⟩ => rfl
    | ⟨4, _⟩ => rfl
    | ⟨5, _⟩ => rfl
    | ⟨6, _⟩ => rfl
    | ⟨7, _⟩ => rfl
    | ⟨8, _⟩ => rfl
    | ⟨9, _⟩ => rfl
    | ⟨10, _⟩ => rfl
    | ⟨11, _⟩ => rfl
    | ⟨12, _⟩ => rfl
    | ⟨13, _⟩ => rfl
    | ⟨14, _⟩ => rfl
    | ⟨15, _⟩ => rfl
    | ⟨16, _⟩ => rfl
    | ⟨17, _⟩ => rfl
    | ⟨18, _⟩ => rfl
    | ⟨19, _⟩ => rfl
    | ⟨k + 20, h⟩ => exact absurd h (by omega)
  exact this ⟨j, hj⟩
set_option maxRecDepth 20000 in
set_option maxHeartbeats 2000000 in
theorem aliveChC (w : World) (E : Env w) (R : Er w) :
    Calls Tryz.prog 9 #[] w fun e w' => e = .returned (.bool true) ∧ Below w.heap.size w w' := by
  have kc := markK w
  have b0 := below_alloc' w (.cells #[.int .u8 51, .int .u8 13, .int .u8 10, .int .u8 97, .int .u8 98, .int .u8 99, .int .u8 13, .int .u8 10, .int .u8 48, .int .u8 13, .int .u8 10, .int .u8 65, .int .u8 58, .int .u8 32, .int .u8 98, .int .u8 13, .int .u8 10, .int .u8 13, .int .u8 10, .int .u8 120] 5 (20, 21))
  have cP := decC _ aliveK _ (aliveK_holds w) (env_below E b0) (er_below R b0) (by decide)
  rw [dec_alive] at cP
  unfold decV at cP
  have CP := hide' cP
  have B0 := hide' b0
  clear cP b0 E R
  go_enter Tryz.func9, Tryz.ntmps9
  go_wp2_with fail
  refine CP.out.mono ?_
  rintro e w1 ⟨dv, lv, rfl, od, ofl⟩
  have B1 := hide' (bt' B0.out od.2)
  have hcv := own_conv od
  obtain ⟨la, lc, lb, lo, hlv, _⟩ := holdsF_parts (holdsF_own ofl)
  subst hlv
  clear od ofl CP kc B0
  go_wp2_with fail
  go_ret
  exact ⟨rfl, B1.out⟩
end Go.Proofs.YtobkmepamgdccaaGreatDoor
