/- The laws' own check of two calls. -/
import Derived.Test.YtnbidckmekmcfabRcE
import Derived.Test.YtnbidckmekmcfabSpB
import Derived.Lib.SlBytesConst
namespace Go.Proofs.Ytnbidckmekmcfab
open Go.RowKit
def nineL : List UInt8 := [49, 50, 51, 52, 53, 54, 55, 56, 57]
theorem nine_sum : sumOf nineL = 3421780262 := by decide +kernel
theorem mark9 (W : World) : Sem.run Try.prog (convert 25 25 (.slice (some ⟨W.heap.size, 0, none⟩) 9 9)) (W.alloc (.cells #[.int .u8 49, .int .u8 50, .int .u8 51, .int .u8 52, .int .u8 53, .int .u8 54, .int .u8 55, .int .u8 56, .int .u8 57] 5)) = .ok (.slice (some ⟨W.heap.size, 0, none⟩) 9 9) (W.alloc (.cells #[.int .u8 49, .int .u8 50, .int .u8 51, .int .u8 52, .int .u8 53, .int .u8 54, .int .u8 55, .int .u8 56, .int .u8 57] 5 (9, 10))) :=
  Lib.run_convert_bytes_const W 25 5 #[.int .u8 49, .int .u8 50, .int .u8 51, .int .u8 52, .int .u8 53, .int .u8 54, .int .u8 55, .int .u8 56, .int .u8 57] 9 9 Try.underlying25 Try.underlying5
theorem nine_holds (W : World) : HoldsB (W.alloc (.cells #[.int .u8 49, .int .u8 50, .int .u8 51, .int .u8 52, .int .u8 53, .int .u8 54, .int .u8 55, .int .u8 56, .int .u8 57] 5 (9, 10))) (.slice (some ⟨W.heap.size, 0, none⟩) 9 9) nineL := by
  refine ⟨_, 9, rfl, (fun e => by cases e), Nat.le_refl _, fun _ => ⟨W.heap.size, 0, rfl, by simp, fun j hj => ?_⟩⟩
  rw [World.cell?_alloc_mark]
  have : ∀ j : Fin 9, (#[Value.int .u8 49, .int .u8 50, .int .u8 51, .int .u8 52, .int .u8 53, .int .u8 54, .int .u8 55, .int .u8 56, .int .u8 57])[0 + j.val]? = some (B (nineL[j.val]'(j.isLt))) := by
    intro j
    match j with
    | ⟨0, _⟩ => rfl
    | ⟨1, _⟩ => rfl
    | ⟨2, _⟩ => rfl
    | ⟨3, _⟩ => rfl
    | ⟨4, _⟩ => rfl
    | ⟨5, _⟩ => rfl
    | ⟨6, _⟩ => rfl
    | ⟨7, _⟩ => rfl
    | ⟨8, _⟩ => rfl
  exact this ⟨j, hj⟩
theorem enc_alive : encOf 0 1 0 [] = (recL 1 0 0 [], 0) := by decide +kernel
set_option maxRecDepth 20000 in
set_option maxHeartbeats 1000000 in
theorem aliveC (w : World) :
    Calls Try.prog 4 #[] w fun e w' => e = .returned (.bool true) ∧ Below w.heap.size w w' := by
  have cE := encC 0 1 0 [] w (by simp)
  rw [enc_alive] at cE
  have CE := hide' cE
  unfold recV at CE
  clear cE
  go_enter Try.func4, Try.ntmps4
  go_wp2_with fail
  refine CE.out.mono ?_
  rintro e w1 ⟨u, rfl, ho⟩
  have b1 := ho.2
  have hh := holdsB_own ho
  obtain ⟨ao, cap, rfl, _, hcp, hc⟩ := hh
  obtain ⟨b, off, rfl, hlt, hcell⟩ := hc (by decide)
  have x1 := hcell 0 (by rw [recL_len]; omega)
  rw [recL_len] at hcp ⊢
  rw [show (recL 1 0 0 [])[0]'(by rw [recL_len]; omega) = 193 by rfl, Nat.add_zero] at x1
  unfold B at x1
  have kc := mark9 w1
  have b2 := below_alloc' w1 (.cells #[.int .u8 49, .int .u8 50, .int .u8 51, .int .u8 52, .int .u8 53, .int .u8 54, .int .u8 55, .int .u8 56, .int .u8 57] 5 (9, 10))
  have cS := hide' (sumC _ nineL _ (nine_holds w1) (by decide))
  rw [nine_sum] at cS
  have x2 := x1
  rw [← b2.cell (p := ⟨b, off, none⟩) hlt] at x2
  have B2 := hide' (b1.trans (b2.mono b1.size))
  clear ho hc hcell CE b1 b2 x1
  go_wp2_with fail
  refine cS.out.mono ?_
  rintro e w9 ⟨rfl, ew⟩
  rw [ew]; clear ew w9 cS kc
  generalize w1.alloc (.cells #[.int .u8 49, .int .u8 50, .int .u8 51, .int .u8 52, .int .u8 53, .int .u8 54, .int .u8 55, .int .u8 56, .int .u8 57] 5 (9, 10)) = w2 at x2 B2 ⊢
  go_wp2_with fail
  go_ret
  exact ⟨rfl, B2.out⟩
end Go.Proofs.Ytnbidckmekmcfab
