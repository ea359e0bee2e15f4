/- The laws' own check of one call. -/
import Derived.Test.YtmikgpmnffdnnaaGreatDoorInR
import Derived.Test.YtmikgpmnffdnnaaGreatDoorInN
import Derived.Lib.SlBytesConst
namespace Go.Proofs.YtmikgpmnffdnnaaGreatDoor
open Go.RowKit
def aliveM : List UInt8 := [80, 79, 83, 84, 32, 47, 32, 72, 84, 84, 80, 47, 49, 46, 49, 13, 10, 72, 111, 115, 116, 58, 32, 97, 13, 10, 67, 111, 110, 116, 101, 110, 116, 45, 76, 101, 110, 103, 116, 104, 58, 32, 50, 13, 10, 13, 10, 120, 121, 122]
set_option maxRecDepth 20000 in
theorem mark_aliveM (W : World) : Sem.run Tryz.prog (convert 22 22 (.slice (some ⟨W.heap.size, 0, none⟩) 50 50)) (W.alloc (.cells #[.int .u8 80, .int .u8 79, .int .u8 83, .int .u8 84, .int .u8 32, .int .u8 47, .int .u8 32, .int .u8 72, .int .u8 84, .int .u8 84, .int .u8 80, .int .u8 47, .int .u8 49, .int .u8 46, .int .u8 49, .int .u8 13, .int .u8 10, .int .u8 72, .int .u8 111, .int .u8 115, .int .u8 116, .int .u8 58, .int .u8 32, .int .u8 97, .int .u8 13, .int .u8 10, .int .u8 67, .int .u8 111, .int .u8 110, .int .u8 116, .int .u8 101, .int .u8 110, .int .u8 116, .int .u8 45, .int .u8 76, .int .u8 101, .int .u8 110, .int .u8 103, .int .u8 116, .int .u8 104, .int .u8 58, .int .u8 32, .int .u8 50, .int .u8 13, .int .u8 10, .int .u8 13, .int .u8 10, .int .u8 120, .int .u8 121, .int .u8 122] 5)) = .ok (.slice (some ⟨W.heap.size, 0, none⟩) 50 50) (W.alloc (.cells #[.int .u8 80, .int .u8 79, .int .u8 83, .int .u8 84, .int .u8 32, .int .u8 47, .int .u8 32, .int .u8 72, .int .u8 84, .int .u8 84, .int .u8 80, .int .u8 47, .int .u8 49, .int .u8 46, .int .u8 49, .int .u8 13, .int .u8 10, .int .u8 72, .int .u8 111, .int .u8 115, .int .u8 116, .int .u8 58, .int .u8 32, .int .u8 97, .int .u8 13, .int .u8 10, .int .u8 67, .int .u8 111, .int .u8 110, .int .u8 116, .int .u8 101, .int .u8 110, .int .u8 116, .int .u8 45, .int .u8 76, .int .u8 101, .int .u8 110, .int .u8 103, .int .u8 116, .int .u8 104, .int .u8 58, .int .u8 32, .int .u8 50, .int .u8 13, .int .u8 10, .int .u8 13, .int .u8 10, .int .u8 120, .int .u8 121, .int .u8 122] 5 (50, 51))) :=
  Lib.run_convert_bytes_const W 22 5 #[.int .u8 80, .int .u8 79, .int .u8 83, .int .u8 84, .int .u8 32, .int .u8 47, .int .u8 32, .int .u8 72, .int .u8 84, .int .u8 84, .int .u8 80, .int .u8 47, .int .u8 49, .int .u8 46, .int .u8 49, .int .u8 13, .int .u8 10, .int .u8 72, .int .u8 111, .int .u8 115, .int .u8 116, .int .u8 58, .int .u8 32, .int .u8 97, .int .u8 13, .int .u8 10, .int .u8 67, .int .u8 111, .int .u8 110, .int .u8 116, .int .u8 101, .int .u8 110, .int .u8 116, .int .u8 45, .int .u8 76, .int .u8 101, .int .u8 110, .int .u8 103, .int .u8 116, .int .u8 104, .int .u8 58, .int .u8 32, .int .u8 50, .int .u8 13, .int .u8 10, .int .u8 13, .int .u8 10, .int .u8 120, .int .u8 121, .int .u8 122] 50 50 Tryz.underlying22 Tryz.underlying5
set_option maxRecDepth 20000 in
theorem aliveM_at (j : Nat) (hj : j < aliveM.length) : (#[.int .u8 80, .int .u8 79, .int .u8 83, .int .u8 84, .int .u8 32, .int .u8 47, .int .u8 32, .int .u8 72, .int .u8 84, .int .u8 84, .int .u8 80, .int .u8 47, .int .u8 49, .int .u8 46, .int .u8 49, .int .u8 13, .int .u8 10, .int .u8 72, .int .u8 111, .int .u8 115, .int .u8 116, .int .u8 58, .int .u8 32, .int .u8 97, .int .u8 13, .int .u8 10, .int .u8 67, .int .u8 111, .int .u8 110, .int .u8 116, .int .u8 101, .int .u8 110, .int .u8 116, .int .u8 45, .int .u8 76, .int .u8 101, .int .u8 110, .int .u8 103, .int .u8 116, .int .u8 104, .int .u8 58, .int .u8 32, .int .u8 50, .int .u8 13, .int .u8 10, .int .u8 13, .int .u8 10, .int .u8 120, .int .u8 121, .int .u8 122] : Array Value)[0 + j]? = some (B aliveM[j]) := by
  rw [show (#[.int .u8 80, .int .u8 79, .int .u8 83, .int .u8 84, .int .u8 32, .int .u8 47, .int .u8 32, .int .u8 72, .int .u8 84, .int .u8 84, .int .u8 80, .int .u8 47, .int .u8 49, .int .u8 46, .int .u8 49, .int .u8 13, .int .u8 10, .int .u8 72, .int .u8 111, .int .u8 115, .int .u8 116, .int .u8 58, .int .u8 32, .int .u8 97, .int .u8 13, .int .u8 10, .int .u8 67, .int .u8 111, .int .u8 110, .int .u8 116, .int .u8 101, .int .u8 110, .int .u8 116, .int .u8 45, .int .u8 76, .int .u8 101, .int .u8 110, .int .u8 103, .int .u8 116, .int .u8 104, .int .u8 58, .int .u8 32, .int .u8 50, .int .u8 13, .int .u8 10, .int .u8 13, .int .u8 10, .int .u8 120, .int .u8 121, .int .u8 122] : Array Value) = (aliveM.map B).toArray from rfl]
  simp [hj]
set_option maxRecDepth 20000 in
theorem aliveM_holds (W : World) : HoldsB (W.alloc (.cells #[.int .u8 80, .int .u8 79, .int .u8 83, .int .u8 84, .int .u8 32, .int .u8 47, .int .u8 32, .int .u8 72, .int .u8 84, .int .u8 84, .int .u8 80, .int .u8 47, .int .u8 49, .int .u8 46, .int .u8 49, .int .u8 13, .int .u8 10, .int .u8 72, .int .u8 111, .int .u8 115, .int .u8 116, .int .u8 58, .int .u8 32, .int .u8 97, .int .u8 13, .int .u8 10, .int .u8 67, .int .u8 111, .int .u8 110, .int .u8 116, .int .u8 101, .int .u8 110, .int .u8 116, .int .u8 45, .int .u8 76, .int .u8 101, .int .u8 110, .int .u8 103, .int .u8 116, .int .u8 104, .int .u8 58, .int .u8 32, .int .u8 50, .int .u8 13, .int .u8 10, .int .u8 13, .int .u8 10, .int .u8 120, .int .u8 121, .int .u8 122] 5 (50, 51))) (.slice (some ⟨W.heap.size, 0, none⟩) 50 50) aliveM := by
  refine ⟨_, 50, rfl, (fun e => by cases e), Nat.le_refl _, fun _ => ⟨W.heap.size, 0, rfl, by simp, fun j hj => ?_⟩⟩
  rw [World.cell?_alloc_mark]
  exact aliveM_at j hj
theorem aliveM_m : (msgQ aliveM).1.m = [80, 79, 83, 84] := by decide +kernel
theorem aliveM_b : (msgQ aliveM).2.1 = [120, 121] := by decide +kernel
theorem aliveM_n : (msgQ aliveM).2.2.2 = (49, 0) := by decide +kernel
theorem msgQ_split (b : List UInt8) (m d : List UInt8) (p : Nat × Int) (h1 : (msgQ b).1.m = m) (h2 : (msgQ b).2.1 = d) (h3 : (msgQ b).2.2.2 = p) : ∃ t k fs tl, msgQ b = (⟨m, t, k, fs⟩, d, tl, p) := by
  generalize msgQ b = X at h1 h2 h3 ⊢
  obtain ⟨⟨m', t, k, fs⟩, d', tl, p'⟩ := X
  simp only at h1 h2 h3
  subst h1 h2 h3
  exact ⟨t, k, fs, tl, rfl⟩
set_option maxRecDepth 20000 in
set_option maxHeartbeats 4000000 in
theorem aliveI (w : World) (E : Env w) (R : Er w) :
    Calls Tryz.prog 9 #[] w fun e w' => e = .returned (.bool true) ∧ Below w.heap.size w w' := by
  have kc := mark_aliveM w
  have b0 := below_alloc' w (.cells #[.int .u8 80, .int .u8 79, .int .u8 83, .int .u8 84, .int .u8 32, .int .u8 47, .int .u8 32, .int .u8 72, .int .u8 84, .int .u8 84, .int .u8 80, .int .u8 47, .int .u8 49, .int .u8 46, .int .u8 49, .int .u8 13, .int .u8 10, .int .u8 72, .int .u8 111, .int .u8 115, .int .u8 116, .int .u8 58, .int .u8 32, .int .u8 97, .int .u8 13, .int .u8 10, .int .u8 67, .int .u8 111, .int .u8 110, .int .u8 116, .int .u8 101, .int .u8 110, .int .u8 116, .int .u8 45, .int .u8 76, .int .u8 101, .int .u8 110, .int .u8 103, .int .u8 116, .int .u8 104, .int .u8 58, .int .u8 32, .int .u8 50, .int .u8 13, .int .u8 10, .int .u8 13, .int .u8 10, .int .u8 120, .int .u8 121, .int .u8 122] 5 (50, 51))
  have cP := msgC _ aliveM _ (aliveM_holds w) (env_below E b0) (er_below R b0) (by decide)
  obtain ⟨t, k, fs, tl, hX⟩ := msgQ_split aliveM _ _ _ aliveM_m aliveM_b aliveM_n
  rw [hX] at cP
  have CP := hide' cP
  have B0 := hide' b0
  clear cP b0 E R hX
  go_enter Tryz.func9, Tryz.ntmps9
  go_wp2_with fail
  refine CP.out.mono ?_
  intro e w1 h
  obtain ⟨la, lc, ba, bc, ta, tc, rfl, _, b1, _, oB, _⟩ := ansQ_open h
  simp only [List.length_cons, List.length_nil] at oB ⊢
  have b2 := below_alloc' w1 (.cells #[.string ⟨#[80, 79, 83, 84]⟩, .string ⟨t.toArray⟩, .int .i64 k, .slice la fs.length lc, .int .i64 0, .string ⟨#[]⟩, .int .i64 0, .slice none 0 0, .slice ba 2 bc, .slice ta tl.length tc] 31)
  have B2 := hide' (bt' (bt' B0.out b1) b2)
  have hcv := own_conv (own_mono oB b2)
  clear h b1 b2 oB CP kc B0
  go_wp2_with fail
  go_ret
  exact ⟨rfl, B2.out⟩
end Go.Proofs.YtmikgpmnffdnnaaGreatDoor
