/- The law's alive of layer 18. -/
import Derived.Test.YtikokjclhpgocabDoorVaT
import Derived.Test.YtikokjclhpgocabDoorBr
namespace Go.Proofs.YtikokjclhpgocabDoor
open Go.RowKit
theorem sameFv (va vb : Value) (xs : FL) (w : World) (ha : HoldsF w va xs) (hb : HoldsF w vb xs) (la : xs.length ≤ 1000000000000000) :
    Calls Tryd.prog 9 #[va, vb] w fun e w' => e = .returned (.bool true) ∧ Below w.heap.size w w' := by
  refine (sameF va vb xs xs w ha hb la la).mono ?_
  rintro e w' ⟨rfl, n, rfl⟩
  exact ⟨by simp, below_drewN _ _⟩
theorem merge_alive (w : World) : Calls Tryd.prog 5 #[.slice (some ⟨w.heap.size, 0, none⟩) 2 2, .slice (some ⟨w.heap.size + 1, 0, none⟩) 1 1] ((w.alloc (.cells #[S [65], S [49], S [66], S [50]] 35)).alloc (.cells #[S [98], S [51]] 35)) fun e w' => ∃ ua uc, e = .returned (.slice ua 2 uc) ∧ HoldsF w' (.slice ua 2 uc) [([65], [49]), ([98], [51])] ∧ Below w.heap.size w w' := by
  have b1 := below_alloc' w (.cells #[S [65], S [49], S [66], S [50]] 35)
  have b2 := below_alloc' (w.alloc (.cells #[S [65], S [49], S [66], S [50]] 35)) (.cells #[S [98], S [51]] 35)
  have z : (w.alloc (.cells #[S [65], S [49], S [66], S [50]] 35)).heap.size = w.heap.size + 1 := by simp
  have h2 := holdsF_lit1 (w.alloc (.cells #[S [65], S [49], S [66], S [50]] 35)) [98] [51]
  rw [z] at h2
  have h := mergeC _ _ [([65], [49]), ([66], [50])] [([98], [51])] _ (holdsF_mono (holdsF_lit2 w [65] [49] [66] [50]) b2) h2 (fit_bulk (n := 1000) (by decide) (by omega)) (fit_bulk (n := 1000) (by decide) (by omega)) (by decide)
  have e1 : mergeM [([65], [49]), ([66], [50])] [([98], [51])] = [([65], [49]), ([98], [51])] := by decide +kernel
  rw [e1] at h
  refine h.mono ?_
  rintro e w' ⟨u, rfl, ho⟩
  obtain ⟨ua, uc, _, _, hu, _⟩ := holdsF_parts (holdsF_own ho)
  have hh := holdsF_own ho
  rw [hu] at hh ⊢
  exact ⟨_, _, rfl, hh, bt' (bt' b1 b2) ho.2⟩
set_option maxHeartbeats 4000000 in
theorem aliveVa (w : World) : Calls Tryd.prog 4 #[] w fun e w' => e = .returned (.bool true) ∧ Below w.heap.size w w' := by
  have c1 := tagC [87, 47, 34, 97, 34] w (by decide)
  rw [show tagS [87, 47, 34, 97, 34] = [34, 97, 34] by decide +kernel, show tagK [87, 47, 34, 97, 34] = true by decide +kernel, show tagB [87, 47, 34, 97, 34] = true by decide +kernel] at c1
  replace c1 := hide' c1
  have c2 := fun W => sameC [87, 47, 34, 97, 34] [34, 97, 34] false W (by decide)
  have c3 := fun W => sameC [87, 47, 34, 97, 34] [34, 97, 34] true W (by decide)
  rw [show sameG [87, 47, 34, 97, 34] [34, 97, 34] false = true by decide +kernel] at c2
  rw [show sameG [87, 47, 34, 97, 34] [34, 97, 34] true = false by decide +kernel] at c3
  replace c2 := hide' c2
  replace c3 := hide' c3
  go_enter Tryd.func4, Tryd.ntmps4
  go_wp2_with fail
  refine c1.out.mono ?_
  rintro e w1 ⟨rfl, b1⟩
  have B1 := hide' b1
  have cM := merge_alive w1
  unfold S at cM
  replace cM := hide' cM
  clear c1 b1
  go_wp2_with fail
  refine cM.out.mono ?_
  rintro e w2 ⟨ua, uc, rfl, h2, b2⟩
  have B2 := hide' (bt' B1.out b2)
  have H2 := hide' h2
  clear cM h2 b2 B1
  go_wp2_with fail
  refine (c2.out _).mono ?_
  rintro e w3 ⟨rfl, ew⟩
  rw [ew]
  clear ew w3 c2
  go_wp2_with fail
  refine (c3.out _).mono ?_
  rintro e w3 ⟨rfl, ew⟩
  rw [ew]
  clear ew w3 c3
  have c4 := sameFv _ _ [([65], [49]), ([98], [51])] (w2.alloc (.cells #[S [65], S [49], S [98], S [51]] 35)) (holdsF_mono H2.out (below_alloc' w2 _)) (holdsF_lit2 w2 [65] [49] [98] [51]) (by decide)
  unfold S at c4
  replace c4 := hide' c4
  go_wp2_with fail
  refine c4.out.mono ?_
  rintro e w3 ⟨rfl, b3⟩
  have B3 := hide' (bt' B2.out (bt' (below_alloc' w2 _) b3))
  clear b3 c4 B2 H2
  go_wp2_with fail
  go_ret
  exact ⟨rfl, B3.out⟩
end Go.Proofs.YtikokjclhpgocabDoor
