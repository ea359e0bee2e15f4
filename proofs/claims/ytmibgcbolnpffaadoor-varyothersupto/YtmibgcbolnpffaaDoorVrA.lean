/- The law's alive of layer 17. -/
import Derived.Test.YtmibgcbolnpffaaDoorVrK
import Derived.Test.YtmibgcbolnpffaaDoorBk
import Derived.Test.YtmibgcbolnpffaaDoorBm
import Derived.Test.YtmibgcbolnpffaaDoorBr
namespace Go.Proofs.YtmibgcbolnpffaaDoor
open Go.RowKit
theorem sameTv (va vb : Value) (xs : List Nm) (w : World) (ha : Holds w va xs) (hb : Holds w vb xs) (la : xs.length ≤ 1000000000000000) :
    Calls Tryd.prog 13 #[va, vb] w fun e w' => e = .returned (.bool true) ∧ Below w.heap.size w w' := by
  refine (sameTexts va vb xs xs w ha hb la la).mono ?_
  rintro e w' ⟨rfl, n, rfl⟩
  exact ⟨by simp, below_drewN _ _⟩
theorem holds_lit2v (w : World) (x y : List UInt8) : Holds (w.alloc (.cells #[S x, S y] 9)) (.slice (some ⟨w.heap.size, 0, none⟩) 2 2) [x, y] := by
  refine ⟨_, 2, rfl, fun _ => ⟨w.heap.size, 0, rfl, by simp, fun j hj => ?_⟩⟩
  match j, hj with
  | 0, _ => simp
  | 1, _ => simp
theorem names_alive (w : World) : Calls Tryd.prog 11 #[.slice (some ⟨w.heap.size, 0, none⟩) 2 2] (w.alloc (.cells #[S [86, 97, 114, 121], S [65, 99, 99, 101, 112, 116, 44, 32, 97, 99, 99, 101, 112, 116, 45, 108, 97, 110, 103, 117, 97, 103, 101], S [118, 97, 114, 121], S [65, 99, 99, 101, 112, 116]] 43)) fun e w' => ∃ ua uc, e = .returned (.tuple #[.slice ua 2 uc, .bool true]) ∧ Holds w' (.slice ua 2 uc) [[97, 99, 99, 101, 112, 116], [97, 99, 99, 101, 112, 116, 45, 108, 97, 110, 103, 117, 97, 103, 101]] ∧ Below w.heap.size w w' := by
  have h := namesC _ [([86, 97, 114, 121], [65, 99, 99, 101, 112, 116, 44, 32, 97, 99, 99, 101, 112, 116, 45, 108, 97, 110, 103, 117, 97, 103, 101]), ([118, 97, 114, 121], [65, 99, 99, 101, 112, 116])] _ (holdsF_lit2 w [86, 97, 114, 121] [65, 99, 99, 101, 112, 116, 44, 32, 97, 99, 99, 101, 112, 116, 45, 108, 97, 110, 103, 117, 97, 103, 101] [118, 97, 114, 121] [65, 99, 99, 101, 112, 116]) (by decide)
  have e1 : namesB [([86, 97, 114, 121], [65, 99, 99, 101, 112, 116, 44, 32, 97, 99, 99, 101, 112, 116, 45, 108, 97, 110, 103, 117, 97, 103, 101]), ([118, 97, 114, 121], [65, 99, 99, 101, 112, 116])] = true := by decide +kernel
  have e2 : namesV [([86, 97, 114, 121], [65, 99, 99, 101, 112, 116, 44, 32, 97, 99, 99, 101, 112, 116, 45, 108, 97, 110, 103, 117, 97, 103, 101]), ([118, 97, 114, 121], [65, 99, 99, 101, 112, 116])] = [[97, 99, 99, 101, 112, 116], [97, 99, 99, 101, 112, 116, 45, 108, 97, 110, 103, 117, 97, 103, 101]] := by decide +kernel
  rw [e1, e2] at h
  refine h.mono ?_
  rintro e w' ⟨u, rfl, ho⟩
  obtain ⟨ua, uc, _, _, hu, _⟩ := holds_parts (holds_own ho)
  have hh := holds_own ho
  rw [hu] at hh ⊢
  exact ⟨_, _, rfl, hh, bt' (below_alloc' w _) ho.2⟩
theorem key_alive (nv : Value) (w : World) (hn : Holds w nv [[97, 99, 99, 101, 112, 116], [97, 99, 99, 101, 112, 116, 45, 108, 97, 110, 103, 117, 97, 103, 101]]) : Calls Tryd.prog 16 #[nv, .slice (some ⟨w.heap.size, 0, none⟩) 2 2] (w.alloc (.cells #[S [65, 99, 99, 101, 112, 116], S [97, 32, 44, 98], S [88], S [99]] 43)) fun e w' => e = .returned (.string ⟨([97, 99, 99, 101, 112, 116, 58, 97, 44, 98, 10, 97, 99, 99, 101, 112, 116, 45, 108, 97, 110, 103, 117, 97, 103, 101, 10] : List UInt8).toArray⟩) ∧ Below w.heap.size w w' := by
  have h := keyC nv _ [[97, 99, 99, 101, 112, 116], [97, 99, 99, 101, 112, 116, 45, 108, 97, 110, 103, 117, 97, 103, 101]] [([65, 99, 99, 101, 112, 116], [97, 32, 44, 98]), ([88], [99])] _ (holds_mono hn (below_alloc' w _)) (holdsF_lit2 w [65, 99, 99, 101, 112, 116] [97, 32, 44, 98] [88] [99]) (by decide) (by decide)
  have e1 : keyV [[97, 99, 99, 101, 112, 116], [97, 99, 99, 101, 112, 116, 45, 108, 97, 110, 103, 117, 97, 103, 101]] [([65, 99, 99, 101, 112, 116], [97, 32, 44, 98]), ([88], [99])] = [97, 99, 99, 101, 112, 116, 58, 97, 44, 98, 10, 97, 99, 99, 101, 112, 116, 45, 108, 97, 110, 103, 117, 97, 103, 101, 10] := by decide +kernel
  rw [e1] at h
  refine h.mono ?_
  rintro e w' ⟨rfl, hb⟩
  exact ⟨rfl, bt' (below_alloc' w _) hb⟩
set_option maxHeartbeats 2000000 in
theorem aliveV (w : World) : Calls Tryd.prog 9 #[] w fun e w' => e = .returned (.bool true) ∧ Below w.heap.size w w' := by
  have c1 := names_alive w
  unfold S at c1
  replace c1 := hide' c1
  go_enter Tryd.func9, Tryd.ntmps9
  go_wp2_with fail
  refine c1.out.mono ?_
  rintro e w1 ⟨ua, uc, rfl, h1, b1⟩
  have B1 := hide' b1
  have H1 := hide' h1
  have c2 := key_alive _ w1 h1
  unfold S at c2
  replace c2 := hide' c2
  clear c1 b1 h1
  go_wp2_with fail
  refine c2.out.mono ?_
  rintro e w2 ⟨rfl, b2⟩
  have B2 := hide' (bt' B1.out b2)
  have H2 := hide' (holds_mono H1.out b2)
  clear b2 c2 B1 H1
  have c3 := sameTv _ _ [[97, 99, 99, 101, 112, 116], [97, 99, 99, 101, 112, 116, 45, 108, 97, 110, 103, 117, 97, 103, 101]] (w2.alloc (.cells #[S [97, 99, 99, 101, 112, 116], S [97, 99, 99, 101, 112, 116, 45, 108, 97, 110, 103, 117, 97, 103, 101]] 9)) (holds_mono H2.out (below_alloc' w2 _)) (holds_lit2v w2 [97, 99, 99, 101, 112, 116] [97, 99, 99, 101, 112, 116, 45, 108, 97, 110, 103, 117, 97, 103, 101]) (by decide)
  unfold S at c3
  replace c3 := hide' c3
  go_wp2_with fail
  refine c3.out.mono ?_
  rintro e w3 ⟨rfl, b3⟩
  have B3 := hide' (bt' B2.out (bt' (below_alloc' w2 _) b3))
  clear b3 c3 B2 H2
  go_wp2_with fail
  go_ret
  exact ⟨rfl, B3.out⟩
end Go.Proofs.YtmibgcbolnpffaaDoor
