/- The walk of FrameLasts. -/
import Derived.Test.YtnjfahidcbglpaaDoorFrL
namespace Go.Proofs.YtnjfahidcbglpaaDoor
open Go.RowKit
namespace frameLasts
theorem sameFe (va vb : Value) (xs : FL) (w : World) (ha : HoldsF w va xs) (hb : HoldsF w vb xs) (la : xs.length ≤ 1000000000000000) :
    Calls Tryd.prog 21 #[va, vb] w fun e w' => e = .returned (.bool true) ∧ Below w.heap.size w w' := by
  refine (sameF va vb xs xs w ha hb la la).mono ?_
  rintro e w' ⟨rfl, n, rfl⟩
  exact ⟨by simp, below_drewN _ _⟩
set_option maxRecDepth 20000 in
set_option maxHeartbeats 2000000 in
theorem walk (m : Int) (v : Value) (fs : FL) (w : World) (hv : HoldsF w v fs) (hb : bulkF fs ≤ 1048576) :
    Calls Tryd.prog 5 #[.int .i64 m, v] w fun e w' => e = .returned (.bool true) ∧ Below w.heap.size w w' := by
  have HV := hide' hv
  have hfl := bulkF_len fs
  have c0 : ∀ W, Calls Tryd.prog 18 #[.int .i64 0, .slice none 0 0] W fun e w' => e = .returned (.bool true) ∧ Below W.heap.size W w' := fun W => lastTok 0 _ [] W (holdsF_lit0 W) (by decide)
  have c1 : ∀ W, Calls Tryd.prog 18 #[.int .i64 1, .slice none 0 0] W fun e w' => e = .returned (.bool false) ∧ Below W.heap.size W w' := fun W => lastTok 1 _ [] W (holdsF_lit0 W) (by decide)
  have C0 := hide' c0
  have C1 := hide' c1
  have cT := hide' (fun W (u : Value) (h : HoldsF W u fs) => lastTok m u fs W h hb)
  have cR := hide' (fun W (h : Below w.heap.size w W) => lastRef m v fs W (holdsF_mono hv h) hb)
  generalize lastOf m (toksOf (valsOf fs COb)) = d at cT cR
  obtain ⟨ao, ca, b, o, rfl, _⟩ := holdsF_parts hv
  clear hv c0 c1
  go_enter Tryd.func5, Tryd.ntmps5
  go_wp2_with fail
  refine (C0.out _).mono ?_
  rintro e w1 ⟨rfl, b1⟩
  have B1 := hide' b1
  clear b1 C0
  go_wp2_with fail
  refine (C1.out _).mono ?_
  rintro e w2 ⟨rfl, b2⟩
  have B2 := hide' (bt' B1.out b2)
  clear b2 C1 B1
  go_wp2_with fail
  refine (copyF _ fs _ (holdsF_mono HV.out B2.out) (by omega)).mono ?_
  rintro e w3 ⟨u, rfl, ho⟩
  have B3 := hide' (bt' B2.out ho.2)
  have H3 := hide' (holdsF_own ho)
  obtain ⟨ua, uc, ub, uo, hu, _⟩ := holdsF_parts H3.out
  subst hu
  clear ho B2
  go_wp2_with fail
  refine (cT.out _ _ H3.out).mono ?_
  rintro e w4 ⟨rfl, b4⟩
  have B4 := hide' (bt' B3.out b4)
  have H4 := hide' (holdsF_mono H3.out b4)
  clear b4 B3 H3
  go_wp2_with fail
  refine (cR.out _ B4.out).mono ?_
  rintro e w5 ⟨rfl, b5⟩
  have B5 := hide' (bt' B4.out b5)
  have H5 := hide' (holdsF_mono H4.out b5)
  clear b5 B4 H4
  go_wp2_with fail
  refine (sameFe _ _ _ _ H5.out (holdsF_mono HV.out B5.out) (by omega)).mono ?_
  rintro e w6 ⟨rfl, b6⟩
  have B6 := hide' (bt' B5.out b6)
  clear b6
  go_wp2_with fail
  go_ret
  exact ⟨rfl, B6.out⟩
end frameLasts
end Go.Proofs.YtnjfahidcbglpaaDoor
