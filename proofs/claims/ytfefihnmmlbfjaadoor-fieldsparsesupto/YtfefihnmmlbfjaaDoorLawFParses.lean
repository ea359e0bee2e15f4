/- The walk of FieldsParses. -/
import Derived.Test.YtfefihnmmlbfjaaDoorFdA
import Derived.Test.YtfefihnmmlbfjaaDoorFdY
namespace Go.Proofs.YtfefihnmmlbfjaaDoor
open Go.RowKit
namespace fieldsParses
set_option maxRecDepth 20000 in
set_option maxHeartbeats 4000000 in
theorem walk (v : Value) (bs : List UInt8) (w : World) (hv : HoldsB w v bs) (hl : bs.length ≤ 1048576) (E : Env w) :
    Calls Tryd.prog 3 #[v] w fun e w' => e = .returned (.bool true) ∧ Below w.heap.size w w' := by
  have HV := hide' hv
  have EV := hide' E
  have c0 := hide' (aliveC w E)
  have pl := parse_len bs
  obtain ⟨ao, cap, rfl, _⟩ := hv
  clear E
  have ml : mks.length = 8 := rfl
  go_enter Tryd.func3, Tryd.ntmps3
  go_wp2_with fail
  refine c0.out.mono ?_
  rintro e w1 ⟨rfl, b1⟩
  have B1 := hide' b1
  clear c0 b1
  go_wp2_with fail
  refine (spareC _ bs _ (holdsB_mono HV.out B1.out) (by omega)).mono ?_
  rintro e w2 ⟨u2, rfl, ho2⟩
  have B2 := hide' (bt' B1.out ho2.2)
  have F2 := hide' (holdsB_own ho2)
  obtain ⟨fb, fc, rfl, hfc, hF⟩ := own_front ho2 (by decide)
  rw [ml] at hfc F2 ⊢
  have HF := hide' hF
  clear ho2 B1 hF
  go_wp2_with fail
  refine (parseC _ bs _ HF.out (env_below EV.out B2.out) (by omega)).mono ?_
  rintro e w3 ⟨u3, rfl, ho3⟩
  have B3 := hide' (bt' B2.out ho3.2)
  have F3 := hide' (holdsB_mono F2.out ho3.2)
  have P3 := hide' (holdsF_own ho3)
  clear ho3 B2 F2 HF
  go_wp2_with fail
  refine (parseRef _ bs _ (holdsB_mono HV.out B3.out) (by omega)).mono ?_
  rintro e w4 ⟨u4, rfl, ho4⟩
  have B4 := hide' (bt' B3.out ho4.2)
  have F4 := hide' (holdsB_mono F3.out ho4.2)
  have P4 := hide' (holdsF_mono P3.out ho4.2)
  have Q4 := hide' (holdsF_own ho4)
  clear ho4 B3 F3 P3
  generalize (parseOf bs).2 = er
  go_wp2_with fail
  refine (sameFe _ _ _ _ P4.out Q4.out (by omega)).mono ?_
  rintro e w5 ⟨rfl, b5⟩
  have B5 := hide' (bt' B4.out b5)
  have F5 := hide' (holdsB_mono F4.out b5)
  clear b5 B4 F4 P4 Q4
  go_wp2_with fail
  refine (spareC _ bs _ (holdsB_mono HV.out B5.out) (by omega)).mono ?_
  rintro e w6 ⟨u6, rfl, ho6⟩
  have B6 := hide' (bt' B5.out ho6.2)
  have F6 := hide' (holdsB_mono F5.out ho6.2)
  have G6 := hide' (holdsB_own ho6)
  clear ho6 B5 F5
  go_wp2_with fail
  refine (sameBe _ _ (bs ++ mks) _ F6.out G6.out (by rw [List.length_append]; omega)).mono ?_
  rintro e w7 ⟨rfl, b7⟩
  have B7 := hide' (bt' B6.out b7)
  clear b7
  go_wp2_with fail
  go_ret
  exact ⟨rfl, B7.out⟩
end fieldsParses
end Go.Proofs.YtfefihnmmlbfjaaDoor
