/- The walk of FieldsJoins. -/
import Derived.Test.YtfefihnmmlbfjabDoorFdPj
namespace Go.Proofs.YtfefihnmmlbfjabDoor
open Go.RowKit
namespace fieldsJoins
set_option maxRecDepth 20000 in
set_option maxHeartbeats 8000000 in
theorem walk (vx vy : Value) (xs ys : List UInt8) (w : World) (hx : HoldsB w vx xs) (hy : HoldsB w vy ys) (hl : xs.length + ys.length ≤ 1048576) (E : Env w) :
    Calls Tryd.prog 3 #[vx, vy] w fun e w' => e = .returned (.bool true) ∧ Below w.heap.size w w' := by
  have HX := hide' hx
  have HY := hide' hy
  have EV := hide' E
  have c0 := hide' (aliveC w E)
  have plx := parse_len xs
  have ply := parse_len ys
  have plc := parse_len (xs ++ ys)
  have P4 := hide' (parse_bad0 xs)
  have PJ := hide' (parse_joined xs ys)
  clear hx hy E
  go_enter Tryd.func3, Tryd.ntmps3
  go_wp2_with fail
  refine c0.out.mono ?_
  rintro e w1 ⟨rfl, b1⟩
  have B1 := hide' b1
  clear c0 b1
  go_wp2_with fail
  refine (copyB _ xs _ (holdsB_mono HX.out B1.out) (by omega)).mono ?_
  rintro e w2 ⟨u2, rfl, ho2⟩
  have B2 := hide' (bt' B1.out ho2.2)
  have H2 := hide' (holdsB_own ho2)
  clear ho2 B1
  go_wp2_with fail
  refine (parseC _ xs _ H2.out (env_below EV.out B2.out) (by omega)).mono ?_
  rintro e w3 ⟨u3, rfl, ho3⟩
  have B3 := hide' (bt' B2.out ho3.2)
  have A3 := hide' (holdsF_own ho3)
  clear ho3 B2 H2
  by_cases hz : (parseOf xs).2 = 0
  · have J := hide' (PJ.out hz)
    rw [hz]
    clear hz PJ P4
    generalize (parseOf xs).1 = ax at A3 J plx
    go_wp2_with fail
    refine (copyB _ ys _ (holdsB_mono HY.out B3.out) (by omega)).mono ?_
    rintro e w4 ⟨u4, rfl, ho4⟩
    have B4 := hide' (bt' B3.out ho4.2)
    have A4 := hide' (holdsF_mono A3.out ho4.2)
    have H4 := hide' (holdsB_own ho4)
    clear ho4 B3 A3
    go_wp2_with fail
    refine (parseC _ ys _ H4.out (env_below EV.out B4.out) (by omega)).mono ?_
    rintro e w5 ⟨u5, rfl, ho5⟩
    have B5 := hide' (bt' B4.out ho5.2)
    have A5 := hide' (holdsF_mono A4.out ho5.2)
    have D5 := hide' (holdsF_own ho5)
    clear ho5 B4 A4 H4
    generalize (parseOf ys).1 = ay at D5 J ply
    generalize (parseOf ys).2 = ey at J
    go_wp2_with fail
    refine (copyB _ xs _ (holdsB_mono HX.out B5.out) (by omega)).mono ?_
    rintro e w6 ⟨u6, rfl, ho6⟩
    have O6 := hide' ho6
    have Y6 := hide' (holdsB_mono HY.out (bt' B5.out ho6.2))
    clear ho6
    go_wp2_with (at_builtin; refine appAllB rfl (.tmp 34) (.tmp 35) rfl w5 _ xs rfl O6.out vy ys rfl Y6.out (by omega) ?_; intro v7 w7 ho7)
    have B7 := hide' (bt' B5.out ho7.2)
    have A7 := hide' (holdsF_mono A5.out ho7.2)
    have D7 := hide' (holdsF_mono D5.out ho7.2)
    have H7 := hide' (holdsB_own ho7)
    clear ho7 B5 A5 D5 O6 Y6
    refine (parseC _ (xs ++ ys) _ H7.out (env_below EV.out B7.out) (by rw [List.length_append]; omega)).mono ?_
    rintro e w8 ⟨u8, rfl, ho8⟩
    have B8 := hide' (bt' B7.out ho8.2)
    have A8 := hide' (holdsF_mono A7.out ho8.2)
    have D8 := hide' (holdsF_mono D7.out ho8.2)
    have C8 := hide' (holdsF_own ho8)
    clear ho8 B7 A7 D7 H7
    rcases J.out with ⟨j1, j2⟩ | ⟨j1, j2, j3, j4⟩
    · rw [j2] at C8
      obtain ⟨ao, cap, rfl, _⟩ := C8.out
      rw [j1]
      clear j1 j2 J C8
      go_wp2_with fail
      go_ret
      exact ⟨rfl, B8.out⟩
    · rw [j2]
      rw [j2] at j1
      by_cases hz : ey = 0
      · subst hz
        have e3 := j3 rfl
        rw [e3] at C8
        clear j1 j2 j3 j4 J e3
        go_wp2_with fail
        refine (copyF _ ax _ A8.out (by omega)).mono ?_
        rintro e w9 ⟨u9, rfl, ho9⟩
        have O9 := hide' ho9
        have E9 := hide' (holdsF_mono D8.out ho9.2)
        clear ho9
        go_wp2_with (at_builtin; refine appAllF rfl (.tmp 49) (.tmp 50) rfl w8 _ ax rfl O9.out u5 ay rfl E9.out (by omega) ?_; intro v10 w10 ho10)
        have B10 := hide' (bt' B8.out ho10.2)
        have C10 := hide' (holdsF_mono C8.out ho10.2)
        have L10 := hide' (holdsF_own ho10)
        clear ho10 O9 E9 A8 D8 C8 B8
        refine (sameFe _ _ (ax ++ ay) _ C10.out L10.out (by rw [List.length_append]; omega)).mono ?_
        rintro e w11 ⟨rfl, b11⟩
        have B11 := hide' (bt' B10.out b11)
        clear b11
        go_wp2_with fail
        go_ret
        exact ⟨rfl, B11.out⟩
      · have e4 := j4 hz
        rw [e4] at C8
        obtain ⟨ao, cap, rfl, _⟩ := C8.out
        have n42 : (ey == 42) = false := by simpa using j1
        have n0 : (ey != 0) = true := by simpa using hz
        have n1 : (ey == 0) = false := by simpa using hz
        clear j2 j3 j4 J e4
        go_wp2_with fail
        refine (copyF _ ax _ A8.out (by omega)).mono ?_
        rintro e w9 ⟨u9, rfl, ho9⟩
        have O9 := hide' ho9
        have E9 := hide' (holdsF_mono D8.out ho9.2)
        clear ho9
        go_wp2_with (at_builtin; refine appAllF rfl (.tmp 49) (.tmp 50) rfl w8 _ ax rfl O9.out u5 ay rfl E9.out (by omega) ?_; intro v10 w10 ho10)
        have B10 := hide' (bt' B8.out ho10.2)
        go_ret
        exact ⟨rfl, B10.out⟩
  · have e4 := P4.out hz
    rw [e4] at A3
    obtain ⟨ao7, cap7, rfl, _⟩ := A3.out
    have hy2 : ((parseOf xs).2 != 0) = true := by simpa using hz
    clear e4 P4 PJ
    generalize (parseOf xs).2 = er at hz hy2
    go_wp2_with fail
    go_ret
    exact ⟨rfl, B3.out⟩
end fieldsJoins
end Go.Proofs.YtfefihnmmlbfjabDoor
