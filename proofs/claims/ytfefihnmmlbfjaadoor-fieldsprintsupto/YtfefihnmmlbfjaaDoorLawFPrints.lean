/- The walk of FieldsPrints. -/
import Derived.Test.YtfefihnmmlbfjaaDoorFdPs
import Derived.Test.YtfefihnmmlbfjaaDoorFdPq
namespace Go.Proofs.YtfefihnmmlbfjaaDoor
open Go.RowKit
namespace fieldsPrints
set_option maxRecDepth 20000 in
set_option maxHeartbeats 4000000 in
theorem walk (v : Value) (fs : FL) (w : World) (hv : HoldsF w v fs) (hb : bulkF fs ≤ 1048576) (E : Env w) :
    Calls Tryd.prog 4 #[v] w fun e w' => e = .returned (.bool true) ∧ Below w.heap.size w w' := by
  have HV := hide' hv
  have c0 := hide' (aliveC w E)
  have pb := print_bulk fs
  have FT := hide' (show Fit fs from fun f hf => by have := bulkF_mem fs f hf; omega)
  have fl := bulkF_len fs
  have lp1 : (printP fs).1.length ≤ 2097152 := by
    unfold printP
    split
    · simp
    · split
      · simp
      · show (printOf fs).length ≤ _
        omega
  clear hv E
  go_enter Tryd.func4, Tryd.ntmps4
  go_wp2_with fail
  refine c0.out.mono ?_
  rintro e w1 ⟨rfl, b1⟩
  have B1 := hide' b1
  clear c0 b1
  go_wp2_with fail
  refine (copyF _ fs _ (holdsF_mono HV.out B1.out) (by omega)).mono ?_
  rintro e w2 ⟨u2, rfl, ho2⟩
  have B2 := hide' (bt' B1.out ho2.2)
  have H2 := hide' (holdsF_own ho2)
  clear ho2 B1
  go_wp2_with fail
  refine (printTok _ fs _ H2.out FT.out (by omega) (by omega)).mono ?_
  rintro e w3 ⟨u3, rfl, ho3⟩
  have B3 := hide' (bt' B2.out ho3.2)
  have H3 := hide' (holdsF_mono H2.out ho3.2)
  have Q3 := hide' (holdsB_own ho3)
  clear ho3 B2 H2
  go_wp2_with fail
  refine (printRef _ fs _ (holdsF_mono HV.out B3.out) FT.out (by omega) (by omega)).mono ?_
  rintro e w4 ⟨u4, rfl, ho4⟩
  have B4 := hide' (bt' B3.out ho4.2)
  have H4 := hide' (holdsF_mono H3.out ho4.2)
  have Q4 := hide' (holdsB_mono Q3.out ho4.2)
  have R4 := hide' (holdsB_own ho4)
  clear ho4 B3 H3 Q3
  generalize (printP fs).2 = er
  generalize (printP fs).1 = pr at Q4 R4 lp1
  go_wp2_with fail
  refine (sameBe _ _ pr _ Q4.out R4.out (by omega)).mono ?_
  rintro e w5 ⟨rfl, b5⟩
  have B5 := hide' (bt' B4.out b5)
  have H5 := hide' (holdsF_mono H4.out b5)
  clear b5 B4 H4 Q4 R4
  go_wp2_with fail
  refine (sameFe _ _ fs _ H5.out (holdsF_mono HV.out B5.out) (by omega)).mono ?_
  rintro e w6 ⟨rfl, b6⟩
  have B6 := hide' (bt' B5.out b6)
  clear b6
  go_wp2_with fail
  go_ret
  exact ⟨rfl, B6.out⟩
end fieldsPrints
end Go.Proofs.YtfefihnmmlbfjaaDoor
