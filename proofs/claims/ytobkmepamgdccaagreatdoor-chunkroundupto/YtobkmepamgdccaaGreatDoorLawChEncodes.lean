/- The walk of ChunkEncodes. -/
import Derived.Test.YtobkmepamgdccaaGreatDoorChAl
import Derived.Test.YtobkmepamgdccaaGreatDoorChD
import Derived.Test.YtobkmepamgdccaaGreatDoorFdA
import Derived.Test.YtobkmepamgdccaaGreatDoorBf
namespace Go.Proofs.YtobkmepamgdccaaGreatDoor
open Go.RowKit
theorem enc_all (d : List UInt8) (s : Int) (fs : FL) : (encOf d s fs).1.length ≤ 900000 := by
  unfold encOf
  split
  · simp
  · rename_i h1
    split
    · simp
    · rename_i h2
      split
      · simp
      · split
        · simp
        · rename_i h4
          show (encC (d.length + 1) d s.toNat ++ lastC (printP fs).1).length ≤ 900000
          have h5 := enc_len (d.length + 1) d s.toNat (by omega) (by omega)
          have h6 : (lastC (printP fs).1).length = (printP fs).1.length + 5 := by unfold lastC; simp
          rw [List.length_append, h6]
          omega
namespace chunkEncodes
set_option maxRecDepth 20000 in
set_option maxHeartbeats 8000000 in
theorem walk (v : Value) (d : List UInt8) (s : Int) (tv : Value) (fs : FL) (w : World) (hv : HoldsB w v d) (ht : HoldsF w tv fs) (hl : d.length ≤ 1048576) (hb : bulkF fs ≤ 1048576) (E : Env w) (R : Er w) (Z : Bru w) :
    Calls Tryz.prog 4 #[v, .int .i64 s, tv] w fun e w' => e = .returned (.bool true) ∧ Below w.heap.size w w' := by
  have HV := hide' hv
  have HT := hide' ht
  have ZV := hide' Z
  have c0 := hide' (aliveChC w E R)
  have pb := print_bulk fs
  have FT := hide' (show Fit fs from fun f hf => by have := bulkF_mem fs f hf; omega)
  have fl := bulkF_len fs
  have al := enc_all d s fs
  have cE := hide' (fun W (u tu : Value) (h1 : HoldsB W u d) (h2 : HoldsF W tu fs) (hz : Bru W) => encTok u tu d s fs W h1 h2 (by omega) FT.out (by omega) (by omega) hz)
  have cR := hide' (fun W (u tu : Value) (h1 : HoldsB W u d) (h2 : HoldsF W tu fs) => encRef u tu d s fs W h1 h2 (by omega) FT.out (by omega) (by omega))
  generalize encOf d s fs = X at cE cR al
  obtain ⟨x, ee⟩ := X
  simp only at cE cR al
  obtain ⟨ao, cap, rfl, _⟩ := hv
  obtain ⟨ta, tc, _, _, etv, _⟩ := holdsF_parts ht
  subst etv
  clear E R Z ht
  have ml : mks.length = 8 := rfl
  go_enter Tryz.func4, Tryz.ntmps4
  go_wp2_with fail
  refine c0.out.mono ?_
  rintro e w1 ⟨rfl, b1⟩
  have B1 := hide' b1
  clear c0 b1
  go_wp2_with fail
  refine (spareC _ d _ (holdsB_mono HV.out B1.out) (by omega)).mono ?_
  rintro e w2 ⟨u2, rfl, ho2⟩
  have B2 := hide' (bt' B1.out ho2.2)
  have F2 := hide' (holdsB_own ho2)
  obtain ⟨fb, fc, rfl, hfc, hF⟩ := own_front ho2 (by decide)
  rw [ml] at hfc F2 ⊢
  have HF := hide' hF
  clear ho2 B1 hF
  go_wp2_with fail
  refine (copyF _ fs _ (holdsF_mono HT.out B2.out) (by omega)).mono ?_
  rintro e w3 ⟨u3, rfl, ho3⟩
  have B3 := hide' (bt' B2.out ho3.2)
  have F3 := hide' (holdsB_mono F2.out ho3.2)
  have HF3 := hide' (holdsB_mono HF.out ho3.2)
  have T3 := hide' (holdsF_own ho3)
  clear ho3 B2 F2 HF
  go_wp2_with fail
  refine (cE.out _ _ _ HF3.out T3.out (bru_below ZV.out B3.out)).mono ?_
  rintro e w4 ⟨u4, rfl, ho4⟩
  have B4 := hide' (bt' B3.out ho4.2)
  have F4 := hide' (holdsB_mono F3.out ho4.2)
  have T4 := hide' (holdsF_mono T3.out ho4.2)
  have X4 := hide' (holdsB_own ho4)
  clear ho4 B3 F3 HF3 T3
  go_wp2_with fail
  refine (cR.out _ _ _ (holdsB_mono HV.out B4.out) (holdsF_mono HT.out B4.out)).mono ?_
  rintro e w5 ⟨u5, rfl, ho5⟩
  have B5 := hide' (bt' B4.out ho5.2)
  have F5 := hide' (holdsB_mono F4.out ho5.2)
  have T5 := hide' (holdsF_mono T4.out ho5.2)
  have X5 := hide' (holdsB_mono X4.out ho5.2)
  have Y5 := hide' (holdsB_own ho5)
  clear ho5 B4 F4 T4 X4
  go_wp2_with fail
  refine (sameBe _ _ x _ X5.out Y5.out (by omega)).mono ?_
  rintro e w6 ⟨rfl, b6⟩
  have B6 := hide' (bt' B5.out b6)
  have F6 := hide' (holdsB_mono F5.out b6)
  have T6 := hide' (holdsF_mono T5.out b6)
  clear b6 B5 F5 T5 X5 Y5
  go_wp2_with fail
  refine (spareC _ d _ (holdsB_mono HV.out B6.out) (by omega)).mono ?_
  rintro e w7 ⟨u7, rfl, ho7⟩
  have B7 := hide' (bt' B6.out ho7.2)
  have F7 := hide' (holdsB_mono F6.out ho7.2)
  have T7 := hide' (holdsF_mono T6.out ho7.2)
  have G7 := hide' (holdsB_own ho7)
  clear ho7 B6 F6 T6
  go_wp2_with fail
  refine (sameBe _ _ (d ++ mks) _ F7.out G7.out (by rw [List.length_append]; omega)).mono ?_
  rintro e w8 ⟨rfl, b8⟩
  have B8 := hide' (bt' B7.out b8)
  have T8 := hide' (holdsF_mono T7.out b8)
  clear b8 B7 T7 F7 G7
  go_wp2_with fail
  refine (sameFe _ _ fs _ T8.out (holdsF_mono HT.out B8.out) (by omega)).mono ?_
  rintro e w9 ⟨rfl, b9⟩
  have B9 := hide' (bt' B8.out b9)
  clear b9
  go_wp2_with fail
  go_ret
  exact ⟨rfl, B9.out⟩
end chunkEncodes
end Go.Proofs.YtobkmepamgdccaaGreatDoor
