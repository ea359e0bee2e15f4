/- The walk of ChunkSizes. -/
import Derived.Test.YtobkmepamgdccaaGreatDoorChAl
import Derived.Test.YtobkmepamgdccaaGreatDoorLawChEncodes
namespace Go.Proofs.YtobkmepamgdccaaGreatDoor
open Go.RowKit
namespace chunkSizes
set_option maxRecDepth 20000 in
set_option maxHeartbeats 8000000 in
theorem walk (v : Value) (d : List UInt8) (p q : Int) (tv : Value) (fs : FL) (w : World) (hv : HoldsB w v d) (ht : HoldsF w tv fs) (hl : d.length ≤ 1048576) (hb : bulkF fs ≤ 1048576) (E : Env w) (R : Er w) (Z : Bru w) :
    Calls Tryz.prog 7 #[v, .int .i64 p, .int .i64 q, tv] w fun e w' => e = .returned (.bool true) ∧ Below w.heap.size w w' := by
  have HV := hide' hv
  have HT := hide' ht
  have EV := hide' E
  have RV := hide' R
  have ZV := hide' Z
  have c0 := hide' (aliveChC w E R)
  have pb := print_bulk fs
  have FT := hide' (show Fit fs from fun f hf => by have := bulkF_mem fs f hf; omega)
  have fl := bulkF_len fs
  have al := enc_all d p fs
  have al2 := enc_all d q fs
  have cE := hide' (fun W (u tu : Value) (h1 : HoldsB W u d) (h2 : HoldsF W tu fs) (hz : Bru W) => encTok u tu d p fs W h1 h2 (by omega) FT.out (by omega) (by omega) hz)
  have cF := hide' (fun W (u tu : Value) (h1 : HoldsB W u d) (h2 : HoldsF W tu fs) (hz : Bru W) => encTok u tu d q fs W h1 h2 (by omega) FT.out (by omega) (by omega) hz)
  have good := fun a (h : encOf d p fs = (a, 0)) => enc_round h []
  have good2 := fun a (h : encOf d q fs = (a, 0)) => enc_round h []
  generalize encOf d p fs = X at cE al good
  generalize encOf d q fs = Y at cF al2 good2
  obtain ⟨x, ee⟩ := X
  obtain ⟨y, ef⟩ := Y
  simp only at cE cF al al2
  obtain ⟨ao, cap, rfl, _⟩ := hv
  obtain ⟨ta, tc, _, _, etv, _⟩ := holdsF_parts ht
  subst etv
  clear E R Z ht
  have GOOD := hide' good
  have GOOD2 := hide' good2
  clear good good2
  go_enter Tryz.func7, Tryz.ntmps7
  go_wp2_with fail
  refine c0.out.mono ?_
  rintro e w1 ⟨rfl, b1⟩
  have B1 := hide' b1
  clear c0 b1
  go_wp2_with fail
  refine (copyB _ d _ (holdsB_mono HV.out B1.out) (by omega)).mono ?_
  rintro e w2 ⟨u2, rfl, ho2⟩
  have B2 := hide' (bt' B1.out ho2.2)
  have D2 := hide' (holdsB_own ho2)
  clear ho2 B1
  go_wp2_with fail
  refine (copyF _ fs _ (holdsF_mono HT.out B2.out) (by omega)).mono ?_
  rintro e w3 ⟨u3, rfl, ho3⟩
  have B3 := hide' (bt' B2.out ho3.2)
  have D3 := hide' (holdsB_mono D2.out ho3.2)
  have T3 := hide' (holdsF_own ho3)
  clear ho3 B2 D2
  go_wp2_with fail
  refine (cE.out _ _ _ D3.out T3.out (bru_below ZV.out B3.out)).mono ?_
  rintro e w4 ⟨u4, rfl, ho4⟩
  have B4 := hide' (bt' B3.out ho4.2)
  have X4 := hide' (holdsB_own ho4)
  obtain ⟨xa, xc, hxv⟩ := row_slice ho4.1
  subst hxv
  clear ho4 B3 D3 T3
  go_wp2_with fail
  refine (copyB _ d _ (holdsB_mono HV.out B4.out) (by omega)).mono ?_
  rintro e w5 ⟨u5, rfl, ho5⟩
  have B5 := hide' (bt' B4.out ho5.2)
  have X5 := hide' (holdsB_mono X4.out ho5.2)
  have D5 := hide' (holdsB_own ho5)
  clear ho5 B4 X4
  go_wp2_with fail
  refine (copyF _ fs _ (holdsF_mono HT.out B5.out) (by omega)).mono ?_
  rintro e w6 ⟨u6, rfl, ho6⟩
  have B6 := hide' (bt' B5.out ho6.2)
  have X6 := hide' (holdsB_mono X5.out ho6.2)
  have D6 := hide' (holdsB_mono D5.out ho6.2)
  have T6 := hide' (holdsF_own ho6)
  clear ho6 B5 D5 X5
  go_wp2_with fail
  refine (cF.out _ _ _ D6.out T6.out (bru_below ZV.out B6.out)).mono ?_
  rintro e w7 ⟨u7, rfl, ho7⟩
  have B7 := hide' (bt' B6.out ho7.2)
  have X7 := hide' (holdsB_mono X6.out ho7.2)
  have Y7 := hide' (holdsB_own ho7)
  obtain ⟨ya, yc, hyv⟩ := row_slice ho7.1
  subst hyv
  clear ho7 B6 D6 T6 X6
  by_cases g1 : ee = 0
  · subst g1
    by_cases g2 : ef = 0
    · subst g2
      have gd := GOOD.out x rfl
      have gd2 := GOOD2.out y rfl
      rw [List.append_nil] at gd gd2
      have cD := hide' (fun W (u : Value) (hb : HoldsB W u x) (hE : Env W) (hR : Er W) => decC u x W hb hE hR (by omega))
      have cG := hide' (fun W (u : Value) (hb : HoldsB W u y) (hE : Env W) (hR : Er W) => decC u y W hb hE hR (by omega))
      rw [gd] at cD
      rw [gd2] at cG
      unfold decV at cD cG
      simp only at cD cG
      clear gd gd2 GOOD GOOD2
      go_wp2_with fail
      refine (cD.out _ _ X7.out (env_below EV.out B7.out) (er_below RV.out B7.out)).mono ?_
      rintro e w8 ⟨dv8, lv8, rfl, od8, of8⟩
      have B8 := hide' (bt' B7.out od8.2)
      have D8 := hide' (holdsB_own od8)
      have L8 := hide' (holdsF_own of8)
      have Y8 := hide' (holdsB_mono Y7.out od8.2)
      clear od8 of8 B7 X7 Y7
      go_wp2_with fail
      refine (cG.out _ _ Y8.out (env_below EV.out B8.out) (er_below RV.out B8.out)).mono ?_
      rintro e w9 ⟨dv9, lv9, rfl, od9, of9⟩
      have B9 := hide' (bt' B8.out od9.2)
      have D9 := hide' (holdsB_mono D8.out od9.2)
      have L9 := hide' (holdsF_mono L8.out od9.2)
      have E9 := hide' (holdsB_own od9)
      have M9 := hide' (holdsF_own of9)
      clear od9 of9 B8 D8 L8 Y8
      go_wp2_with fail
      refine (sameBe _ _ d _ D9.out E9.out (by omega)).mono ?_
      rintro e w10 ⟨rfl, b10⟩
      have B10 := hide' (bt' B9.out b10)
      have L10 := hide' (holdsF_mono L9.out b10)
      have M10 := hide' (holdsF_mono M9.out b10)
      clear b10 L9 M9 D9 E9
      go_wp2_with fail
      refine (sameFe _ _ fs _ L10.out M10.out (by omega)).mono ?_
      rintro e w11 ⟨rfl, b11⟩
      have B11 := hide' (bt' B10.out b11)
      clear b11
      go_wp2_with fail
      go_ret
      exact ⟨rfl, B11.out⟩
    · have t2 : (ef != 0) = true := by simpa using g2
      clear g2
      go_wp2_with fail
      go_ret
      exact ⟨rfl, B7.out⟩
  · have t1 : (ee != 0) = true := by simpa using g1
    clear g1
    go_wp2_with fail
    go_ret
    exact ⟨rfl, B7.out⟩
end chunkSizes
end Go.Proofs.YtobkmepamgdccaaGreatDoor
