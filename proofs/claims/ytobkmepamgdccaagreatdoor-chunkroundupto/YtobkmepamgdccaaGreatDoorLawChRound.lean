/- The walk of ChunkRound. -/
import Derived.Test.YtobkmepamgdccaaGreatDoorChAl
import Derived.Test.YtobkmepamgdccaaGreatDoorLawChEncodes
import Derived.Test.YtobkmepamgdccaaGreatDoorBf
namespace Go.Proofs.YtobkmepamgdccaaGreatDoor
open Go.RowKit
namespace chunkRound
set_option maxRecDepth 20000 in
set_option maxHeartbeats 8000000 in
theorem walk (v : Value) (d : List UInt8) (s : Int) (tv : Value) (fs : FL) (rv : Value) (rs : List UInt8) (w : World) (hv : HoldsB w v d) (ht : HoldsF w tv fs) (hr : HoldsB w rv rs) (hl : d.length ≤ 1048576) (hb : bulkF fs ≤ 1048576) (hrl : rs.length ≤ 1048576) (E : Env w) (R : Er w) (Z : Bru w) :
    Calls Tryz.prog 5 #[v, .int .i64 s, tv, rv] w fun e w' => e = .returned (.bool true) ∧ Below w.heap.size w w' := by
  have HV := hide' hv
  have HT := hide' ht
  have HR := hide' hr
  have EV := hide' E
  have RV := hide' R
  have ZV := hide' Z
  have c0 := hide' (aliveChC w E R)
  have pb := print_bulk fs
  have FT := hide' (show Fit fs from fun f hf => by have := bulkF_mem fs f hf; omega)
  have fl := bulkF_len fs
  have al := enc_all d s fs
  have cE := hide' (fun W (u tu : Value) (h1 : HoldsB W u d) (h2 : HoldsF W tu fs) (hz : Bru W) => encTok u tu d s fs W h1 h2 (by omega) FT.out (by omega) (by omega) hz)
  have bad := fun h => enc_bad (d := d) (s := s) (fs := fs) h
  have good := fun a (h : encOf d s fs = (a, 0)) => (⟨enc_round h rs, enc_short h rs, enc_pos h⟩ : decOf (a ++ rs) = (d, fs, a.length, 0) ∧ decOf ((a ++ rs).take (a.length - 1)) = ([], [], 0, 0) ∧ 5 ≤ a.length)
  generalize encOf d s fs = X at cE al bad good
  obtain ⟨x, ee⟩ := X
  simp only at cE al bad
  obtain ⟨ao, cap, rfl, _⟩ := hv
  obtain ⟨ra, rc, rfl, _⟩ := hr
  obtain ⟨ta, tc, _, _, etv, _⟩ := holdsF_parts ht
  subst etv
  clear E R Z ht
  have BAD := hide' bad
  have GOOD := hide' good
  clear bad good
  go_enter Tryz.func5, Tryz.ntmps5
  go_wp2_with fail
  refine c0.out.mono ?_
  rintro e w1 ⟨rfl, b1⟩
  have B1 := hide' b1
  clear c0 b1
  go_wp2_with fail
  refine (copyB _ d _ (holdsB_mono HV.out B1.out) (by omega)).mono ?_
  rintro e w2 ⟨u2, rfl, ho2⟩
  have B2 := hide' (bt' B1.out ho2.2)
  have D2 := hide' (holdsB_own ho2)
  clear ho2 B1
  go_wp2_with fail
  refine (copyF _ fs _ (holdsF_mono HT.out B2.out) (by omega)).mono ?_
  rintro e w3 ⟨u3, rfl, ho3⟩
  have B3 := hide' (bt' B2.out ho3.2)
  have D3 := hide' (holdsB_mono D2.out ho3.2)
  have T3 := hide' (holdsF_own ho3)
  clear ho3 B2 D2
  go_wp2_with fail
  refine (cE.out _ _ _ D3.out T3.out (bru_below ZV.out B3.out)).mono ?_
  rintro e w4 ⟨u4, rfl, ho4⟩
  have B4 := hide' (bt' B3.out ho4.2)
  have X4 := hide' (holdsB_own ho4)
  obtain ⟨xa, xc, hxv⟩ := row_slice ho4.1
  subst hxv
  clear ho4 B3 D3 T3
  by_cases g1 : ee = 0
  · subst g1
    obtain ⟨gd, gs, gp⟩ := GOOD.out x rfl
    clear BAD GOOD
    have cD := hide' (fun W (u : Value) (hb : HoldsB W u (x ++ rs)) (hE : Env W) (hR : Er W) => decC u (x ++ rs) W hb hE hR (by rw [List.length_append]; omega))
    have cS := hide' (fun W (u : Value) (hb : HoldsB W u ((x ++ rs).take (x.length - 1))) (hE : Env W) (hR : Er W) => decC u ((x ++ rs).take (x.length - 1)) W hb hE hR (by rw [List.length_take, List.length_append]; omega))
    rw [gd] at cD
    rw [gs] at cS
    unfold decV at cD cS
    simp only at cD cS
    clear gd gs
    obtain ⟨n, hn⟩ : ∃ n, n = x.length := ⟨_, rfl⟩
    have NN := hide' hn
    rw [← hn] at cD cS al gp X4 ⊢
    clear hn
    go_wp2_with fail
    refine (copyB _ x _ X4.out (by rw [← NN.out]; omega)).mono ?_
    rintro e w5 ⟨u5, rfl, ho5⟩
    have B5 := hide' (bt' B4.out ho5.2)
    have O5 := hide' ho5
    have R5 := hide' (holdsB_mono HR.out (bt' B4.out ho5.2))
    clear ho5 X4
    go_wp2_with (at_builtin; refine appAllB rfl (.tmp 36) (.tmp 37) rfl w4 _ x rfl O5.out _ rs rfl R5.out (by rw [← NN.out]; omega) ?_; intro v6 w6 ho6; have O6 := hide' ho6; clear ho6)
    have B6 := hide' (bt' B4.out O6.out.2)
    have V6 := hide' (holdsB_own O6.out)
    obtain ⟨ba, bc, hbv⟩ := row_slice O6.out.1
    subst hbv
    rw [List.length_append, ← NN.out] at V6 ⊢
    obtain ⟨pv, sl, HP6⟩ := holdsB_take (k := n - 1) (bs := x ++ rs) (w := w6) (v := .slice ba (n + rs.length) bc) V6.out (by rw [List.length_append, ← NN.out]; omega)
    have SL : ∀ W, Sem.run Tryz.prog (Instr.slice 22 (.slice ba (n + rs.length) bc) none (some (.int .i64 ((n : Int) - 1))) none) W = .ok pv W := by
      intro W
      have h5 := sl W
      rwa [show (((n - 1 : Nat) : Int)) = (n : Int) - 1 by omega] at h5
    have HP := hide' HP6
    clear sl HP6 O6
    go_wp2_with fail
    refine (cD.out _ _ V6.out (env_below EV.out B6.out) (er_below RV.out B6.out)).mono ?_
    rintro e w7 ⟨dv7, lv7, rfl, od7, of7⟩
    have B7 := hide' (bt' B6.out od7.2)
    have D7 := hide' (holdsB_own od7)
    have L7 := hide' (holdsF_own of7)
    have P7 := hide' (holdsB_mono HP.out od7.2)
    clear od7 of7 HP V6
    go_wp2_with fail
    refine (sameBe _ _ d _ D7.out (holdsB_mono HV.out B7.out) (by omega)).mono ?_
    rintro e w8 ⟨rfl, b8⟩
    have B8 := hide' (bt' B7.out b8)
    have L8 := hide' (holdsF_mono L7.out b8)
    have P8 := hide' (holdsB_mono P7.out b8)
    clear b8 L7 P7 D7
    go_wp2_with fail
    refine (sameFe _ _ fs _ L8.out (holdsF_mono HT.out B8.out) (by omega)).mono ?_
    rintro e w9 ⟨rfl, b9⟩
    have B9 := hide' (bt' B8.out b9)
    have P9 := hide' (holdsB_mono P8.out b9)
    clear b9 L8 P8
    go_wp2_with fail
    refine (cS.out _ _ P9.out (env_below EV.out B9.out) (er_below RV.out B9.out)).mono ?_
    rintro e w10 ⟨dv10, lv10, rfl, od10, of10⟩
    have B10 := hide' (bt' B9.out od10.2)
    obtain ⟨da, dc, hd10⟩ := row_slice od10.1
    obtain ⟨la, lc, hl10⟩ := row_slice of10.1
    subst hd10 hl10
    clear od10 of10
    go_wp2_with fail
    go_ret
    exact ⟨rfl, B10.out⟩
  · have t1 : (ee != 0) = true := by simpa using g1
    have x0 := BAD.out g1
    subst x0
    clear BAD GOOD g1
    go_wp2_with fail
    go_ret
    exact ⟨rfl, B4.out⟩
end chunkRound
end Go.Proofs.YtobkmepamgdccaaGreatDoor
