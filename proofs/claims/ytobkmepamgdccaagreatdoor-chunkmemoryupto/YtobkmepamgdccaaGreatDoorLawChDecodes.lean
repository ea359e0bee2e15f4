/- The walk of ChunkDecodes. -/
import Derived.Test.YtobkmepamgdccaaGreatDoorChAl
import Derived.Test.YtobkmepamgdccaaGreatDoorChK
import Derived.Test.YtobkmepamgdccaaGreatDoorFdA
namespace Go.Proofs.YtobkmepamgdccaaGreatDoor
open Go.RowKit
theorem fs_dec : ∀ (f : Nat) (b out : List UInt8) (p : Nat), (decG f b out p).2.1.length ≤ 100 := by
  intro f
  induction f with
  | zero => intro b out p; simp [decG]
  | succ f ih =>
    intro b out p
    by_cases h2 : (stepC b out.length).o = 2
    · rw [dec_chunk h2]; exact ih _ _ _
    · by_cases h3 : (stepC b out.length).o = 3
      · rw [dec_fin h3]
        obtain ⟨_, _, _, _, _, es⟩ := chs_three b out.length h3
        rw [es]
        show (tailC (b.drop (lenL b + 1))).1.length ≤ 100
        unfold tailC
        split
        · simp
        · split
          · simp
          · split
            · exact parse_len _
            · simp
      · rw [dec_stop h2 h3]; simp
theorem dec_fs (b : List UInt8) : (decOf b).2.1.length ≤ 100 := fs_dec _ _ _ _
theorem out_dec : ∀ (f : Nat) (b out : List UInt8) (p : Nat), out.length ≤ 65536 → (decG f b out p).1.length ≤ 65536 := by
  intro f
  induction f with
  | zero => intro b out p h; simp [decG]
  | succ f ih =>
    intro b out p h
    by_cases h2 : (stepC b out.length).o = 2
    · rw [dec_chunk h2]
      refine ih _ _ _ ?_
      rw [List.length_append]
      have key : (stepC b out.length).d.length + out.length ≤ 65536 := by
        rcases lineC_cases b with e | e | ⟨s, e, hlt, _⟩
        · rw [chs_none e] at h2; simp [St.need] at h2
        · rw [chs_bad e] at h2; simp [St.err] at h2
        · rw [chs_line e (by omega)] at h2 ⊢
          split
          · rename_i hs
            rw [if_pos hs] at h2
            unfold finC at h2
            split at h2
            · simp [St.err] at h2
            · split at h2 <;> simp [St.need] at h2
          · rename_i hs
            rw [if_neg hs] at h2
            unfold dataC at h2 ⊢
            split
            · rename_i q; rw [if_pos q] at h2; simp [St.err] at h2
            · rename_i q
              rw [if_neg q] at h2
              split
              · rename_i q2; rw [if_pos q2] at h2; simp [St.need] at h2
              · split
                · simp [St.err]; omega
                · show ((b.drop _).take s).length + out.length ≤ 65536
                  rw [List.length_take]
                  omega
      omega
    · by_cases h3 : (stepC b out.length).o = 3
      · rw [dec_fin h3]; exact h
      · rw [dec_stop h2 h3]; simp
theorem dec_out (b : List UInt8) : (decOf b).1.length ≤ 65536 := out_dec _ _ _ _ (by simp)
namespace chunkDecodes
set_option maxRecDepth 20000 in
set_option maxHeartbeats 8000000 in
theorem walk (v : Value) (bs : List UInt8) (w : World) (hv : HoldsB w v bs) (hl : bs.length ≤ 1048576) (E : Env w) (R : Er w) (_Z : Bru w) :
    Calls Tryz.prog 3 #[v] w fun e w' => e = .returned (.bool true) ∧ Below w.heap.size w w' := by
  have HV := hide' hv
  have EV := hide' E
  have RV := hide' R
  have c0 := hide' (aliveChC w E R)
  have pl := dec_fs bs
  have ol := dec_out bs
  have cD := hide' (fun W (u : Value) (hb : HoldsB W u bs) (hE : Env W) (hR : Er W) => decC u bs W hb hE hR (by omega))
  have cR := hide' (fun W (u : Value) (hb : HoldsB W u bs) => decRef u bs W hb (by omega))
  unfold decV at cD cR
  generalize decOf bs = D at cD cR pl ol
  obtain ⟨d, fs, n, ee⟩ := D
  simp only at cD cR pl ol
  obtain ⟨ao, cap, rfl, _⟩ := hv
  clear E R
  have ml : mks.length = 8 := rfl
  go_enter Tryz.func3, Tryz.ntmps3
  go_wp2_with fail
  refine c0.out.mono ?_
  rintro e w1 ⟨rfl, b1⟩
  have B1 := hide' b1
  clear c0 b1
  go_wp2_with fail
  refine (spareC _ bs _ (holdsB_mono HV.out B1.out) (by omega)).mono ?_
  rintro e w2 ⟨u2, rfl, ho2⟩
  have B2 := hide' (bt' B1.out ho2.2)
  have F2 := hide' (holdsB_own ho2)
  obtain ⟨fb, fc, rfl, hfc, hF⟩ := own_front ho2 (by decide)
  rw [ml] at hfc F2 ⊢
  have HF := hide' hF
  clear ho2 B1 hF
  go_wp2_with fail
  refine (cD.out _ _ HF.out (env_below EV.out B2.out) (er_below RV.out B2.out)).mono ?_
  rintro e w3 ⟨dv3, lv3, rfl, od3, of3⟩
  have B3 := hide' (bt' B2.out od3.2)
  have F3 := hide' (holdsB_mono F2.out od3.2)
  have D3 := hide' (holdsB_own od3)
  have P3 := hide' (holdsF_own of3)
  clear od3 of3 B2 F2 HF
  go_wp2_with fail
  refine (cR.out _ _ (holdsB_mono HV.out B3.out)).mono ?_
  rintro e w4 ⟨dv4, lv4, rfl, od4, of4⟩
  have B4 := hide' (bt' B3.out od4.2)
  have F4 := hide' (holdsB_mono F3.out od4.2)
  have D4 := hide' (holdsB_mono D3.out od4.2)
  have P4 := hide' (holdsF_mono P3.out od4.2)
  have X4 := hide' (holdsB_own od4)
  have Q4 := hide' (holdsF_own of4)
  clear od4 of4 B3 F3 P3 D3
  go_wp2_with fail
  refine (sameBe _ _ d _ D4.out X4.out (by omega)).mono ?_
  rintro e w5 ⟨rfl, b5⟩
  have B5 := hide' (bt' B4.out b5)
  have F5 := hide' (holdsB_mono F4.out b5)
  have P5 := hide' (holdsF_mono P4.out b5)
  have Q5 := hide' (holdsF_mono Q4.out b5)
  clear b5 B4 F4 P4 Q4 D4 X4
  go_wp2_with fail
  refine (sameFe _ _ fs _ P5.out Q5.out (by omega)).mono ?_
  rintro e w6 ⟨rfl, b6⟩
  have B6 := hide' (bt' B5.out b6)
  have F6 := hide' (holdsB_mono F5.out b6)
  clear b6 B5 F5 P5 Q5
  go_wp2_with fail
  refine (spareC _ bs _ (holdsB_mono HV.out B6.out) (by omega)).mono ?_
  rintro e w7 ⟨u7, rfl, ho7⟩
  have B7 := hide' (bt' B6.out ho7.2)
  have F7 := hide' (holdsB_mono F6.out ho7.2)
  have G7 := hide' (holdsB_own ho7)
  clear ho7 B6 F6
  go_wp2_with fail
  refine (sameBe _ _ (bs ++ mks) _ F7.out G7.out (by rw [List.length_append]; omega)).mono ?_
  rintro e w8 ⟨rfl, b8⟩
  have B8 := hide' (bt' B7.out b8)
  clear b8
  go_wp2_with fail
  go_ret
  exact ⟨rfl, B8.out⟩
end chunkDecodes
end Go.Proofs.YtobkmepamgdccaaGreatDoor
