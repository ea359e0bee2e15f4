/- The contract of the document's decoded. -/
import Derived.Test.YtaijnphodjdedaaDoorUaC
import Derived.Test.YtaijnphodjdedaaDoorUrX
import Derived.Test.YtaijnphodjdedaaDoorUrL
namespace Go.Proofs.YtaijnphodjdedaaDoor
open Go.RowKit
theorem idx_hx8 (h : Int) (h0 : 0 ≤ h) (h1 : h < 16) : ∀ W, Sem.run Tryd.prog (Instr.index 9 (.string ⟨#[48, 49, 50, 51, 52, 53, 54, 55, 56, 57, 65, 66, 67, 68, 69, 70]⟩) (.int .u8 h)) W = .ok (.int .u8 ((ofI (hxI h)).toNat : Int)) W := by
  obtain ⟨n, rfl⟩ : ∃ n : Nat, h = n := ⟨h.toNat, by omega⟩
  intro W
  rw [run_index_string _ _ _ _ _ Tryd.underlying9, dif_pos ⟨by omega, by show (n : Int) < 16; omega⟩]
  exact congrArg (fun x => Result.ok (Value.int IntKind.u8 x) W) (hx_get ⟨n, by omega⟩)
set_option maxRecDepth 20000 in
set_option maxHeartbeats 4000000 in
theorem decodedRef (s : ByteArray) (hs : s.size ≤ 4096) (w : World) :
    Calls Tryd.prog 24 #[.string s] w fun e w' => e = .returned (recV (recode s.data.toList)) ∧ Below w.heap.size w w' := by
  go_enter Tryd.func24, Tryd.ntmps24
  go_wp2_with fail
  go_loopw [4, 5] (fun v i wr => ∃ (k : Nat) (out : List UInt8), k ≤ s.size ∧ i = .int .i64 k ∧ Own w v out wr ∧ Hid (recode s.data.toList = (recode (s.data.toList.drop k)).map (out ++ ·)) ∧ out.length ≤ k) (fun _ i _ => s.size - (intOf i).toNat)
  case atStart => exact ⟨0, [], Nat.zero_le _, rfl, own_empty w, by unfold Hid; rw [List.drop_zero]; cases recode s.data.toList <;> simp, Nat.le_refl _⟩
  case round =>
    obtain ⟨k, out, hk, rfl, hown, H, hl⟩ := hrel
    by_cases hlt : k < s.size
    · have hb := byte_lt s[k]
      have D := drop_cons s k hlt
      by_cases hc : (s[k].toNat : Int) = 37
      · have e37 : s[k] = 37 := UInt8.toNat_inj.1 (by have : (37 : UInt8).toNat = 37 := rfl; omega)
        have q1 : ((s[k].toNat : Int) != 37) = false := by simpa using hc
        rw [e37] at D
        clear hc e37
        by_cases h3 : s.size - k < 3
        · have R : Hid (recode s.data.toList = none) := rec_none H.out (by rw [D]; exact recode_short _ (by rw [List.length_drop, len_list]; omega))
          have h3' : (s.size : Int) ≤ (k : Int) + 2 := by omega
          clear H D
          go_wp2_with fail
          go_ret2
          rw [R.out]
          exact ⟨rfl, hown.2⟩
        · have h3' : (k : Int) + 2 < (s.size : Int) := by omega
          have k1 : k + 1 < s.size := by omega
          have k2 : k + 2 < s.size := by omega
          have D1 := drop_cons s (k + 1) k1
          have D2 := drop_cons s (k + 2) k2
          rw [D1, D2] at D
          have b1 := byte_lt s[k + 1]
          have b2 := byte_lt s[k + 2]
          have x1 := idx_at s ((k : Int) + 1) (k + 1) (by omega) k1
          have x2 := idx_at s ((k : Int) + 2) (k + 2) (by omega) k2
          have m1 : IntKind.i64.wrap ((k : Int) + 1) = (k : Int) + 1 := by rw [IntKind.wrap_i64]; omega
          have m2 : IntKind.i64.wrap ((k : Int) + 2) = (k : Int) + 2 := by rw [IntKind.wrap_i64]; omega
          have la : hexI (s[k + 1].toNat : Int) < 16 := hex_lt _
          have lb : hexI (s[k + 2].toNat : Int) < 16 := hex_lt _
          by_cases hbad : hexB s[k + 1] < 0 ∨ hexB s[k + 2] < 0
          · have R : Hid (recode s.data.toList = none) := rec_none H.out (by rw [D]; exact recode_bad _ _ _ hbad)
            have hbad' : hexI (s[k + 1].toNat : Int) < 0 ∨ (0 ≤ hexI (s[k + 1].toNat : Int) ∧ hexI (s[k + 2].toNat : Int) < 0) := by unfold hexB at hbad; omega
            have cA := hide (fun w => hexRef (s[k + 1].toNat : Int) b1.1 b1.2 w)
            have cB := hide (fun w => hexRef (s[k + 2].toNat : Int) b2.1 b2.2 w)
            clear hbad D D1 D2 H x1 x2 m1 m2
            rcases hbad' with hx | ⟨hx, hy⟩
            · go_wp2_with fail
              refine (cA.out _).mono ?_
              rintro e w9 ⟨rfl, rfl⟩
              go_wp2_with fail
              go_ret2
              rw [R.out]
              exact ⟨rfl, hown.2⟩
            · go_wp2_with fail
              refine (cA.out _).mono ?_
              rintro e w9 ⟨rfl, rfl⟩
              go_wp2_with fail
              refine (cB.out _).mono ?_
              rintro e w9 ⟨rfl, rfl⟩
              go_wp2_with fail
              go_ret2
              rw [R.out]
              exact ⟨rfl, hown.2⟩
          · have E := hide (rec_step H.out (by rw [D]; exact recode_code _ _ _ (by omega) (by omega)))
            have a0 : 0 ≤ hexI (s[k + 1].toNat : Int) := by unfold hexB at hbad; omega
            have b0 : 0 ≤ hexI (s[k + 2].toNat : Int) := by unfold hexB at hbad; omega
            have F := hide (show code s[k + 1] s[k + 2] = if plainI (16 * hexI (s[k + 1].toNat : Int) + hexI (s[k + 2].toNat : Int)) then [ofI (16 * hexI (s[k + 1].toNat : Int) + hexI (s[k + 2].toNat : Int))] else [37, ofI (hxI (hexI (s[k + 1].toNat : Int))), ofI (hxI (hexI (s[k + 2].toNat : Int)))] from rfl)
            have cA := hide (fun w => hexRef (s[k + 1].toNat : Int) b1.1 b1.2 w)
            have cB := hide (fun w => hexRef (s[k + 2].toNat : Int) b2.1 b2.2 w)
            generalize code s[k + 1] s[k + 2] = cd at E F
            have m3 : IntKind.i64.wrap (16 * hexI (s[k + 1].toNat : Int)) = 16 * hexI (s[k + 1].toNat : Int) := by rw [IntKind.wrap_i64]; omega
            have m4 : IntKind.i64.wrap (16 * hexI (s[k + 1].toNat : Int) + hexI (s[k + 2].toNat : Int)) = 16 * hexI (s[k + 1].toNat : Int) + hexI (s[k + 2].toNat : Int) := by rw [IntKind.wrap_i64]; omega
            have m5 : IntKind.u8.wrap (16 * hexI (s[k + 1].toNat : Int) + hexI (s[k + 2].toNat : Int)) = 16 * hexI (s[k + 1].toNat : Int) + hexI (s[k + 2].toNat : Int) := by rw [IntKind.wrap_u8]; omega
            have cP := alnumRef (16 * hexI (s[k + 1].toNat : Int) + hexI (s[k + 2].toNat : Int)) (by omega) (by omega)
            clear hbad D D1 D2 H
            rcases plain_cases (16 * hexI (s[k + 1].toNat : Int) + hexI (s[k + 2].toNat : Int)) with ⟨hp, ha | ⟨ha, h2⟩ | ⟨ha, h2, h3⟩ | ⟨ha, h2, h3, h4⟩ | ⟨ha, h2, h3, h4, h5⟩⟩ | ⟨hp, ha, h2, h3, h4, h5⟩
            · generalize (s[k + 1].toNat : Int) = ca at la a0 F x1 b1 cA m3 m4 m5 cP hp ha
              generalize (s[k + 2].toNat : Int) = cb at lb b0 F x2 b2 cB m4 m5 cP hp ha
              simp only [ha] at cP
              replace cP := hide cP
              clear ha
              rw [hp, if_pos rfl] at F
              clear hp
              go_wp2_with fail
              refine (cA.out _).mono ?_
              rintro e w9 ⟨rfl, rfl⟩
              go_wp2_with fail
              refine (cB.out _).mono ?_
              rintro e w9 ⟨rfl, rfl⟩
              go_wp2_with fail
              go_quiet (first | (go_at_call 35; exact Calls.quiet_of_same (hexRef _ (by omega) (by omega) _)))
              go_wp2_with fail
              refine (cP.out _).mono ?_
              rintro e w9 ⟨rfl, rfl⟩
              have hown1 := own_drawn hown nq
              go_wp2_with (at_builtin; refine app1 rfl (.tmp 77) (.tmp 79) rfl w _ _ rfl hown1 (ofI (16 * hexI ca + hexI cb)) (by rw [ofI_toNat _ (by omega) (by omega)]) rfl (by omega) ?_; intro v2 w2 hown2)
              go_roundw
              case rel => exact ⟨k + 3, out ++ cd, by omega, by go_num, by rw [F.out]; exact hown2, E, by rw [F.out]; simp; omega⟩
              case measure => simp [intOf]; omega
            · generalize (s[k + 1].toNat : Int) = ca at la a0 F x1 b1 cA m3 m4 m5 cP hp ha h2
              generalize (s[k + 2].toNat : Int) = cb at lb b0 F x2 b2 cB m4 m5 cP hp ha h2
              simp only [ha] at cP
              replace cP := hide cP
              have t2 : ((16 * hexI ca + hexI cb) == 45) = true := by simpa using h2
              clear ha h2
              rw [hp, if_pos rfl] at F
              clear hp
              go_wp2_with fail
              refine (cA.out _).mono ?_
              rintro e w9 ⟨rfl, rfl⟩
              go_wp2_with fail
              refine (cB.out _).mono ?_
              rintro e w9 ⟨rfl, rfl⟩
              go_wp2_with fail
              go_quiet (first | (go_at_call 35; exact Calls.quiet_of_same (hexRef _ (by omega) (by omega) _)))
              go_wp2_with fail
              refine (cP.out _).mono ?_
              rintro e w9 ⟨rfl, rfl⟩
              have hown1 := own_drawn hown nq
              go_wp2_with (at_builtin; refine app1 rfl (.tmp 77) (.tmp 79) rfl w _ _ rfl hown1 (ofI (16 * hexI ca + hexI cb)) (by rw [ofI_toNat _ (by omega) (by omega)]) rfl (by omega) ?_; intro v2 w2 hown2)
              go_roundw
              case rel => exact ⟨k + 3, out ++ cd, by omega, by go_num, by rw [F.out]; exact hown2, E, by rw [F.out]; simp; omega⟩
              case measure => simp [intOf]; omega
            · generalize (s[k + 1].toNat : Int) = ca at la a0 F x1 b1 cA m3 m4 m5 cP hp ha h2 h3
              generalize (s[k + 2].toNat : Int) = cb at lb b0 F x2 b2 cB m4 m5 cP hp ha h2 h3
              simp only [ha] at cP
              replace cP := hide cP
              have t2 : ((16 * hexI ca + hexI cb) == 45) = false := by simpa using h2
              have t3 : ((16 * hexI ca + hexI cb) == 46) = true := by simpa using h3
              clear ha h2 h3
              rw [hp, if_pos rfl] at F
              clear hp
              go_wp2_with fail
              refine (cA.out _).mono ?_
              rintro e w9 ⟨rfl, rfl⟩
              go_wp2_with fail
              refine (cB.out _).mono ?_
              rintro e w9 ⟨rfl, rfl⟩
              go_wp2_with fail
              go_quiet (first | (go_at_call 35; exact Calls.quiet_of_same (hexRef _ (by omega) (by omega) _)))
              go_wp2_with fail
              refine (cP.out _).mono ?_
              rintro e w9 ⟨rfl, rfl⟩
              have hown1 := own_drawn hown nq
              go_wp2_with (at_builtin; refine app1 rfl (.tmp 77) (.tmp 79) rfl w _ _ rfl hown1 (ofI (16 * hexI ca + hexI cb)) (by rw [ofI_toNat _ (by omega) (by omega)]) rfl (by omega) ?_; intro v2 w2 hown2)
              go_roundw
              case rel => exact ⟨k + 3, out ++ cd, by omega, by go_num, by rw [F.out]; exact hown2, E, by rw [F.out]; simp; omega⟩
              case measure => simp [intOf]; omega
            · generalize (s[k + 1].toNat : Int) = ca at la a0 F x1 b1 cA m3 m4 m5 cP hp ha h2 h3 h4
              generalize (s[k + 2].toNat : Int) = cb at lb b0 F x2 b2 cB m4 m5 cP hp ha h2 h3 h4
              simp only [ha] at cP
              replace cP := hide cP
              have t2 : ((16 * hexI ca + hexI cb) == 45) = false := by simpa using h2
              have t3 : ((16 * hexI ca + hexI cb) == 46) = false := by simpa using h3
              have t4 : ((16 * hexI ca + hexI cb) == 95) = true := by simpa using h4
              clear ha h2 h3 h4
              rw [hp, if_pos rfl] at F
              clear hp
              go_wp2_with fail
              refine (cA.out _).mono ?_
              rintro e w9 ⟨rfl, rfl⟩
              go_wp2_with fail
              refine (cB.out _).mono ?_
              rintro e w9 ⟨rfl, rfl⟩
              go_wp2_with fail
              go_quiet (first | (go_at_call 35; exact Calls.quiet_of_same (hexRef _ (by omega) (by omega) _)))
              go_wp2_with fail
              refine (cP.out _).mono ?_
              rintro e w9 ⟨rfl, rfl⟩
              have hown1 := own_drawn hown nq
              go_wp2_with (at_builtin; refine app1 rfl (.tmp 77) (.tmp 79) rfl w _ _ rfl hown1 (ofI (16 * hexI ca + hexI cb)) (by rw [ofI_toNat _ (by omega) (by omega)]) rfl (by omega) ?_; intro v2 w2 hown2)
              go_roundw
              case rel => exact ⟨k + 3, out ++ cd, by omega, by go_num, by rw [F.out]; exact hown2, E, by rw [F.out]; simp; omega⟩
              case measure => simp [intOf]; omega
            · generalize (s[k + 1].toNat : Int) = ca at la a0 F x1 b1 cA m3 m4 m5 cP hp ha h2 h3 h4 h5
              generalize (s[k + 2].toNat : Int) = cb at lb b0 F x2 b2 cB m4 m5 cP hp ha h2 h3 h4 h5
              simp only [ha] at cP
              replace cP := hide cP
              have t2 : ((16 * hexI ca + hexI cb) == 45) = false := by simpa using h2
              have t3 : ((16 * hexI ca + hexI cb) == 46) = false := by simpa using h3
              have t4 : ((16 * hexI ca + hexI cb) == 95) = false := by simpa using h4
              have t5 : ((16 * hexI ca + hexI cb) == 126) = true := by simpa using h5
              clear ha h2 h3 h4 h5
              rw [hp, if_pos rfl] at F
              clear hp
              go_wp2_with fail
              refine (cA.out _).mono ?_
              rintro e w9 ⟨rfl, rfl⟩
              go_wp2_with fail
              refine (cB.out _).mono ?_
              rintro e w9 ⟨rfl, rfl⟩
              go_wp2_with fail
              go_quiet (first | (go_at_call 35; exact Calls.quiet_of_same (hexRef _ (by omega) (by omega) _)))
              go_wp2_with fail
              refine (cP.out _).mono ?_
              rintro e w9 ⟨rfl, rfl⟩
              have hown1 := own_drawn hown nq
              go_wp2_with (at_builtin; refine app1 rfl (.tmp 77) (.tmp 79) rfl w _ _ rfl hown1 (ofI (16 * hexI ca + hexI cb)) (by rw [ofI_toNat _ (by omega) (by omega)]) rfl (by omega) ?_; intro v2 w2 hown2)
              go_roundw
              case rel => exact ⟨k + 3, out ++ cd, by omega, by go_num, by rw [F.out]; exact hown2, E, by rw [F.out]; simp; omega⟩
              case measure => simp [intOf]; omega
            · generalize (s[k + 1].toNat : Int) = ca at la a0 F x1 b1 cA m3 m4 m5 cP hp ha h2 h3 h4 h5
              generalize (s[k + 2].toNat : Int) = cb at lb b0 F x2 b2 cB m4 m5 cP hp ha h2 h3 h4 h5
              simp only [ha] at cP
              replace cP := hide cP
              have t2 : ((16 * hexI ca + hexI cb) == 45) = false := by simpa using h2
              have t3 : ((16 * hexI ca + hexI cb) == 46) = false := by simpa using h3
              have t4 : ((16 * hexI ca + hexI cb) == 95) = false := by simpa using h4
              have t5 : ((16 * hexI ca + hexI cb) == 126) = false := by simpa using h5
              clear ha h2 h3 h4 h5
              rw [hp, if_neg (by simp)] at F
              clear hp
              go_wp2_with fail
              refine (cA.out _).mono ?_
              rintro e w9 ⟨rfl, rfl⟩
              go_wp2_with fail
              refine (cB.out _).mono ?_
              rintro e w9 ⟨rfl, rfl⟩
              go_wp2_with fail
              go_quiet (first | (go_at_call 35; exact Calls.quiet_of_same (hexRef _ (by omega) (by omega) _)))
              go_wp2_with fail
              refine (cP.out _).mono ?_
              rintro e w9 ⟨rfl, rfl⟩
              have hown1 := own_drawn hown nq
              have n1 : (16 * hexI ca + hexI cb).tmod 16 = hexI cb := by rw [Int.tmod_eq_emod_of_nonneg (by omega)]; omega
              have n2 : IntKind.u8.wrap (hexI cb) = hexI cb := by rw [IntKind.wrap_u8]; omega
              have n3 : (16 * hexI ca + hexI cb) % 16 = hexI cb := by omega
              have n4 : (16 * hexI ca + hexI cb).tdiv 16 = hexI ca := by rw [Int.tdiv_eq_ediv_of_nonneg (by omega)]; omega
              have n5 : IntKind.u8.wrap (hexI ca) = hexI ca := by rw [IntKind.wrap_u8]; omega
              have n6 : (16 * hexI ca + hexI cb) / 16 = hexI ca := by omega
              have n7 : 0 ≤ 16 * hexI ca + hexI cb := by omega
              have y1 := idx_hx8 (hexI ca) a0 la
              have y2 := idx_hx8 (hexI cb) b0 lb
              generalize 16 * hexI ca + hexI cb = v at n1 n3 n4 n6 n7 t2 t3 t4 t5 ⊢
              clear m4 m5 m3 cP
              go_wp2_with fail
              go_region_held_law (fun _ => True) (trivial)
                ((refine step_app3 (by rfl) _ _ (by rfl) w _ _ (by rfl) (by first | exact own_drew (own_alloc hown1 _) | exact own_alloc (own_drew hown1) _) 37 (ofI (hxI (hexI ca))) (ofI (hxI (hexI cb))) _ (by rfl) (news3 _ _ _ _ _ (by simp)) (by omega) ?_; intro v2 w2 hown2))
              all_goals
                go_wp2_with fail
                go_roundw
                case rel => exact ⟨k + 3, out ++ cd, by omega, by go_num, by rw [F.out]; exact hown2, E, by rw [F.out]; simp; omega⟩
                case measure => simp [intOf]; omega
      · have q1 : ((s[k].toNat : Int) != 37) = true := by simpa using hc
        have n37 : s[k] ≠ 37 := by
          intro e
          apply hc
          rw [e]; rfl
        have E := hide (rec_step (x := [s[k]]) (D' := s.data.toList.drop (k + 1)) H.out (by rw [D]; exact recode_plain _ _ n37))
        clear hc n37 D H
        go_wp2_with (at_builtin; refine app1 rfl (.tmp 19) (.tmp 23) rfl w _ _ rfl hown s[k] rfl rfl (by omega) ?_; intro v2 w2 hown2)
        go_roundw
        case rel => exact ⟨k + 1, out ++ [s[k]], by omega, by go_num, hown2, E, by simp; omega⟩
        case measure => simp [intOf]; omega
    · have R : Hid (recode s.data.toList = some out) := by
        unfold Hid
        rw [H.out, List.drop_of_length_le (by rw [len_list]; omega)]
        simp [recode]
      have hcv := own_conv hown
      clear H
      go_wp2_with fail
      go_ret2
      rw [R.out]
      exact ⟨rfl, hown.2⟩
end Go.Proofs.YtaijnphodjdedaaDoor
