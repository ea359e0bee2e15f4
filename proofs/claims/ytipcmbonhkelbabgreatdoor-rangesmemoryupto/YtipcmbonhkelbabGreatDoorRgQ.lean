/- The contract of the document's Parse of ranges. -/
import Derived.Test.YtipcmbonhkelbabGreatDoorXa
import Derived.Test.YtipcmbonhkelbabGreatDoorXk
import Derived.Deep.Cut
namespace Go.Proofs.YtipcmbonhkelbabGreatDoor
open Go.RowKit
/-- elements up to k: none is bad -/
def RgUp (els : List (List UInt8)) (k : Nat) : Prop := (els.take k).any rngBad = false
theorem rgUp_next {els : List (List UInt8)} {k : Nat} (h : RgUp els k) (hk : k < els.length) (hb : rngBad els[k] = false) : RgUp els (k + 1) := by
  unfold RgUp at *
  rw [List.take_succ_eq_append_getElem hk, List.any_append, h, List.any_cons, hb]
  rfl
theorem rgUp_bad {els : List (List UInt8)} {k : Nat} (hk : k < els.length) (hb : rngBad els[k] = true) : els.any rngBad = true := List.any_eq_true.2 ⟨_, List.getElem_mem hk, hb⟩
theorem rgL_next (z : Int) {els : List (List UInt8)} {k : Nat} (hk : k < els.length) : rngL z (els.take (k + 1)) = rngL z (els.take k) ++ (rngSp z els[k]).toList := by
  rw [List.take_succ_eq_append_getElem hk, rngL_snoc]
theorem bytes_size (l : List UInt8) : (⟨l.toArray⟩ : ByteArray).size = l.length := by show l.toArray.size = _; rw [List.size_toArray]
/-- what one element tells, by its parts -/
theorem rg_none (e : List UInt8) (h : dashK e = e.length) : rngBad e = true := by
  unfold rngBad
  rw [decide_eq_false (by omega)]
  rfl
theorem rg_tail (z : Int) (e : List UInt8) (h : dashK e = 0) (hl : 0 < e.length) : rngBad e = decide (numR (e.drop 1) < 0) ∧ rngSp z e = if 0 < min (numR (e.drop 1)) z then some (z - min (numR (e.drop 1)) z, z - 1) else none := by
  unfold rngBad rngSp rngB
  rw [h, if_pos rfl, if_pos rfl, decide_eq_true hl]
  exact ⟨by simp, rfl⟩
theorem rg_span (z : Int) (e : List UInt8) (k : Nat) (h : dashK e = k) (h0 : ¬ k = 0) (hl : k < e.length) : rngBad e = (decide (numR (e.take k) < 0) || (!(e.drop (k + 1)).isEmpty && decide (numR (e.drop (k + 1)) < numR (e.take k)))) ∧ rngSp z e = if numR (e.take k) < z then some (numR (e.take k), if numR (e.drop (k + 1)) < 0 ∨ z - 1 < numR (e.drop (k + 1)) then z - 1 else numR (e.drop (k + 1))) else none := by
  unfold rngBad rngSp rngA rngB
  rw [h, if_neg h0, if_neg h0, decide_eq_true hl]
  exact ⟨by simp, rfl⟩
theorem ext_toX (s : ByteArray) (k : Nat) : (s.extract 0 k).data.toList = s.data.toList.take k := by rw [extract_list]; simp
theorem ext_fromX (s : ByteArray) (k : Nat) : (s.extract k s.size).data.toList = s.data.toList.drop k := by
  rw [extract_list, List.take_of_length_le (by rw [List.length_drop]; simp)]
theorem numRGs (t : ByteArray) (w : World) (hl : t.size ≤ 140737488351232) :
    Calls Tryz.prog 49 #[.string t] w fun e w' => e = .returned (.int .i64 (numR t.data.toList)) ∧ w' = w := by
  have h := numRG t.data.toList w (by simpa using hl)
  rwa [ba_eta] at h
theorem isEmp (t : ByteArray) : (t.toList == []) = t.data.toList.isEmpty := by
  rw [Lib.toList_data]
  cases t.data.toList <;> rfl
theorem dash_eqX (x : ByteArray) (j : Nat) (h : ∀ c ∈ x.data.toList.take j, ¬ (c.toNat : Int) = 45) (hj : j ≤ x.size) (he : ∀ h : j < x.size, (x[j].toNat : Int) = 45) : dashK x.data.toList = j :=
  dash_eq _ j h (by simpa using hj) (fun h => he (by simpa using h))
theorem holdsX_slice {w : World} {v : Value} {ps : XL} (h : HoldsX w v ps) : ∃ a c, v = .slice a ps.length c := by
  obtain ⟨a, c, e, _⟩ := h
  exact ⟨a, c, e⟩
set_option maxRecDepth 20000 in
set_option maxHeartbeats 8000000 in
theorem parseRG (s : ByteArray) (z : Int) (w : World) (hs : s.size ≤ 4194304) (h0 : -9223372036854775808 ≤ z) (h1 : z ≤ 9223372036854775807) :
    Calls Tryz.prog 24 #[.string s, .int .i64 z] w fun e w' => ∃ r, e = .returned (.tuple #[r, .int .i64 (rngP s.data.toList z).1]) ∧ OwnX w r (rngP s.data.toList z).2 w' := by
  have hl : s.data.toList.length = s.size := by simp
  obtain ⟨q, eq⟩ : ∃ q, q = rngP s.data.toList z := ⟨_, rfl⟩
  rw [← eq]
  have EQ := hide' eq
  clear eq
  by_cases c1 : z < 0
  · have R := hide' (EQ.out.trans (rngP_short _ _ (.inl c1)))
    clear EQ hl
    go_enter Tryz.func24, Tryz.ntmps24
    go_wp2_with fail
    go_ret2
    rw [R.out]
    exact ⟨_, rfl, ownX_nil _ _ (Below.refl _ _)⟩
  by_cases c2 : s.size < 6
  · have R := hide' (EQ.out.trans (rngP_short _ _ (.inr (by omega))))
    clear EQ hl
    go_enter Tryz.func24, Tryz.ntmps24
    go_wp2_with fail
    go_ret2
    rw [R.out]
    exact ⟨_, rfl, ownX_nil _ _ (Below.refl _ _)⟩
  have XW := hide' (fun h => EQ.out.trans (rngP_word _ _ h))
  have XC := hide' (fun h => EQ.out.trans (rngP_count _ _ h))
  have XB := hide' (fun h => EQ.out.trans (rngP_bad _ _ h))
  have XG := hide' (fun h3 h4 h5 h6 => EQ.out.trans (rngP_good s.data.toList z (by omega) (by omega) h3 h4 h5 h6))
  clear EQ
  have cL := hide' (fun W => lowerRef (s.extract 0 6) W (by rw [ByteArray.size_extract]; omega))
  have cE := hide' (fun W => listRef (s.extract 6 s.size) W (by rw [ByteArray.size_extract]; omega))
  rw [ext_toX] at cL
  rw [ext_fromX] at cE
  have LM := hide' (fun e (he : e ∈ listOf (s.data.toList.drop 6)) => show e.length ≤ 4194304 from by
    have h := listOf_mem _ _ he
    rw [List.length_drop] at h
    omega)
  clear hl
  generalize lows (s.data.toList.take 6) = lw at cL XW XG
  generalize listOf (s.data.toList.drop 6) = els at cE XC XB XG LM
  obtain ⟨n, hn⟩ : ∃ n, n = els.length := ⟨_, rfl⟩
  have N := hide' hn.symm
  rw [N.out] at XC XG
  clear hn
  go_enter Tryz.func24, Tryz.ntmps24
  go_wp2_with fail
  refine (cL.out _).mono ?_
  rintro e w1 ⟨rfl, b1⟩
  have B1 := hide' b1
  obtain ⟨T, eT⟩ : ∃ T : ByteArray, T = ⟨lw.toArray⟩ := ⟨_, rfl⟩
  have TL : Hid (T.toList = lw) := by unfold Hid; rw [eT, Lib.toList_data]
  rw [← eT]
  clear eT b1 cL
  by_cases c3 : lw = bytB
  · have t1 : (T.toList == [98, 121, 116, 101, 115, 61]) = true := by rw [TL.out, c3]; decide
    replace XG := hide' (XG.out c3)
    clear XW TL c3
    go_wp2_with fail
    refine (cE.out _).mono ?_
    rintro e w2 ⟨u2, rfl, ho⟩
    have B2 := hide' (bt' B1.out ho.2)
    obtain ⟨ea, ec, ev, hc⟩ := holds_own ho
    have C := hide' hc
    rw [N.out] at ev
    subst ev
    clear ho hc cE B1 t1
    by_cases c4 : n = 0
    · have R := hide' (XC.out (.inl c4))
      subst c4
      clear XC XB XG C
      go_wp2_with fail
      go_ret2
      rw [R.out]
      exact ⟨_, rfl, ownX_nil _ _ B2.out⟩
    by_cases c5 : 8 < n
    · have R := hide' (XC.out (.inr c5))
      have t2 : ((n : Int) == 0) = false := by simpa using c4
      clear XC XB XG C
      go_wp2_with fail
      go_ret2
      rw [R.out]
      exact ⟨_, rfl, ownX_nil _ _ B2.out⟩
    replace XG := hide' (XG.out c4 (by omega))
    have t2 : ((n : Int) == 0) = false := by simpa using c4
    have hn8 : n ≤ 8 := by omega
    clear XC c4 c5
    have BB := hide' (below_alloc' w2 (.cells #[] 44))
    have OE := hide' (ownX_empty w2)
    go_wp2_with fail
    clear t2
    go_loopw [7, 8] (fun v i wr => ∃ k : Nat, k ≤ n ∧ i = .int .i64 k ∧ Hid (OwnX w2 v (rngL z (els.take k)) wr) ∧ Hid (RgUp els k)) (fun _ i _ => n - (intOf i).toNat)
    case atStart => exact ⟨0, Nat.zero_le _, rfl, OE, rfl⟩
    case round =>
      clear BB OE
      obtain ⟨k, hk, rfl, HO, HU⟩ := hrel
      have LEN : Hid ((rngL z (els.take k)).length ≤ 8) := by
        have h1 := rngL_len z (els.take k)
        rw [List.length_take, N.out] at h1
        unfold Hid
        omega
      by_cases hlt : k < n
      · have G : Hid (k < els.length) := by unfold Hid; rw [N.out]; exact hlt
        obtain ⟨b, off, hao, hblt, hcell⟩ := C.out (List.ne_nil_of_length_pos (by have := G.out; omega))
        subst hao
        have ce : wr.cell? ⟨b, off + k, none⟩ = some (S (els[k]'G.out)) := by rw [HO.out.2.cell (p := ⟨b, off + k, none⟩) hblt]; exact hcell k G.out
        have EB := hide' (fun h => rgUp_bad G.out h)
        have ES := hide' (fun h => rgUp_next HU.out G.out h)
        have EL := hide' (rgL_next z (els := els) G.out)
        have vz := LM.out _ (List.getElem_mem G.out)
        clear hcell HU
        generalize (els[k]'G.out) = v at ce EB ES EL vz
        obtain ⟨x, rfl⟩ : ∃ x : ByteArray, v = x.data.toList := ⟨⟨v.toArray⟩, by simp⟩
        have xs : x.size ≤ 4194304 := by simpa using vz
        unfold S at ce
        rw [ba_eta] at ce
        clear vz
        go_wp2_with fail
        go_loop [10] (fun i => ∃ j : Nat, j ≤ x.size ∧ i = .int .i64 j ∧ Hid (∀ c ∈ x.data.toList.take j, ¬ (c.toNat : Int) = 45)) (fun i => x.size - (intOf i).toNat)
        case atStart => exact ⟨0, Nat.zero_le _, rfl, by unfold Hid; intro c hc; rw [List.take_zero] at hc; cases hc⟩
        case round =>
          obtain ⟨j, hj, rfl, HJ⟩ := hrel
          by_cases hjt : j < x.size
          · have hb := byte_lt x[j]
            by_cases h45 : (x[j].toNat : Int) = 45
            · have b45 : ((x[j].toNat : Int) != 45) = false := by simp [h45]
              have D := hide' (dash_eqX x j HJ.out hj (fun _ => h45))
              have cA := hide' (fun W => numRGs (x.extract 0 j) W (by rw [ByteArray.size_extract]; omega))
              have cB := hide' (fun W => numRGs (x.extract (j + 1) x.size) W (by rw [ByteArray.size_extract]; omega))
              rw [ext_toX] at cA
              rw [ext_fromX] at cB
              have xl : x.data.toList.length = x.size := by simp
              have na := numR_low (x.data.toList.take j)
              have nb := numR_low (x.data.toList.drop (j + 1))
              have je : ((j : Int) == (x.size : Int)) = false := by rw [beq_eq_false_iff_ne]; omega
              by_cases j0 : j = 0
              · have Q := hide' (show rngBad x.data.toList = decide (numR (x.data.toList.drop (j + 1)) < 0) ∧ rngSp z x.data.toList = if 0 < min (numR (x.data.toList.drop (j + 1))) z then some (z - min (numR (x.data.toList.drop (j + 1))) z, z - 1) else none from by
                  have h := rg_tail z x.data.toList (by rw [D.out, j0]) (by omega)
                  rwa [show (1 : Nat) = j + 1 by omega] at h)
                have je0 : ((j : Int) == 0) = true := by rw [j0]; rfl
                have KA : Hid True := trivial
                have KB : Hid True := trivial
                clear D HJ h45 xl j0
                generalize numR (x.data.toList.take j) = ia at cA na
                generalize numR (x.data.toList.drop (j + 1)) = ib at cB nb Q
                by_cases q1 : ib < 0
                · skip
                  have R := hide' (XB.out (EB.out (by rw [Q.out.1, decide_eq_true q1])))
                  clear EB ES EL XB XG KA KB Q
                  go_wp2_with fail
                  refine (cA.out _).mono ?_
                  rintro e w9 ⟨rfl, rfl⟩
                  go_wp2_with fail
                  refine (cB.out _).mono ?_
                  rintro e w9 ⟨rfl, rfl⟩
                  clear cA cB
                  go_wp2_with fail
                  go_ret2
                  rw [R.out]
                  exact ⟨_, rfl, ownX_nil _ _ (bt' B2.out HO.out.2)⟩
                · skip
                  by_cases q2 : z < ib
                  · skip
                    by_cases q3 : 0 < z
                    · skip
                      have U := hide' (ES.out (by rw [Q.out.1, decide_eq_false (by omega)]))
                      have E := hide' (show rngL z (els.take (k + 1)) = rngL z (els.take k) ++ [(z - z, z - 1)] from by rw [EL.out, show rngSp z x.data.toList = some (z - z, z - 1) from by rw [Q.out.2, show min ib z = z by omega, if_pos q3]]; rfl)
                      clear EB ES EL XB XG KA KB Q
                      go_wp2_with fail
                      refine (cA.out _).mono ?_
                      rintro e w9 ⟨rfl, rfl⟩
                      go_wp2_with fail
                      refine (cB.out _).mono ?_
                      rintro e w9 ⟨rfl, rfl⟩
                      clear cA cB
                      go_wp2_with (at_builtin; refine appX rfl (.tmp 83) (.tmp 90) rfl w2 _ _ rfl HO.out (z - z, z - 1) (by first | rfl | go_num) (by first | rfl | go_num) rfl rfl (by have := LEN.out; omega) ?_; intro v9 w9 o9)
                      have O9 := hide' o9
                      clear o9
                      go_round
                      case rel => exact ⟨k + 1, by omega, by go_num, by unfold Hid; rw [E.out]; exact O9.out, U⟩
                      case measure => simp [intOf]; omega
                    · skip
                      have U := hide' (ES.out (by rw [Q.out.1, decide_eq_false (by omega)]))
                      have E := hide' (show rngL z (els.take (k + 1)) = rngL z (els.take k) from by rw [EL.out, show rngSp z x.data.toList = none from by rw [Q.out.2, show min ib z = z by omega, if_neg q3]]; simp)
                      clear EB ES EL XB XG KA KB Q
                      go_wp2_with fail
                      refine (cA.out _).mono ?_
                      rintro e w9 ⟨rfl, rfl⟩
                      go_wp2_with fail
                      refine (cB.out _).mono ?_
                      rintro e w9 ⟨rfl, rfl⟩
                      clear cA cB
                      go_wp2_with fail
                      go_round
                      case rel => exact ⟨k + 1, by omega, by go_num, by unfold Hid; rw [E.out]; exact HO.out, U⟩
                      case measure => simp [intOf]; omega
                  · skip
                    by_cases q3 : 0 < ib
                    · skip
                      have U := hide' (ES.out (by rw [Q.out.1, decide_eq_false (by omega)]))
                      have E := hide' (show rngL z (els.take (k + 1)) = rngL z (els.take k) ++ [(z - ib, z - 1)] from by rw [EL.out, show rngSp z x.data.toList = some (z - ib, z - 1) from by rw [Q.out.2, show min ib z = ib by omega, if_pos q3]]; rfl)
                      clear EB ES EL XB XG KA KB Q
                      go_wp2_with fail
                      refine (cA.out _).mono ?_
                      rintro e w9 ⟨rfl, rfl⟩
                      go_wp2_with fail
                      refine (cB.out _).mono ?_
                      rintro e w9 ⟨rfl, rfl⟩
                      clear cA cB
                      go_wp2_with (at_builtin; refine appX rfl (.tmp 83) (.tmp 90) rfl w2 _ _ rfl HO.out (z - ib, z - 1) (by first | rfl | go_num) (by first | rfl | go_num) rfl rfl (by have := LEN.out; omega) ?_; intro v9 w9 o9)
                      have O9 := hide' o9
                      clear o9
                      go_round
                      case rel => exact ⟨k + 1, by omega, by go_num, by unfold Hid; rw [E.out]; exact O9.out, U⟩
                      case measure => simp [intOf]; omega
                    · skip
                      have U := hide' (ES.out (by rw [Q.out.1, decide_eq_false (by omega)]))
                      have E := hide' (show rngL z (els.take (k + 1)) = rngL z (els.take k) from by rw [EL.out, show rngSp z x.data.toList = none from by rw [Q.out.2, show min ib z = ib by omega, if_neg q3]]; simp)
                      clear EB ES EL XB XG KA KB Q
                      go_wp2_with fail
                      refine (cA.out _).mono ?_
                      rintro e w9 ⟨rfl, rfl⟩
                      go_wp2_with fail
                      refine (cB.out _).mono ?_
                      rintro e w9 ⟨rfl, rfl⟩
                      clear cA cB
                      go_wp2_with fail
                      go_round
                      case rel => exact ⟨k + 1, by omega, by go_num, by unfold Hid; rw [E.out]; exact HO.out, U⟩
                      case measure => simp [intOf]; omega
              · have Q := hide' (rg_span z x.data.toList j D.out j0 (by omega))
                have je0 : ((j : Int) == 0) = false := by simpa using j0
                have KT := hide' (show (x.extract (j + 1) x.size).toList.isEmpty = (x.data.toList.drop (j + 1)).isEmpty from by rw [Lib.toList_data, ext_fromX])
                have KA : Hid True := trivial
                have KB := hide' (show (x.data.toList.drop (j + 1)).isEmpty = true → numR (x.data.toList.drop (j + 1)) = -1 from fun h => by rw [List.isEmpty_iff.1 h]; decide)
                clear D HJ h45 xl
                generalize numR (x.data.toList.take j) = ia at cA na Q
                generalize numR (x.data.toList.drop (j + 1)) = ib at cB nb Q KB
                generalize (x.data.toList.drop (j + 1)).isEmpty = em at Q KT KB
                by_cases q1 : ia < 0
                · skip
                  have R := hide' (XB.out (EB.out (by rw [Q.out.1, decide_eq_true q1]; rfl)))
                  clear EB ES EL XB XG KA KB Q
                  go_wp2_with fail
                  refine (cA.out _).mono ?_
                  rintro e w9 ⟨rfl, rfl⟩
                  go_wp2_with fail
                  refine (cB.out _).mono ?_
                  rintro e w9 ⟨rfl, rfl⟩
                  clear cA cB
                  go_wp2_with fail
                  go_ret2
                  rw [R.out]
                  exact ⟨_, rfl, ownX_nil _ _ (bt' B2.out HO.out.2)⟩
                · skip
                  cases qe : em
                  · subst qe
                    have te := KT.out
                    by_cases q2 : ib < ia
                    · skip
                      have R := hide' (XB.out (EB.out (by rw [Q.out.1, decide_eq_false q1, decide_eq_true q2]; rfl)))
                      clear EB ES EL XB XG KA KB Q
                      go_wp2_with fail
                      refine (cA.out _).mono ?_
                      rintro e w9 ⟨rfl, rfl⟩
                      go_wp2_with fail
                      refine (cB.out _).mono ?_
                      rintro e w9 ⟨rfl, rfl⟩
                      clear cA cB
                      go_wp2_with fail
                      go_ret2
                      rw [R.out]
                      exact ⟨_, rfl, ownX_nil _ _ (bt' B2.out HO.out.2)⟩
                    · skip
                      by_cases q3 : z - 1 < ib
                      · skip
                        by_cases q9 : ia < z
                        · skip
                          have U := hide' (ES.out (by rw [Q.out.1, decide_eq_false q1, decide_eq_false q2, Bool.and_false]; rfl))
                          have E := hide' (show rngL z (els.take (k + 1)) = rngL z (els.take k) ++ [(ia, z - 1)] from by rw [EL.out, show rngSp z x.data.toList = some (ia, z - 1) from by rw [Q.out.2, if_pos q9, if_pos (.inr q3)]]; rfl)
                          clear EB ES EL XB XG KA KB Q
                          go_wp2_with fail
                          refine (cA.out _).mono ?_
                          rintro e w9 ⟨rfl, rfl⟩
                          go_wp2_with fail
                          refine (cB.out _).mono ?_
                          rintro e w9 ⟨rfl, rfl⟩
                          clear cA cB
                          go_wp2_with (at_builtin; refine appX rfl (.tmp 119) (.tmp 123) rfl w2 _ _ rfl HO.out (ia, z - 1) (by first | rfl | go_num) (by first | rfl | go_num) rfl rfl (by have := LEN.out; omega) ?_; intro v9 w9 o9)
                          have O9 := hide' o9
                          clear o9
                          go_round
                          case rel => exact ⟨k + 1, by omega, by go_num, by unfold Hid; rw [E.out]; exact O9.out, U⟩
                          case measure => simp [intOf]; omega
                        · skip
                          have U := hide' (ES.out (by rw [Q.out.1, decide_eq_false q1, decide_eq_false q2, Bool.and_false]; rfl))
                          have E := hide' (show rngL z (els.take (k + 1)) = rngL z (els.take k) from by rw [EL.out, show rngSp z x.data.toList = none from by rw [Q.out.2, if_neg q9]]; simp)
                          clear EB ES EL XB XG KA KB Q
                          go_wp2_with fail
                          refine (cA.out _).mono ?_
                          rintro e w9 ⟨rfl, rfl⟩
                          go_wp2_with fail
                          refine (cB.out _).mono ?_
                          rintro e w9 ⟨rfl, rfl⟩
                          clear cA cB
                          go_wp2_with fail
                          go_round
                          case rel => exact ⟨k + 1, by omega, by go_num, by unfold Hid; rw [E.out]; exact HO.out, U⟩
                          case measure => simp [intOf]; omega
                      · skip
                        by_cases q9 : ia < z
                        · skip
                          have U := hide' (ES.out (by rw [Q.out.1, decide_eq_false q1, decide_eq_false q2, Bool.and_false]; rfl))
                          have E := hide' (show rngL z (els.take (k + 1)) = rngL z (els.take k) ++ [(ia, ib)] from by rw [EL.out, show rngSp z x.data.toList = some (ia, ib) from by rw [Q.out.2, if_pos q9, if_neg (by omega)]]; rfl)
                          clear EB ES EL XB XG KA KB Q
                          go_wp2_with fail
                          refine (cA.out _).mono ?_
                          rintro e w9 ⟨rfl, rfl⟩
                          go_wp2_with fail
                          refine (cB.out _).mono ?_
                          rintro e w9 ⟨rfl, rfl⟩
                          clear cA cB
                          go_wp2_with (at_builtin; refine appX rfl (.tmp 119) (.tmp 123) rfl w2 _ _ rfl HO.out (ia, ib) (by first | rfl | go_num) (by first | rfl | go_num) rfl rfl (by have := LEN.out; omega) ?_; intro v9 w9 o9)
                          have O9 := hide' o9
                          clear o9
                          go_round
                          case rel => exact ⟨k + 1, by omega, by go_num, by unfold Hid; rw [E.out]; exact O9.out, U⟩
                          case measure => simp [intOf]; omega
                        · skip
                          exfalso
                          omega
                  · subst qe
                    have te := KT.out
                    have q2 := KB.out rfl
                    by_cases q9 : ia < z
                    · skip
                      have U := hide' (ES.out (by rw [Q.out.1, decide_eq_false q1]; rfl))
                      have E := hide' (show rngL z (els.take (k + 1)) = rngL z (els.take k) ++ [(ia, z - 1)] from by rw [EL.out, show rngSp z x.data.toList = some (ia, z - 1) from by rw [Q.out.2, if_pos q9, if_pos (.inl (by omega))]]; rfl)
                      clear EB ES EL XB XG KA KB Q
                      go_wp2_with fail
                      refine (cA.out _).mono ?_
                      rintro e w9 ⟨rfl, rfl⟩
                      go_wp2_with fail
                      refine (cB.out _).mono ?_
                      rintro e w9 ⟨rfl, rfl⟩
                      clear cA cB
                      go_wp2_with (at_builtin; refine appX rfl (.tmp 119) (.tmp 123) rfl w2 _ _ rfl HO.out (ia, z - 1) (by first | rfl | go_num) (by first | rfl | go_num) rfl rfl (by have := LEN.out; omega) ?_; intro v9 w9 o9)
                      have O9 := hide' o9
                      clear o9
                      go_round
                      case rel => exact ⟨k + 1, by omega, by go_num, by unfold Hid; rw [E.out]; exact O9.out, U⟩
                      case measure => simp [intOf]; omega
                    · skip
                      have U := hide' (ES.out (by rw [Q.out.1, decide_eq_false q1]; rfl))
                      have E := hide' (show rngL z (els.take (k + 1)) = rngL z (els.take k) from by rw [EL.out, show rngSp z x.data.toList = none from by rw [Q.out.2, if_neg q9]]; simp)
                      clear EB ES EL XB XG KA KB Q
                      go_wp2_with fail
                      refine (cA.out _).mono ?_
                      rintro e w9 ⟨rfl, rfl⟩
                      go_wp2_with fail
                      refine (cB.out _).mono ?_
                      rintro e w9 ⟨rfl, rfl⟩
                      clear cA cB
                      go_wp2_with fail
                      go_round
                      case rel => exact ⟨k + 1, by omega, by go_num, by unfold Hid; rw [E.out]; exact HO.out, U⟩
                      case measure => simp [intOf]; omega
            · have b45 : ((x[j].toNat : Int) != 45) = true := by simpa using h45
              have J2 := hide' (show ∀ c ∈ x.data.toList.take (j + 1), ¬ (c.toNat : Int) = 45 from by
                intro c hc
                rw [take_snoc x j hjt] at hc
                rcases List.mem_append.1 hc with hc | hc
                · exact HJ.out c hc
                · obtain rfl := List.mem_singleton.1 hc; exact h45)
              clear h45 HJ
              go_wp2_with fail
              go_round
              case rel => exact ⟨j + 1, by omega, by go_num, J2⟩
              case measure => simp [intOf]; omega
          · have D := hide' (XB.out (EB.out (rg_none _ (by rw [dash_eqX x j HJ.out hj (fun h => absurd h hjt)]; simp; omega))))
            obtain rfl : j = x.size := by omega
            clear HJ EB ES EL
            go_wp2_with fail
            go_ret2
            rw [D.out]
            exact ⟨_, rfl, ownX_nil _ _ (bt' B2.out HO.out.2)⟩
      · have F : Hid (els.take k = els) := List.take_of_length_le (by rw [N.out]; omega)
        rw [F.out] at HO LEN
        have NB := hide' (XG.out (by have := HU.out; unfold RgUp at this; rw [F.out] at this; exact this))
        clear HU XB XG F
        obtain ⟨m, hm⟩ : ∃ m, m = (rngL z els).length := ⟨_, rfl⟩
        have M := hide' hm.symm
        obtain ⟨va, vc, ev⟩ := holdsX_slice (holdsX_own HO.out)
        rw [M.out] at ev
        rw [M.out] at LEN
        by_cases m0 : rngL z els = []
        · have R := hide' (NB.out.trans (if_pos m0))
          have e0 : m = 0 := by rw [hm, m0]; rfl
          subst e0
          have BX := hide' (bt' B2.out HO.out.2)
          clear hm
          subst ev
          go_wp2_with fail
          go_ret2
          rw [R.out]
          exact ⟨_, rfl, ownX_nil _ _ BX.out⟩
        · have R := hide' (NB.out.trans (if_neg m0))
          have mp : ((m : Int) == 0) = false := by
            rw [beq_eq_false_iff_ne]
            have := List.length_pos_iff.2 m0
            omega
          have m8 : m ≤ 8 := LEN.out
          clear hm m0 LEN
          subst ev
          go_wp2_with fail
          go_ret2
          rw [R.out]
          exact ⟨_, rfl, ownX_base HO.out B2.out⟩
  · have R := hide' (XW.out c3)
    have t1 : (T.toList == [98, 121, 116, 101, 115, 61]) = false := by
      rw [TL.out]
      exact beq_eq_false_iff_ne.2 c3
    clear XW XC XB XG TL c3
    go_wp2_with fail
    go_ret2
    rw [R.out]
    exact ⟨_, rfl, ownX_nil _ _ B1.out⟩
end Go.Proofs.YtipcmbonhkelbabGreatDoor
