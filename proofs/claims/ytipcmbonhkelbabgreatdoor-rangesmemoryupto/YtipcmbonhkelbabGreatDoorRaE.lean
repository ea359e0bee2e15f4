/- The contracts of elementsOf and Parse (ranges). -/
import Derived.Test.YtipcmbonhkelbabGreatDoorXl
import Derived.Test.YtipcmbonhkelbabGreatDoorRgQ
import Derived.Test.YtipcmbonhkelbabGreatDoorBk
import Derived.Test.YtipcmbonhkelbabGreatDoorBl
namespace Go.Proofs.YtipcmbonhkelbabGreatDoor
open Go.RowKit
/-- the elements behind the unit -/
def elmO (l : List UInt8) : List (List UInt8) := if l.length < 6 ∨ ¬ lows (l.take 6) = bytB then [] else listOf (l.drop 6)
theorem elm_short {l : List UInt8} (h : l.length < 6) : elmO l = [] := if_pos (.inl h)
theorem elm_word {l : List UInt8} (h : ¬ lows (l.take 6) = bytB) : elmO l = [] := if_pos (.inr h)
theorem elm_list {l : List UInt8} (h1 : ¬ l.length < 6) (h2 : lows (l.take 6) = bytB) : elmO l = listOf (l.drop 6) := if_neg (by rintro (h | h); exact h1 h; exact h h2)
theorem elm_mem (l : List UInt8) : ∀ e ∈ elmO l, e.length ≤ l.length := by
  unfold elmO
  split
  · intro e he; cases he
  · intro e he
    have h := listOf_mem _ _ he
    rw [List.length_drop] at h
    omega
theorem rngP_elm (l : List UInt8) (z : Int) : rngP l z = if z < 0 ∨ (elmO l).length = 0 ∨ 8 < (elmO l).length then (190, []) else if (elmO l).any rngBad = true then (190, []) else if rngL z (elmO l) = [] then (191, []) else (0, rngL z (elmO l)) := by
  unfold rngP elmO
  by_cases h : l.length < 6 ∨ ¬ lows (l.take 6) = bytB
  · rw [if_pos h, if_pos (.inr h), if_pos (.inr (.inl rfl))]
  · rw [if_neg h]
    by_cases hz : z < 0
    · rw [if_pos (.inl hz), if_pos (.inl hz)]
    · rw [if_neg (by rintro (h1 | h1); exact hz h1; exact h h1)]
      by_cases hc : (listOf (l.drop 6)).length = 0 ∨ 8 < (listOf (l.drop 6)).length
      · rw [if_pos hc, if_pos (.inr hc)]
      · rw [if_neg hc, if_neg (show ¬ (z < 0 ∨ (listOf (l.drop 6)).length = 0 ∨ 8 < (listOf (l.drop 6)).length) from by rintro (h1 | h1); exact hz h1; exact hc h1)]
set_option maxRecDepth 20000 in
set_option maxHeartbeats 4000000 in
theorem elementsG (s : ByteArray) (w : World) (hs : s.size ≤ 4194304) :
    Calls Tryz.prog 32 #[.string s] w fun e w' => ∃ v, e = .returned v ∧ OwnS w v (elmO s.data.toList) w' := by
  have hl : s.data.toList.length = s.size := by simp
  by_cases c2 : s.size < 6
  · have R := hide' (elm_short (l := s.data.toList) (by omega))
    clear hl
    go_enter Tryz.func32, Tryz.ntmps32
    go_wp2_with fail
    go_ret
    rw [R.out]
    exact ⟨_, rfl, ownS_nil _ _ (Below.refl _ _)⟩
  have XW := hide' (fun h => elm_word (l := s.data.toList) h)
  have XG := hide' (fun h => elm_list (l := s.data.toList) (by omega) h)
  have cL := hide' (fun W => foldTok (s.extract 0 6) W (by rw [ByteArray.size_extract]; omega))
  have cE := hide' (fun W => listTok (s.extract 6 s.size) W (by rw [ByteArray.size_extract]; omega))
  rw [ext_toX] at cL
  rw [ext_fromX] at cE
  clear hl
  generalize lows (s.data.toList.take 6) = lw at cL XW XG
  generalize elmO s.data.toList = els at XW XG ⊢
  generalize listOf (s.data.toList.drop 6) = es at cE XG
  go_enter Tryz.func32, Tryz.ntmps32
  go_wp2_with fail
  refine (cL.out _).mono ?_
  rintro e w1 ⟨rfl, b1⟩
  have B1 := hide' b1
  obtain ⟨T, eT⟩ : ∃ T : ByteArray, T = ⟨lw.toArray⟩ := ⟨_, rfl⟩
  have TL : Hid (T.toList = lw) := by unfold Hid; rw [eT, Lib.toList_data]
  rw [← eT]
  clear eT b1 cL
  by_cases c3 : lw = bytB
  · have t1 : (T.toList == [98, 121, 116, 101, 115, 61]) = true := by rw [TL.out, c3]; decide
    have R := hide' (XG.out c3)
    clear XW XG TL c3
    go_wp2_with fail
    refine (cE.out _).mono ?_
    rintro e w2 ⟨u2, rfl, ho⟩
    have HO := hide' (ownS_base ho B1.out)
    clear ho cE B1 t1
    go_wp2_with fail
    go_ret
    rw [R.out]
    exact ⟨_, rfl, HO.out⟩
  · have t1 : (T.toList == [98, 121, 116, 101, 115, 61]) = false := by
      rw [TL.out]
      exact beq_eq_false_iff_ne.2 c3
    have R := hide' (XW.out c3)
    clear XW XG TL c3 cE
    go_wp2_with fail
    go_ret
    rw [R.out]
    exact ⟨_, rfl, ownS_nil _ _ B1.out⟩
set_option maxRecDepth 20000 in
set_option maxHeartbeats 4000000 in
theorem parseG (s : ByteArray) (z : Int) (w : World) (hs : s.size ≤ 4194304) (h0 : -9223372036854775808 ≤ z) (h1 : z ≤ 9223372036854775807) (M : MaxVD w) :
    Calls Tryz.prog 13 #[.string s, .int .i64 z] w fun e w' => ∃ r, e = .returned (.tuple #[r, .int .i64 (rngP s.data.toList z).1]) ∧ OwnX w r (rngP s.data.toList z).2 w' := by
  have hl : s.data.toList.length = s.size := by simp
  obtain ⟨q, eq⟩ : ∃ q, q = rngP s.data.toList z := ⟨_, rfl⟩
  rw [← eq]
  rw [rngP_elm] at eq
  have EQ := hide' eq
  clear eq
  have cE := hide' (fun W => elementsG s W hs)
  have LM := hide' (fun e (he : e ∈ elmO s.data.toList) => show e.length ≤ 4194304 from by have := elm_mem _ e he; omega)
  have MV := hide' M
  clear hl M
  generalize elmO s.data.toList = els at EQ cE LM
  obtain ⟨n, hn⟩ : ∃ n, n = els.length := ⟨_, rfl⟩
  have N := hide' hn.symm
  rw [N.out] at EQ
  clear hn
  go_enter Tryz.func13, Tryz.ntmps13
  go_wp2_with fail
  refine (cE.out _).mono ?_
  rintro e w2 ⟨u2, rfl, ho⟩
  have B2 := hide' ho.2
  obtain ⟨ea, ec, ev, hc⟩ := holds_own ho
  have C := hide' hc
  rw [N.out] at ev
  subst ev
  clear ho hc cE
  by_cases c1 : z < 0
  · have R := hide' (EQ.out.trans (if_pos (.inl c1)))
    clear EQ C
    go_wp2_with fail
    go_ret2
    rw [R.out]
    exact ⟨_, rfl, ownX_nil _ _ B2.out⟩
  by_cases c4 : n = 0
  · have R := hide' (EQ.out.trans (if_pos (.inr (.inl c4))))
    subst c4
    clear EQ C
    go_wp2_with fail
    go_ret2
    rw [R.out]
    exact ⟨_, rfl, ownX_nil _ _ B2.out⟩
  by_cases c5 : 8 < n
  · have R := hide' (EQ.out.trans (if_pos (.inr (.inr c5))))
    have t2 : ((n : Int) == 0) = false := by simpa using c4
    clear EQ C
    go_wp2_with fail
    go_ret2
    rw [R.out]
    exact ⟨_, rfl, ownX_nil _ _ B2.out⟩
  have XX := hide' (EQ.out.trans (if_neg (by rintro (h | h | h); exact c1 h; exact c4 h; exact c5 h)))
  have XB := hide' (fun h => XX.out.trans (if_pos h))
  have XG := hide' (fun (h : els.any rngBad = false) => XX.out.trans (if_neg (by rw [h]; decide)))
  have t2 : ((n : Int) == 0) = false := by simpa using c4
  have hn8 : n ≤ 8 := by omega
  clear EQ XX c4 c5
  have OE := hide' (ownX_nil w2 w2 (Below.refl _ _))
  go_wp2_with fail
  clear t2
  go_loopw [7, 28] (fun v i wr => ∃ k : Nat, k ≤ n ∧ i = .int .i64 k ∧ Hid (OwnX w2 v (rngL z (els.take k)) wr) ∧ Hid (RgUp els k)) (fun _ i _ => n - (intOf i).toNat)
  case atStart => exact ⟨0, Nat.zero_le _, rfl, OE, rfl⟩
  case round =>
    clear OE
    obtain ⟨k, hk, rfl, HO, HU⟩ := hrel
    have LEN : Hid ((rngL z (els.take k)).length ≤ 8) := by
      have h1 := rngL_len z (els.take k)
      rw [List.length_take, N.out] at h1
      unfold Hid
      omega
    by_cases hlt : k < n
    · have G : Hid (k < els.length) := by unfold Hid; rw [N.out]; exact hlt
      obtain ⟨b, off, hao, hblt, hcell⟩ := C.out (List.ne_nil_of_length_pos (by have := G.out; omega))
      subst hao
      have ce : wr.cell? ⟨b, off + k, none⟩ = some (S (els[k]'G.out)) := by rw [HO.out.2.cell (p := ⟨b, off + k, none⟩) hblt]; exact hcell k G.out
      have EB := hide' (fun h => rgUp_bad G.out h)
      have ES := hide' (fun h => rgUp_next HU.out G.out h)
      have EL := hide' (rgL_next z (els := els) G.out)
      have vz := LM.out _ (List.getElem_mem G.out)
      clear hcell HU
      generalize (els[k]'G.out) = v at ce EB ES EL vz
      obtain ⟨x, rfl⟩ : ∃ x : ByteArray, v = x.data.toList := ⟨⟨v.toArray⟩, by simp⟩
      have xs : x.size ≤ 4194304 := by simpa using vz
      unfold S at ce
      rw [ba_eta] at ce
      have BW := bt' B2.out HO.out.2
      have cS := hide' (spanG x z wr xs (by omega) h1 (MV.out.below BW))
      clear vz BW
      obtain ⟨bad, hbad⟩ : ∃ bad, bad = rngBad x.data.toList := ⟨_, rfl⟩
      have BD := hide' hbad.symm
      rw [BD.out] at EB ES cS
      clear hbad
      go_wp2_with fail
      refine cS.out.mono ?_
      rintro e w3 ⟨a, b', rfl, hsp, a0, a1, b0, b1, hb3⟩
      have SP := hide' hsp
      have D3 := duoR_lit w3 (.int .i64 a) (.int .i64 b') 44
      have QB := below_alloc' w3 (.cells #[.int .i64 a, .int .i64 b'] 44)
      have H3 := hide' (ownX_mono (ownX_mono HO.out hb3) QB)
      obtain ⟨i0, i1, -⟩ := D3
      clear cS hsp HO hb3 ce QB
      cases bad with
      | true =>
        have R := hide' (XB.out (EB.out rfl))
        clear EB ES EL XB XG SP
        go_wp2_with fail
        go_ret2
        rw [R.out]
        exact ⟨_, rfl, ownX_nil _ _ (bt' B2.out H3.out.2)⟩
      | false =>
        have U := hide' (ES.out rfl)
        clear EB ES XB XG
        by_cases hab : a ≤ b'
        · have E := hide' (show rngL z (els.take (k + 1)) = rngL z (els.take k) ++ [(a, b')] from by rw [EL.out, (SP.out BD.out).1 hab]; rfl)
          clear EL SP
          go_wp2_with (at_builtin; refine appX rfl (.tmp 45) (.tmp 47) rfl w2 _ _ rfl H3.out (a, b') (by first | rfl | go_num) (by first | rfl | go_num) rfl (by first | rfl | simp) (by have := LEN.out; omega) ?_; intro v9 w9 o9)
          have O9 := hide' o9
          clear o9
          go_round
          case rel => exact ⟨k + 1, by omega, by go_num, by unfold Hid; rw [E.out]; exact O9.out, U⟩
          case measure => simp [intOf]; omega
        · have E := hide' (show rngL z (els.take (k + 1)) = rngL z (els.take k) from by rw [EL.out, (SP.out BD.out).2 hab]; simp)
          clear EL SP
          go_wp2_with fail
          go_round
          case rel => exact ⟨k + 1, by omega, by go_num, by unfold Hid; rw [E.out]; exact H3.out, U⟩
          case measure => simp [intOf]; omega
    · have F : Hid (els.take k = els) := List.take_of_length_le (by rw [N.out]; omega)
      rw [F.out] at HO LEN
      have NB := hide' (XG.out (by have := HU.out; unfold RgUp at this; rw [F.out] at this; exact this))
      clear HU XB XG F
      obtain ⟨m, hm⟩ : ∃ m, m = (rngL z els).length := ⟨_, rfl⟩
      have M := hide' hm.symm
      obtain ⟨va, vc, ev⟩ := holdsX_slice (holdsX_own HO.out)
      rw [M.out] at ev
      rw [M.out] at LEN
      by_cases m0 : rngL z els = []
      · have R := hide' (NB.out.trans (if_pos m0))
        have e0 : m = 0 := by rw [hm, m0]; rfl
        subst e0
        have BX := hide' (bt' B2.out HO.out.2)
        clear hm
        subst ev
        go_wp2_with fail
        go_ret2
        rw [R.out]
        exact ⟨_, rfl, ownX_nil _ _ BX.out⟩
      · have R := hide' (NB.out.trans (if_neg m0))
        have mp : ((m : Int) == 0) = false := by
          rw [beq_eq_false_iff_ne]
          have := List.length_pos_iff.2 m0
          omega
        have m8 : m ≤ 8 := LEN.out
        clear hm m0 LEN
        subst ev
        go_wp2_with fail
        go_ret2
        rw [R.out]
        exact ⟨_, rfl, ownX_base HO.out B2.out⟩
end Go.Proofs.YtipcmbonhkelbabGreatDoor
