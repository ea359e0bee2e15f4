/- The walk of ValidMerged. -/
import Derived.Test.YtikokjclhpgocabVaV
import Derived.Test.YtikokjclhpgocabBo
import Derived.Test.YtikokjclhpgocabFdV
import Derived.Test.YtikokjclhpgocabFdC
import Derived.Test.YtikokjclhpgocabBk
import Derived.Deep.Cut
namespace Go.Proofs.Ytikokjclhpgocab
open Go.RowKit
theorem sameTa (va vb : Value) (xs : List (List UInt8)) (w : World) (ha : Holds w va xs) (hb : Holds w vb xs) (la : xs.length ≤ 1000000000000000) :
    Calls Try.prog 10 #[va, vb] w fun e w' => e = .returned (.bool true) ∧ Below w.heap.size w w' := by
  refine (sameTexts va vb xs xs w ha hb la la).mono ?_
  rintro e w' ⟨rfl, n, rfl⟩
  exact ⟨by simp, below_drewN _ _⟩
theorem merge_mem {s u : FL} {f : List UInt8 × List UInt8} (h : f ∈ mergeM s u) : f ∈ s ∨ f ∈ u := by
  unfold mergeM at h
  split at h
  · exact .inl h
  · unfold joinM at h
    rcases List.mem_append.1 h with h | h
    · exact .inl (List.mem_filter.1 h).1
    · exact .inr (List.mem_filter.1 h).1
theorem merge_fit {s u : FL} (hs : Fit s) (hu : Fit u) : Fit (mergeM s u) := fun f hf => by
  rcases merge_mem hf with h | h
  · exact hs f h
  · exact hu f h
theorem mergeM_le (s u : FL) : (mergeM s u).length ≤ s.length + u.length := by
  have h := join_len_le s u
  unfold mergeM
  split <;> omega
theorem lows_hop : [clH, crH, teH, coH].map lows = [clH, crH, teH, coH] := by decide
theorem merge_new {s u : FL} (h : s.length + u.length ≤ 100) {n : List UInt8} (h1 : valsOf u n ≠ []) (h2 : ¬ lows n = clH) (h3 : ¬ lows n = crH) (h4 : ¬ lows n = teH) (h5 : ¬ lows n = coH) : valsOf (mergeM s u) n = valsOf u n := by
  rw [merge_vals h, lows_hop, if_pos ⟨h1, by simp [h2, h3, h4, h5]⟩]
theorem merge_old {s u : FL} (h : s.length + u.length ≤ 100) {n : List UInt8} (h1 : valsOf u n = [] ∨ lows n = clH ∨ lows n = crH ∨ lows n = teH ∨ lows n = coH) : valsOf (mergeM s u) n = valsOf s n := by
  rw [merge_vals h, lows_hop, if_neg]
  rintro ⟨h2, h3⟩
  rcases h1 with h1 | h1 | h1 | h1 | h1
  · exact h2 h1
  all_goals exact h3 (by simp [h1])
set_option maxHeartbeats 16000000 in
set_option maxRecDepth 20000 in
theorem mergedWl (v vu : Value) (s u : FL) (nm : List UInt8) (w : World) (hv : HoldsF w v s) (hu : HoldsF w vu u) (hb : bulkF s + bulkF u + nm.length ≤ 1048576) :
    Calls Try.prog 3 #[v, vu, .string ⟨nm.toArray⟩] w fun e w' => e = .returned (.bool true) ∧ Below w.heap.size w w' := by
  have hs := bulkF_len s
  have hq := bulkF_len u
  have hsq : s.length + u.length ≤ 1048576 := by omega
  have fs : Fit s := fit_bulk (n := 1048576) (by omega) (by omega)
  have fu : Fit u := fit_bulk (n := 1048576) (by omega) (by omega)
  have MF := hide' (merge_fit fs fu)
  have hml := mergeM_le s u
  have c0 := hide' (aliveVa w)
  have C1 := hide' (fun W (h : Below w.heap.size w W) => copyF v s W (holdsF_mono hv h) (by omega))
  have CU := hide' (fun W (h : Below w.heap.size w W) => copyF vu u W (holdsF_mono hu h) (by omega))
  have CM := hide' (fun x W (hx : HoldsF W x (mergeM s u)) => copyF x (mergeM s u) W hx (by omega))
  have CG := hide' (fun x y (q : FL) W (hf : Fit q) (hx : HoldsF W x q) (hy : HoldsF W y u) (hl : q.length ≤ 2000000) => mergeC x y q u W hx hy hf fu (by omega))
  have CL := hide' (fun W => lowerRef ⟨nm.toArray⟩ W (by rw [size_l]; omega))
  have CV := hide' (fun x W (q : FL) (hx : HoldsF W x q) (hf : Fit q) (hl : q.length ≤ 2000000) => valuesTok x q nm W hx hf (by omega) (by omega))
  have CT := hide' (fun x y (q : List (List UInt8)) W (hx : Holds W x q) (hy : Holds W y q) (hl : q.length ≤ 2000000) => sameTa x y q W hx hy (by omega))
  have SM := hide' (fun x y W (hx : HoldsF W x (mergeM s u)) (hy : HoldsF W y (mergeM s u)) => sameFv x y _ W hx hy (by omega))
  have SB := hide' (fun x y W (hx : HoldsF W x s) (hy : HoldsF W y s) => sameFv x y _ W hx hy (by omega))
  have TW := hide' (fun h => merge_twice (s := s) (u := u) h)
  have OR := hide' (fun (h : ¬ (mergeM s u).length ≤ 100) => (merge_or s u).resolve_left h)
  have MN := hide' (fun h h1 h2 h3 h4 h5 => merge_new (s := s) (u := u) h (n := nm) h1 h2 h3 h4 h5)
  have MO := hide' (fun h h1 => merge_old (s := s) (u := u) h (n := nm) h1)
  have l1 := vals_len s nm
  have l2 := vals_len u nm
  have HV := hide' hv
  have FS := hide' fs
  have FU := hide' fu
  obtain ⟨sa, sc, _, _, es, -⟩ := holdsF_parts hv
  obtain ⟨ua, uc, _, _, eu, -⟩ := holdsF_parts hu
  subst es eu
  clear hv hu fs fu hb
  generalize hx : lows nm = x at CL MN MO
  have XN := hide' hx
  generalize hvs : valsOf s nm = vs at l1 MN MO
  generalize hvu : valsOf u nm = vv at l2 MN MO
  have EVS := hide' hvs
  have EVU := hide' hvu
  generalize hvm : valsOf (mergeM s u) nm = vm at MN MO
  have EVM := hide' hvm
  generalize hmg : mergeM s u = mg at MF hml CM SM TW OR EVM
  have MGE := hide' hmg
  clear hx hvs hvu hvm hmg XN
  obtain ⟨mgl, emg⟩ : ∃ mgl, mgl = mg.length := ⟨_, rfl⟩
  have ML : Hid (mg.length = mgl) := emg.symm
  obtain ⟨sl, esl⟩ : ∃ sl, sl = s.length := ⟨_, rfl⟩
  have SL : Hid (s.length = sl) := esl.symm
  obtain ⟨ul, eul⟩ : ∃ ul, ul = u.length := ⟨_, rfl⟩
  have UL : Hid (u.length = ul) := eul.symm
  rw [SL.out] at hs hsq hml l1 TW MN MO HV C1 ⊢
  rw [UL.out] at hq hsq hml l2 TW MN MO CU ⊢
  rw [ML.out] at hml OR
  clear emg esl eul
  go_enter Try.func3, Try.ntmps3
  go_wp2_with fail
  refine c0.out.mono ?_
  rintro e w1 ⟨rfl, b1⟩
  have B1 := hide' b1
  clear c0 b1
  go_wp2_with fail
  refine (C1.out _ B1.out).mono ?_
  rintro e w2 ⟨u2, rfl, ho⟩
  have B2 := hide' (bt' B1.out ho.2)
  have X2 := hide' (holdsF_own ho)
  obtain ⟨a2, c2, _, _, e2, -⟩ := holdsF_parts (holdsF_own ho)
  rw [e2] at X2 ⊢
  clear ho e2 B1
  go_wp2_with fail
  refine (CU.out _ B2.out).mono ?_
  rintro e w3 ⟨u3, rfl, ho⟩
  have B3 := hide' (bt' B2.out ho.2)
  have X3 := hide' (holdsF_mono X2.out ho.2)
  have Y3 := hide' (holdsF_own ho)
  obtain ⟨a3, c3, _, _, e3, -⟩ := holdsF_parts (holdsF_own ho)
  rw [e3] at Y3 ⊢
  clear ho e3 B2 X2
  have cG := CG.out _ _ s w3 FS.out X3.out Y3.out (by rw [SL.out]; omega)
  rw [MGE.out] at cG
  replace cG := hide' cG
  go_wp2_with fail
  refine cG.out.mono ?_
  rintro e w4 ⟨u4, rfl, ho⟩
  have B4 := hide' (bt' B3.out ho.2)
  have M4 := hide' (holdsF_own ho)
  obtain ⟨a4, c4, _, _, e4, -⟩ := holdsF_parts (holdsF_own ho)
  rw [ML.out] at e4
  rw [e4] at M4 ⊢
  clear ho e4 B3 X3 Y3 cG
  go_wp2_with fail
  refine (CL.out _).mono ?_
  rintro e w4b ⟨rfl, b4⟩
  have B4b := hide' (bt' B4.out b4)
  have M4b := hide' (holdsF_mono M4.out b4)
  clear b4 B4 M4 CL
  go_wp2_with fail
  refine (C1.out _ B4b.out).mono ?_
  rintro e w5 ⟨u5, rfl, ho⟩
  have B5 := hide' (bt' B4b.out ho.2)
  have M5 := hide' (holdsF_mono M4b.out ho.2)
  have X5 := hide' (holdsF_own ho)
  obtain ⟨a5, c5, _, _, e5, -⟩ := holdsF_parts (holdsF_own ho)
  rw [e5] at X5 ⊢
  clear ho e5 B4b M4b C1
  go_wp2_with fail
  refine (CV.out _ _ s X5.out FS.out (by rw [SL.out]; omega)).mono ?_
  rintro e w6 ⟨u6, rfl, ho⟩
  have B6 := hide' (bt' B5.out ho.2)
  have M6 := hide' (holdsF_mono M5.out ho.2)
  have hw := holds_own ho
  rw [EVS.out] at hw
  have W6 := hide' hw
  obtain ⟨a6, c6, _, _, e6, -⟩ := holds_parts hw
  rw [e6] at W6 ⊢
  clear ho hw e6 B5 M5 X5
  go_wp2_with fail
  refine (CU.out _ B6.out).mono ?_
  rintro e w7 ⟨u7, rfl, ho⟩
  have B7 := hide' (bt' B6.out ho.2)
  have M7 := hide' (holdsF_mono M6.out ho.2)
  have W7 := hide' (holds_mono W6.out ho.2)
  have X7 := hide' (holdsF_own ho)
  obtain ⟨a7, c7, _, _, e7, -⟩ := holdsF_parts (holdsF_own ho)
  rw [e7] at X7 ⊢
  clear ho e7 B6 M6 W6
  go_wp2_with fail
  refine (CV.out _ _ u X7.out FU.out (by rw [UL.out]; omega)).mono ?_
  rintro e w9 ⟨u9, rfl, ho⟩
  have B9 := hide' (bt' B7.out ho.2)
  have M9 := hide' (holdsF_mono M7.out ho.2)
  have W9 := hide' (holds_mono W7.out ho.2)
  have hw := holds_own ho
  rw [EVU.out] at hw
  have N9 := hide' hw
  obtain ⟨a9, c9, _, _, e9, -⟩ := holds_parts hw
  rw [e9] at N9 ⊢
  clear ho hw e9 B7 M7 W7 X7
  go_upto_region 7 with fail
  by_cases hz : vv = []
  · have VMW := hide' (fun (h : sl + ul ≤ 100) => (show valsOf mg nm = vs from EVM.out.trans (MO.out h (.inl hz))))
    subst hz
    clear N9
    simp only [List.length_nil]
    clear MN MO EVM
    by_cases hbig : 100 < sl + ul
    · have BO := hide' (OR.out)
      clear TW VMW OR
      by_cases hm : mgl ≤ 100
      · go_wp2_with fail
        go_ret
        exact ⟨rfl, B9.out⟩
      · have ES := hide' (BO.out hm)
        have cS := hide' (SB.out _ _ w9 (by rw [← ES.out]; exact M9.out) (holdsF_mono HV.out B9.out))
        go_wp2_with fail
        refine cS.out.mono ?_
        rintro e wa ⟨rfl, ba⟩
        have BA := hide' (bt' B9.out ba)
        clear ba cS
        go_wp2_with fail
        go_ret
        exact ⟨rfl, BA.out⟩
    · have hsm : sl + ul ≤ 100 := by omega
      have T2 := hide' (TW.out hsm)
      have V2 := hide' (VMW.out hsm)
      clear TW VMW OR
      go_wp2_with fail
      refine (CV.out _ _ mg M9.out MF.out (by rw [ML.out]; omega)).mono ?_
      rintro e wa ⟨uv, rfl, hov⟩
      have BA := hide' (bt' B9.out hov.2)
      have MA := hide' (holdsF_mono M9.out hov.2)
      have WA := hide' (holds_mono W9.out hov.2)
      have hvv := holds_own hov
      rw [V2.out] at hvv
      have VV := hide' hvv
      obtain ⟨va, vc, _, _, ev, -⟩ := holds_parts hvv
      rw [ev] at VV ⊢
      clear hov hvv ev M9 B9
      have cT := hide' (CT.out _ _ vs wa VV.out WA.out (by omega))
      go_wp2_with fail
      refine cT.out.mono ?_
      rintro e wb ⟨rfl, bb⟩
      have BB := hide' (bt' BA.out bb)
      have MB := hide' (holdsF_mono MA.out bb)
      clear bb BA MA VV WA cT
      go_wp2_with fail
      refine (CM.out _ _ MB.out).mono ?_
      rintro e wc ⟨uc, rfl, hoc⟩
      have BC := hide' (bt' BB.out hoc.2)
      have MC := hide' (holdsF_mono MB.out hoc.2)
      have XC := hide' (holdsF_own hoc)
      obtain ⟨ca, cc, _, _, ec, -⟩ := holdsF_parts (holdsF_own hoc)
      rw [ec] at XC ⊢
      clear hoc ec BB MB
      go_wp2_with fail
      refine (CU.out _ BC.out).mono ?_
      rintro e wd ⟨ud, rfl, hod⟩
      have BD := hide' (bt' BC.out hod.2)
      have MD := hide' (holdsF_mono MC.out hod.2)
      have XD := hide' (holdsF_mono XC.out hod.2)
      have YD := hide' (holdsF_own hod)
      obtain ⟨da, dc, _, _, ed, -⟩ := holdsF_parts (holdsF_own hod)
      rw [ed] at YD ⊢
      clear hod ed BC MC XC
      go_wp2_with fail
      refine (CG.out _ _ mg _ MF.out XD.out YD.out (by rw [ML.out]; omega)).mono ?_
      rintro e we ⟨ue, rfl, hoe⟩
      have BE := hide' (bt' BD.out hoe.2)
      have hz := holdsF_own hoe
      rw [T2.out] at hz
      have cF := hide' (SM.out _ _ we hz (holdsF_mono MD.out hoe.2))
      obtain ⟨ea, ec, _, _, ee, -⟩ := holdsF_parts hz
      rw [ML.out] at ee
      rw [ee] at cF ⊢
      clear hoe hz ee BD MD XD YD
      go_wp2_with fail
      refine cF.out.mono ?_
      rintro e wf ⟨rfl, bf⟩
      have BF := hide' (bt' BE.out bf)
      clear bf BE cF
      go_wp2_with fail
      go_ret
      exact ⟨rfl, BF.out⟩
  · by_cases h0 : x = [99, 111, 110, 116, 101, 110, 116, 45, 108, 101, 110, 103, 116, 104]
    · have VMW := hide' (fun (h : sl + ul ≤ 100) => (show valsOf mg nm = vs from EVM.out.trans (MO.out h (.inr (.inl h0)))))
      have hp : 0 < vv.length := List.length_pos_iff.2 hz
      subst h0
      clear hz N9
      clear MN MO EVM
      by_cases hbig : 100 < sl + ul
      · have BO := hide' (OR.out)
        clear TW VMW OR
        by_cases hm : mgl ≤ 100
        · go_wp2_with fail
          go_ret
          exact ⟨rfl, B9.out⟩
        · have ES := hide' (BO.out hm)
          have cS := hide' (SB.out _ _ w9 (by rw [← ES.out]; exact M9.out) (holdsF_mono HV.out B9.out))
          go_wp2_with fail
          refine cS.out.mono ?_
          rintro e wa ⟨rfl, ba⟩
          have BA := hide' (bt' B9.out ba)
          clear ba cS
          go_wp2_with fail
          go_ret
          exact ⟨rfl, BA.out⟩
      · have hsm : sl + ul ≤ 100 := by omega
        have T2 := hide' (TW.out hsm)
        have V2 := hide' (VMW.out hsm)
        clear TW VMW OR
        go_wp2_with fail
        refine (CV.out _ _ mg M9.out MF.out (by rw [ML.out]; omega)).mono ?_
        rintro e wa ⟨uv, rfl, hov⟩
        have BA := hide' (bt' B9.out hov.2)
        have MA := hide' (holdsF_mono M9.out hov.2)
        have WA := hide' (holds_mono W9.out hov.2)
        have hvv := holds_own hov
        rw [V2.out] at hvv
        have VV := hide' hvv
        obtain ⟨va, vc, _, _, ev, -⟩ := holds_parts hvv
        rw [ev] at VV ⊢
        clear hov hvv ev M9 B9
        have cT := hide' (CT.out _ _ vs wa VV.out WA.out (by omega))
        go_wp2_with fail
        refine cT.out.mono ?_
        rintro e wb ⟨rfl, bb⟩
        have BB := hide' (bt' BA.out bb)
        have MB := hide' (holdsF_mono MA.out bb)
        clear bb BA MA VV WA cT
        go_wp2_with fail
        refine (CM.out _ _ MB.out).mono ?_
        rintro e wc ⟨uc, rfl, hoc⟩
        have BC := hide' (bt' BB.out hoc.2)
        have MC := hide' (holdsF_mono MB.out hoc.2)
        have XC := hide' (holdsF_own hoc)
        obtain ⟨ca, cc, _, _, ec, -⟩ := holdsF_parts (holdsF_own hoc)
        rw [ec] at XC ⊢
        clear hoc ec BB MB
        go_wp2_with fail
        refine (CU.out _ BC.out).mono ?_
        rintro e wd ⟨ud, rfl, hod⟩
        have BD := hide' (bt' BC.out hod.2)
        have MD := hide' (holdsF_mono MC.out hod.2)
        have XD := hide' (holdsF_mono XC.out hod.2)
        have YD := hide' (holdsF_own hod)
        obtain ⟨da, dc, _, _, ed, -⟩ := holdsF_parts (holdsF_own hod)
        rw [ed] at YD ⊢
        clear hod ed BC MC XC
        go_wp2_with fail
        refine (CG.out _ _ mg _ MF.out XD.out YD.out (by rw [ML.out]; omega)).mono ?_
        rintro e we ⟨ue, rfl, hoe⟩
        have BE := hide' (bt' BD.out hoe.2)
        have hz := holdsF_own hoe
        rw [T2.out] at hz
        have cF := hide' (SM.out _ _ we hz (holdsF_mono MD.out hoe.2))
        obtain ⟨ea, ec, _, _, ee, -⟩ := holdsF_parts hz
        rw [ML.out] at ee
        rw [ee] at cF ⊢
        clear hoe hz ee BD MD XD YD
        go_wp2_with fail
        refine cF.out.mono ?_
        rintro e wf ⟨rfl, bf⟩
        have BF := hide' (bt' BE.out bf)
        clear bf BE cF
        go_wp2_with fail
        go_ret
        exact ⟨rfl, BF.out⟩
    · by_cases h1 : x = [99, 111, 110, 116, 101, 110, 116, 45, 114, 97, 110, 103, 101]
      · have VMW := hide' (fun (h : sl + ul ≤ 100) => (show valsOf mg nm = vs from EVM.out.trans (MO.out h (.inr (.inr (.inl h1))))))
        have hp : 0 < vv.length := List.length_pos_iff.2 hz
        subst h1
        clear hz N9
        clear MN MO EVM
        by_cases hbig : 100 < sl + ul
        · have BO := hide' (OR.out)
          clear TW VMW OR
          by_cases hm : mgl ≤ 100
          · go_wp2_with fail
            go_ret
            exact ⟨rfl, B9.out⟩
          · have ES := hide' (BO.out hm)
            have cS := hide' (SB.out _ _ w9 (by rw [← ES.out]; exact M9.out) (holdsF_mono HV.out B9.out))
            go_wp2_with fail
            refine cS.out.mono ?_
            rintro e wa ⟨rfl, ba⟩
            have BA := hide' (bt' B9.out ba)
            clear ba cS
            go_wp2_with fail
            go_ret
            exact ⟨rfl, BA.out⟩
        · have hsm : sl + ul ≤ 100 := by omega
          have T2 := hide' (TW.out hsm)
          have V2 := hide' (VMW.out hsm)
          clear TW VMW OR
          go_wp2_with fail
          refine (CV.out _ _ mg M9.out MF.out (by rw [ML.out]; omega)).mono ?_
          rintro e wa ⟨uv, rfl, hov⟩
          have BA := hide' (bt' B9.out hov.2)
          have MA := hide' (holdsF_mono M9.out hov.2)
          have WA := hide' (holds_mono W9.out hov.2)
          have hvv := holds_own hov
          rw [V2.out] at hvv
          have VV := hide' hvv
          obtain ⟨va, vc, _, _, ev, -⟩ := holds_parts hvv
          rw [ev] at VV ⊢
          clear hov hvv ev M9 B9
          have cT := hide' (CT.out _ _ vs wa VV.out WA.out (by omega))
          go_wp2_with fail
          refine cT.out.mono ?_
          rintro e wb ⟨rfl, bb⟩
          have BB := hide' (bt' BA.out bb)
          have MB := hide' (holdsF_mono MA.out bb)
          clear bb BA MA VV WA cT
          go_wp2_with fail
          refine (CM.out _ _ MB.out).mono ?_
          rintro e wc ⟨uc, rfl, hoc⟩
          have BC := hide' (bt' BB.out hoc.2)
          have MC := hide' (holdsF_mono MB.out hoc.2)
          have XC := hide' (holdsF_own hoc)
          obtain ⟨ca, cc, _, _, ec, -⟩ := holdsF_parts (holdsF_own hoc)
          rw [ec] at XC ⊢
          clear hoc ec BB MB
          go_wp2_with fail
          refine (CU.out _ BC.out).mono ?_
          rintro e wd ⟨ud, rfl, hod⟩
          have BD := hide' (bt' BC.out hod.2)
          have MD := hide' (holdsF_mono MC.out hod.2)
          have XD := hide' (holdsF_mono XC.out hod.2)
          have YD := hide' (holdsF_own hod)
          obtain ⟨da, dc, _, _, ed, -⟩ := holdsF_parts (holdsF_own hod)
          rw [ed] at YD ⊢
          clear hod ed BC MC XC
          go_wp2_with fail
          refine (CG.out _ _ mg _ MF.out XD.out YD.out (by rw [ML.out]; omega)).mono ?_
          rintro e we ⟨ue, rfl, hoe⟩
          have BE := hide' (bt' BD.out hoe.2)
          have hz := holdsF_own hoe
          rw [T2.out] at hz
          have cF := hide' (SM.out _ _ we hz (holdsF_mono MD.out hoe.2))
          obtain ⟨ea, ec, _, _, ee, -⟩ := holdsF_parts hz
          rw [ML.out] at ee
          rw [ee] at cF ⊢
          clear hoe hz ee BD MD XD YD
          go_wp2_with fail
          refine cF.out.mono ?_
          rintro e wf ⟨rfl, bf⟩
          have BF := hide' (bt' BE.out bf)
          clear bf BE cF
          go_wp2_with fail
          go_ret
          exact ⟨rfl, BF.out⟩
      · by_cases h2 : x = [116, 114, 97, 110, 115, 102, 101, 114, 45, 101, 110, 99, 111, 100, 105, 110, 103]
        · have VMW := hide' (fun (h : sl + ul ≤ 100) => (show valsOf mg nm = vs from EVM.out.trans (MO.out h (.inr (.inr (.inr (.inl h2)))))))
          have hp : 0 < vv.length := List.length_pos_iff.2 hz
          subst h2
          clear hz N9
          clear MN MO EVM
          by_cases hbig : 100 < sl + ul
          · have BO := hide' (OR.out)
            clear TW VMW OR
            by_cases hm : mgl ≤ 100
            · go_wp2_with fail
              go_ret
              exact ⟨rfl, B9.out⟩
            · have ES := hide' (BO.out hm)
              have cS := hide' (SB.out _ _ w9 (by rw [← ES.out]; exact M9.out) (holdsF_mono HV.out B9.out))
              go_wp2_with fail
              refine cS.out.mono ?_
              rintro e wa ⟨rfl, ba⟩
              have BA := hide' (bt' B9.out ba)
              clear ba cS
              go_wp2_with fail
              go_ret
              exact ⟨rfl, BA.out⟩
          · have hsm : sl + ul ≤ 100 := by omega
            have T2 := hide' (TW.out hsm)
            have V2 := hide' (VMW.out hsm)
            clear TW VMW OR
            go_wp2_with fail
            refine (CV.out _ _ mg M9.out MF.out (by rw [ML.out]; omega)).mono ?_
            rintro e wa ⟨uv, rfl, hov⟩
            have BA := hide' (bt' B9.out hov.2)
            have MA := hide' (holdsF_mono M9.out hov.2)
            have WA := hide' (holds_mono W9.out hov.2)
            have hvv := holds_own hov
            rw [V2.out] at hvv
            have VV := hide' hvv
            obtain ⟨va, vc, _, _, ev, -⟩ := holds_parts hvv
            rw [ev] at VV ⊢
            clear hov hvv ev M9 B9
            have cT := hide' (CT.out _ _ vs wa VV.out WA.out (by omega))
            go_wp2_with fail
            refine cT.out.mono ?_
            rintro e wb ⟨rfl, bb⟩
            have BB := hide' (bt' BA.out bb)
            have MB := hide' (holdsF_mono MA.out bb)
            clear bb BA MA VV WA cT
            go_wp2_with fail
            refine (CM.out _ _ MB.out).mono ?_
            rintro e wc ⟨uc, rfl, hoc⟩
            have BC := hide' (bt' BB.out hoc.2)
            have MC := hide' (holdsF_mono MB.out hoc.2)
            have XC := hide' (holdsF_own hoc)
            obtain ⟨ca, cc, _, _, ec, -⟩ := holdsF_parts (holdsF_own hoc)
            rw [ec] at XC ⊢
            clear hoc ec BB MB
            go_wp2_with fail
            refine (CU.out _ BC.out).mono ?_
            rintro e wd ⟨ud, rfl, hod⟩
            have BD := hide' (bt' BC.out hod.2)
            have MD := hide' (holdsF_mono MC.out hod.2)
            have XD := hide' (holdsF_mono XC.out hod.2)
            have YD := hide' (holdsF_own hod)
            obtain ⟨da, dc, _, _, ed, -⟩ := holdsF_parts (holdsF_own hod)
            rw [ed] at YD ⊢
            clear hod ed BC MC XC
            go_wp2_with fail
            refine (CG.out _ _ mg _ MF.out XD.out YD.out (by rw [ML.out]; omega)).mono ?_
            rintro e we ⟨ue, rfl, hoe⟩
            have BE := hide' (bt' BD.out hoe.2)
            have hz := holdsF_own hoe
            rw [T2.out] at hz
            have cF := hide' (SM.out _ _ we hz (holdsF_mono MD.out hoe.2))
            obtain ⟨ea, ec, _, _, ee, -⟩ := holdsF_parts hz
            rw [ML.out] at ee
            rw [ee] at cF ⊢
            clear hoe hz ee BD MD XD YD
            go_wp2_with fail
            refine cF.out.mono ?_
            rintro e wf ⟨rfl, bf⟩
            have BF := hide' (bt' BE.out bf)
            clear bf BE cF
            go_wp2_with fail
            go_ret
            exact ⟨rfl, BF.out⟩
        · by_cases h3 : x = [99, 111, 110, 110, 101, 99, 116, 105, 111, 110]
          · have VMW := hide' (fun (h : sl + ul ≤ 100) => (show valsOf mg nm = vs from EVM.out.trans (MO.out h (.inr (.inr (.inr (.inr (h3))))))))
            have hp : 0 < vv.length := List.length_pos_iff.2 hz
            subst h3
            clear hz N9
            clear MN MO EVM
            by_cases hbig : 100 < sl + ul
            · have BO := hide' (OR.out)
              clear TW VMW OR
              by_cases hm : mgl ≤ 100
              · go_wp2_with fail
                go_ret
                exact ⟨rfl, B9.out⟩
              · have ES := hide' (BO.out hm)
                have cS := hide' (SB.out _ _ w9 (by rw [← ES.out]; exact M9.out) (holdsF_mono HV.out B9.out))
                go_wp2_with fail
                refine cS.out.mono ?_
                rintro e wa ⟨rfl, ba⟩
                have BA := hide' (bt' B9.out ba)
                clear ba cS
                go_wp2_with fail
                go_ret
                exact ⟨rfl, BA.out⟩
            · have hsm : sl + ul ≤ 100 := by omega
              have T2 := hide' (TW.out hsm)
              have V2 := hide' (VMW.out hsm)
              clear TW VMW OR
              go_wp2_with fail
              refine (CV.out _ _ mg M9.out MF.out (by rw [ML.out]; omega)).mono ?_
              rintro e wa ⟨uv, rfl, hov⟩
              have BA := hide' (bt' B9.out hov.2)
              have MA := hide' (holdsF_mono M9.out hov.2)
              have WA := hide' (holds_mono W9.out hov.2)
              have hvv := holds_own hov
              rw [V2.out] at hvv
              have VV := hide' hvv
              obtain ⟨va, vc, _, _, ev, -⟩ := holds_parts hvv
              rw [ev] at VV ⊢
              clear hov hvv ev M9 B9
              have cT := hide' (CT.out _ _ vs wa VV.out WA.out (by omega))
              go_wp2_with fail
              refine cT.out.mono ?_
              rintro e wb ⟨rfl, bb⟩
              have BB := hide' (bt' BA.out bb)
              have MB := hide' (holdsF_mono MA.out bb)
              clear bb BA MA VV WA cT
              go_wp2_with fail
              refine (CM.out _ _ MB.out).mono ?_
              rintro e wc ⟨uc, rfl, hoc⟩
              have BC := hide' (bt' BB.out hoc.2)
              have MC := hide' (holdsF_mono MB.out hoc.2)
              have XC := hide' (holdsF_own hoc)
              obtain ⟨ca, cc, _, _, ec, -⟩ := holdsF_parts (holdsF_own hoc)
              rw [ec] at XC ⊢
              clear hoc ec BB MB
              go_wp2_with fail
              refine (CU.out _ BC.out).mono ?_
              rintro e wd ⟨ud, rfl, hod⟩
              have BD := hide' (bt' BC.out hod.2)
              have MD := hide' (holdsF_mono MC.out hod.2)
              have XD := hide' (holdsF_mono XC.out hod.2)
              have YD := hide' (holdsF_own hod)
              obtain ⟨da, dc, _, _, ed, -⟩ := holdsF_parts (holdsF_own hod)
              rw [ed] at YD ⊢
              clear hod ed BC MC XC
              go_wp2_with fail
              refine (CG.out _ _ mg _ MF.out XD.out YD.out (by rw [ML.out]; omega)).mono ?_
              rintro e we ⟨ue, rfl, hoe⟩
              have BE := hide' (bt' BD.out hoe.2)
              have hz := holdsF_own hoe
              rw [T2.out] at hz
              have cF := hide' (SM.out _ _ we hz (holdsF_mono MD.out hoe.2))
              obtain ⟨ea, ec, _, _, ee, -⟩ := holdsF_parts hz
              rw [ML.out] at ee
              rw [ee] at cF ⊢
              clear hoe hz ee BD MD XD YD
              go_wp2_with fail
              refine cF.out.mono ?_
              rintro e wf ⟨rfl, bf⟩
              have BF := hide' (bt' BE.out bf)
              clear bf BE cF
              go_wp2_with fail
              go_ret
              exact ⟨rfl, BF.out⟩
          · have VMW := hide' (fun (h : sl + ul ≤ 100) => (show valsOf mg nm = vv from EVM.out.trans (MN.out h hz h0 h1 h2 h3)))
            have m0 : (x == [99, 111, 110, 116, 101, 110, 116, 45, 108, 101, 110, 103, 116, 104]) = false := by simpa using h0
            have m1 : (x == [99, 111, 110, 116, 101, 110, 116, 45, 114, 97, 110, 103, 101]) = false := by simpa using h1
            have m2 : (x == [116, 114, 97, 110, 115, 102, 101, 114, 45, 101, 110, 99, 111, 100, 105, 110, 103]) = false := by simpa using h2
            have m3 : (x == [99, 111, 110, 110, 101, 99, 116, 105, 111, 110]) = false := by simpa using h3
            have hp : 0 < vv.length := List.length_pos_iff.2 hz
            clear h0 h1 h2 h3 hz W9
            clear MN MO EVM
            by_cases hbig : 100 < sl + ul
            · have BO := hide' (OR.out)
              clear TW VMW OR
              by_cases hm : mgl ≤ 100
              · go_wp2_with fail
                go_ret
                exact ⟨rfl, B9.out⟩
              · have ES := hide' (BO.out hm)
                have cS := hide' (SB.out _ _ w9 (by rw [← ES.out]; exact M9.out) (holdsF_mono HV.out B9.out))
                go_wp2_with fail
                refine cS.out.mono ?_
                rintro e wa ⟨rfl, ba⟩
                have BA := hide' (bt' B9.out ba)
                clear ba cS
                go_wp2_with fail
                go_ret
                exact ⟨rfl, BA.out⟩
            · have hsm : sl + ul ≤ 100 := by omega
              have T2 := hide' (TW.out hsm)
              have V2 := hide' (VMW.out hsm)
              clear TW VMW OR
              go_wp2_with fail
              refine (CV.out _ _ mg M9.out MF.out (by rw [ML.out]; omega)).mono ?_
              rintro e wa ⟨uv, rfl, hov⟩
              have BA := hide' (bt' B9.out hov.2)
              have MA := hide' (holdsF_mono M9.out hov.2)
              have WA := hide' (holds_mono N9.out hov.2)
              have hvv := holds_own hov
              rw [V2.out] at hvv
              have VV := hide' hvv
              obtain ⟨va, vc, _, _, ev, -⟩ := holds_parts hvv
              rw [ev] at VV ⊢
              clear hov hvv ev M9 B9
              have cT := hide' (CT.out _ _ vv wa VV.out WA.out (by omega))
              go_wp2_with fail
              refine cT.out.mono ?_
              rintro e wb ⟨rfl, bb⟩
              have BB := hide' (bt' BA.out bb)
              have MB := hide' (holdsF_mono MA.out bb)
              clear bb BA MA VV WA cT
              go_wp2_with fail
              refine (CM.out _ _ MB.out).mono ?_
              rintro e wc ⟨uc, rfl, hoc⟩
              have BC := hide' (bt' BB.out hoc.2)
              have MC := hide' (holdsF_mono MB.out hoc.2)
              have XC := hide' (holdsF_own hoc)
              obtain ⟨ca, cc, _, _, ec, -⟩ := holdsF_parts (holdsF_own hoc)
              rw [ec] at XC ⊢
              clear hoc ec BB MB
              go_wp2_with fail
              refine (CU.out _ BC.out).mono ?_
              rintro e wd ⟨ud, rfl, hod⟩
              have BD := hide' (bt' BC.out hod.2)
              have MD := hide' (holdsF_mono MC.out hod.2)
              have XD := hide' (holdsF_mono XC.out hod.2)
              have YD := hide' (holdsF_own hod)
              obtain ⟨da, dc, _, _, ed, -⟩ := holdsF_parts (holdsF_own hod)
              rw [ed] at YD ⊢
              clear hod ed BC MC XC
              go_wp2_with fail
              refine (CG.out _ _ mg _ MF.out XD.out YD.out (by rw [ML.out]; omega)).mono ?_
              rintro e we ⟨ue, rfl, hoe⟩
              have BE := hide' (bt' BD.out hoe.2)
              have hz := holdsF_own hoe
              rw [T2.out] at hz
              have cF := hide' (SM.out _ _ we hz (holdsF_mono MD.out hoe.2))
              obtain ⟨ea, ec, _, _, ee, -⟩ := holdsF_parts hz
              rw [ML.out] at ee
              rw [ee] at cF ⊢
              clear hoe hz ee BD MD XD YD
              go_wp2_with fail
              refine cF.out.mono ?_
              rintro e wf ⟨rfl, bf⟩
              have BF := hide' (bt' BE.out bf)
              clear bf BE cF
              go_wp2_with fail
              go_ret
              exact ⟨rfl, BF.out⟩
theorem mergedW (v vu : Value) (s u : FL) (nm : ByteArray) (w : World) (hv : HoldsF w v s) (hu : HoldsF w vu u) (hb : bulkF s + bulkF u + nm.size ≤ 1048576) :
    Calls Try.prog 3 #[v, vu, .string nm] w fun e w' => e = .returned (.bool true) ∧ Below w.heap.size w w' := by
  have h := mergedWl v vu s u nm.data.toList w hv hu (by have : nm.data.toList.length = nm.size := by simp
                                                         omega)
  rw [ba_eta] at h
  exact h
end Go.Proofs.Ytikokjclhpgocab
