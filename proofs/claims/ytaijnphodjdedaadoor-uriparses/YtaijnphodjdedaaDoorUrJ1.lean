/- The contract of the document's Parse, at one way out of its second loop. -/
import Derived.Test.YtaijnphodjdedaaDoorUrK
namespace Go.Proofs.YtaijnphodjdedaaDoor
open Go.RowKit
set_option maxRecDepth 20000 in
set_option maxHeartbeats 8000000 in
theorem parseRef_a_no (s : ByteArray) (w : World) (hs : s.size ≤ 140737488351232) (hkind : Hid (s.size ≤ endK s)) (hcolon : Hid ((auT (s.extract 7 s.size)).data.toList.all noCol = true)) :
    Calls Tryd.prog 7 #[.string s] w fun e w' => e = .returned (ansV (parseP s.data.toList)) ∧ Below w.heap.size w w' := by
  have S0 := hide (sb_new w)
  by_cases hl : 4096 < s.size
  · have R : Hid (parseP s.data.toList = (Tgt.none, 101)) := parse_long s hl
    have hl' : (4096 : Int) < s.size := by omega
    clear hl
    go_enter Tryd.func7, Tryd.ntmps7
    go_wp2_with fail
    exact bodyPost_ret (v := ansV (Tgt.none, 101)) (by simp [results, Tryd.results7, go_sem, ansV, tgV, Tgt.none]) rfl ⟨by rw [R.out], S0.out.2⟩
  · have hl' : (s.size : Int) ≤ 4096 := by omega
    go_enter Tryd.func7, Tryd.ntmps7
    go_wp2_with fail
    go_loop [4] (fun i => ∃ k : Nat, k ≤ s.size ∧ i = .int .i64 k ∧ Hid ((s.data.toList.take k).all addrB = true)) (fun i => s.size - (intOf i).toNat)
    case atStart => exact ⟨0, Nat.zero_le _, rfl, rfl⟩
    case round =>
      obtain ⟨k, hk, rfl, H⟩ := hrel
      by_cases hlt : k < s.size
      · have hb := byte_lt s[k]
        cases hc : addrB s[k] with
        | true =>
          have H2 : Hid ((s.data.toList.take (k + 1)).all addrB = true) := all_take addrB s k hlt H.out hc
          obtain ⟨c0, c1, c2⟩ := of_decide_eq_true hc
          have q1 : decide ((s[k].toNat : Int) < 33) = false := decide_eq_false (by omega)
          have q2 : decide ((126 : Int) < (s[k].toNat : Int)) = false := decide_eq_false (by omega)
          have q3 : ((s[k].toNat : Int) == 35) = false := by simpa using c2
          clear hc H c0 c1 c2
          go_wp2_with fail
          go_round
          case rel => exact ⟨k + 1, by omega, by go_num, H2⟩
          case measure => simp [intOf]; omega
        | false =>
          have R : Hid (parseP s.data.toList = (Tgt.none, 30)) := parse_bytes s hl (all_bad addrB s k hlt hc)
          have hc2 : (s[k].toNat : Int) < 33 ∨ (33 ≤ (s[k].toNat : Int) ∧ 126 < (s[k].toNat : Int)) ∨ (33 ≤ (s[k].toNat : Int) ∧ (s[k].toNat : Int) ≤ 126 ∧ (s[k].toNat : Int) = 35) := by
            have := of_decide_eq_false hc
            omega
          clear hc H
          rcases hc2 with c0 | ⟨c0, c1⟩ | ⟨c0, c1, c2⟩
          · go_wp2_with fail
            exact bodyPost_ret (v := ansV (Tgt.none, 30)) (by simp [results, Tryd.results7, go_sem, ansV, tgV, Tgt.none]) rfl ⟨by rw [R.out], S0.out.2⟩
          · go_wp2_with fail
            exact bodyPost_ret (v := ansV (Tgt.none, 30)) (by simp [results, Tryd.results7, go_sem, ansV, tgV, Tgt.none]) rfl ⟨by rw [R.out], S0.out.2⟩
          · have q1 : decide ((s[k].toNat : Int) < 33) = false := decide_eq_false (by omega)
            have q2 : decide ((126 : Int) < (s[k].toNat : Int)) = false := decide_eq_false (by omega)
            have q3 : ((s[k].toNat : Int) == 35) = true := by simpa using c2
            clear c0 c1 c2
            go_wp2_with fail
            exact bodyPost_ret (v := ansV (Tgt.none, 30)) (by simp [results, Tryd.results7, go_sem, ansV, tgV, Tgt.none]) rfl ⟨by rw [R.out], S0.out.2⟩
      · have ha : allAddr s.data.toList = true := all_end addrB s k (by omega) H.out
        have hge : s.size ≤ k := by omega
        clear H
        by_cases h7 : s.size < 7
        · have R : Hid (parseP s.data.toList = (Tgt.none, 31)) := parse_scheme s hl ha (short_scheme _ (by rw [len_list]; exact h7))
          have h7' : (s.size : Int) < 7 := by omega
          go_wp2_with fail
          exact bodyPost_ret (v := ansV (Tgt.none, 31)) (by simp [results, Tryd.results7, go_sem, ansV, tgV, Tgt.none]) rfl ⟨by rw [R.out], S0.out.2⟩
        · have h7' : (7 : Int) ≤ s.size := by omega
          have zt : (s.extract 0 7).size = 7 := by rw [size_list, ext_to, List.length_take, len_list]; omega
          have c2 := fun w => lowerRef (s.extract 0 7) w (by omega)
          rw [ext_to] at c2
          by_cases hm : lows (s.data.toList.take 7) = http
          · have R0 := parse_read s hl ha hm
            rw [hm, show (⟨http.toArray⟩ : ByteArray) = ⟨#[104, 116, 116, 112, 58, 47, 47]⟩ from rfl] at c2
            replace c2 := hide c2
            clear zt hm
            go_wp2_with fail
            refine (c2.out _).mono ?_
            rintro e w1 ⟨rfl, b1⟩
            have S1 := hide (sb_below S0.out b1)
            clear b1 S0 c2 hge
            go_wp2_with fail
            go_loop [5] (fun i => ∃ k : Nat, 7 ≤ k ∧ k ≤ s.size ∧ i = .int .i64 k ∧ Hid (((s.data.toList.take k).drop 7).all noEnd = true)) (fun i => s.size - (intOf i).toNat)
            case atStart => exact ⟨7, Nat.le_refl _, by omega, rfl, by unfold Hid; rw [List.drop_of_length_le (by rw [List.length_take]; omega)]; rfl⟩
            case round =>
              clear hk hlt
              obtain ⟨k, hk7, hk, rfl, H⟩ := hrel
              by_cases hgo : ∃ h : k < s.size, noEnd s[k] = true
              · obtain ⟨hlt, hc⟩ := hgo
                have hb := byte_lt s[k]
                have H2 : Hid (((s.data.toList.take (k + 1)).drop 7).all noEnd = true) := by
                  unfold Hid; rw [take_next s k 7 hlt hk7, List.all_append, H.out]; simp [hc]
                rcases end_cases s[k] with ⟨_, t1, t2⟩ | ⟨e, _⟩ | ⟨e, _⟩
                · clear hc H
                  go_wp2_with fail
                  go_round
                  case rel => exact ⟨k + 1, by omega, by omega, by go_num, H2⟩
                  case measure => simp [intOf]; omega
                · rw [e] at hc; cases hc
                · rw [e] at hc; cases hc
              · have hend : k = s.size ∨ ∃ h : k < s.size, s[k] = 47 ∨ s[k] = 63 := by
                  by_cases h : k < s.size
                  · rcases end_cases s[k] with ⟨e, _⟩ | ⟨e, _⟩ | ⟨e, _⟩
                    · exact absurd ⟨h, e⟩ hgo
                    · exact .inr ⟨h, .inl e⟩
                    · exact .inr ⟨h, .inr e⟩
                  · exact .inl (by omega)
                obtain ⟨eA, eB⟩ := end_facts s k hk7 hk H.out hend
                have ek := hide (end_k s k hk7 hk eA)
                have hcA : Hid ((s.extract 7 k).data.toList.all noCol = true) := by unfold Hid; rw [eA]; exact hcolon.out
                rw [← eA, ← eB] at R0
                have hBh : ∀ c l, (s.extract k s.size).data.toList = c :: l → c = 47 ∨ c = 63 := by
                  intro c l e
                  rw [eB, restT_list] at e
                  exact (noEnd_iff c).1 (drop_head noEnd _ c l e)
                have zA : (s.extract 7 k).size ≤ 4096 := by rw [size_list, seg_list, List.length_drop, List.length_take, len_list]; omega
                have zB : (s.extract k s.size).size ≤ 4096 := by rw [size_list, ext_from, List.length_drop, len_list]; omega
                have tt : (decide ((k : Int) < (s.size : Int)) = false ∧ s.size ≤ k) ∨ (∃ h : k < s.size, ((s[k].toNat : Int) != 47) = false) ∨ (∃ h : k < s.size, ((s[k].toNat : Int) != 47) = true ∧ ((s[k].toNat : Int) != 63) = false) := by
                  rcases hend with e | ⟨h, e | e⟩
                  · exact .inl ⟨decide_eq_false (by omega), by omega⟩
                  · exact .inr (.inl ⟨h, by rw [e]; rfl⟩)
                  · exact .inr (.inr ⟨h, by rw [e]; decide, by rw [e]; rfl⟩)
                clear hgo hend H eA eB hBh
                obtain ⟨A, eA⟩ : ∃ A, A = s.extract 7 k := ⟨_, rfl⟩
                obtain ⟨B, eB⟩ : ∃ B, B = s.extract k s.size := ⟨_, rfl⟩
                rw [← eA, ← eB] at R0
                rw [← eA] at zA hcA
                rw [← eB] at zB
                have z1 := hostT_size A
                have z2 := digsT_size A
                have c1 := fun w => colonRef A zA w
                have c5 := fun w => hostRef (hostT A) (by omega) w
                have c6 := fun w => portRef (digsT A) (by omega) w
                have c7 := fun w => decodedRef B zB w
                have c8 := fun w => lowerRef (hostT A) w (by omega)
                have hk0 : (0 : Int) ≤ k := by omega
                have hk1 : (7 : Int) ≤ k := by omega
                have hk2 : (k : Int) ≤ s.size := by omega
                obtain ⟨HL, eHL⟩ : ∃ HL, HL = lows (hostT A).data.toList := ⟨_, rfl⟩
                rw [← eHL] at c8
                rcases tt with ⟨t1, hge⟩ | ⟨hlt, t1⟩ | ⟨hlt, t1, t2⟩
                rotate_left
                · have := hkind.out; have := ek.out; omega
                · have := hkind.out; have := ek.out; omega
                all_goals
                  clear ek hkind
                  cases hh : isHost (hostT A).data.toList with
                  | false =>
                    have R : Hid (parseP s.data.toList = (Tgt.none, 32)) := by unfold Hid; rw [R0, read_host A B hh]
                    simp only [hh] at c5
                    replace c5 := hide c5
                    clear c6 c7 c8 hh R0 eHL eB zB
                    by_cases hcol : A.data.toList.all noCol = true
                    · obtain ⟨e1, e2, e3⟩ := colon_no A hcol
                      simp only [e1] at c1
                      rw [e2] at c5
                      rw [eA] at c1 c5
                      replace c1 := hide c1
                      clear e1 e2 e3 hcol z1 z2 zA eA
                      go_wp2_with fail
                      refine (c1.out _).mono ?_
                      rintro e w9 ⟨rfl, rfl⟩
                      go_wp2_with fail
                      refine (c5.out _).mono ?_
                      rintro e w9 ⟨rfl, rfl⟩
                      obtain ⟨⟨x0, h0⟩, ⟨x1, h1⟩, ⟨x2, h2⟩, f0, f1, f2, hz⟩ := S1.out.1
                      go_wp2_with fail
                      obtain ⟨q0, q1, q2⟩ := tri_store S1.out.1 (.string ⟨#[]⟩) (.int .i64 0) (.string ⟨#[]⟩)
                      have qb := put3_below S1.out.2 (Nat.le_refl _) (.string ⟨#[]⟩) (.int .i64 0) (.string ⟨#[]⟩)
                      unfold put3 at q0 q1 q2 qb
                      exact bodyPost_ret (v := .tuple #[.agg #[(.string ⟨#[]⟩), (.int .i64 0), (.string ⟨#[]⟩)], .int .i64 32]) (by simp [results, Tryd.results7, go_sem, q0, q1, q2]) rfl ⟨by rw [R.out]; rfl, qb⟩
                    · exact absurd hcA.out hcol
                  | true =>
                    simp only [hh] at c5
                    replace c5 := hide c5
                    by_cases hcol : A.data.toList.all noCol = true
                    · obtain ⟨e1, e2, e3⟩ := colon_no A hcol
                      have R1 : Hid (parseP s.data.toList = readRest (hostT A).data.toList 80 (recode B.data.toList)) := by unfold Hid; rw [R0, read_rest A B hh 80 (by rw [e3]; rfl) (by decide)]
                      simp only [e1] at c1
                      rw [e2] at c5 c8
                      rw [eA] at c1 c5 c8
                      replace c1 := hide c1
                      replace c8 := hide c8
                      clear e1 e3 hcol z1 z2 zA c6 hh R0
                      go_wp2_with fail
                      refine (c1.out _).mono ?_
                      rintro e w9 ⟨rfl, rfl⟩
                      go_wp2_with fail
                      refine (c5.out _).mono ?_
                      rintro e w9 ⟨rfl, rfl⟩
                      clear c1 c5 e2 eA
                      cases hr : recode B.data.toList with
                      | none =>
                        have R : Hid (parseP s.data.toList = (Tgt.none, 30)) := by unfold Hid; rw [R1.out, hr]; rfl
                        simp only [hr, recV] at c7
                        rw [eB] at c7
                        replace c7 := hide c7
                        clear c8 hr R1 eB
                        go_wp2_with fail
                        refine (c7.out _).mono ?_
                        rintro e w4 ⟨rfl, b4⟩
                        have S4 := hide (sb_below S1.out b4)
                        clear b4
                        obtain ⟨⟨x0, h0⟩, ⟨x1, h1⟩, ⟨x2, h2⟩, f0, f1, f2, hz⟩ := S4.out.1
                        go_wp2_with fail
                        obtain ⟨q0, q1, q2⟩ := tri_store S4.out.1 (.string ⟨#[]⟩) (.int .i64 0) (.string ⟨#[]⟩)
                        have qb := put3_below S4.out.2 (Nat.le_refl _) (.string ⟨#[]⟩) (.int .i64 0) (.string ⟨#[]⟩)
                        unfold put3 at q0 q1 q2 qb
                        exact bodyPost_ret (v := .tuple #[.agg #[(.string ⟨#[]⟩), (.int .i64 0), (.string ⟨#[]⟩)], .int .i64 30]) (by simp [results, Tryd.results7, go_sem, q0, q1, q2]) rfl ⟨by rw [R.out]; rfl, qb⟩
                      | some r =>
                        obtain ⟨rb, er⟩ : ∃ rb : ByteArray, rb = ⟨r.toArray⟩ := ⟨_, rfl⟩
                        have erl : rb.data.toList = r := by rw [er]
                        have zr : rb.size ≤ 4096 := by rw [size_list, erl]; have := recode_len _ B.data.toList r (Nat.le_refl _) hr; rw [len_list] at this; omega
                        have R2 : Hid (parseP s.data.toList = (⟨HL, 80, normal rb.data.toList⟩, 0)) := by unfold Hid; rw [R1.out, hr, eHL, erl]; rfl
                        simp only [hr, recV] at c7
                        rw [← er] at c7
                        rw [eB] at c7
                        replace c7 := hide c7
                        clear hr R1 erl er eHL eB zB
                        go_wp2_with fail
                        refine (c7.out _).mono ?_
                        rintro e w4 ⟨rfl, b4⟩
                        have S4 := hide (sb_below S1.out b4)
                        clear b4 S1
                        go_wp2_with fail
                        go_loop [12] (fun i => ∃ c : Nat, c ≤ rb.size ∧ i = .int .i64 c ∧ Hid ((rb.data.toList.take c).all noAsk = true)) (fun i => rb.size - (intOf i).toNat)
                        case atStart => exact ⟨0, Nat.zero_le _, rfl, rfl⟩
                        case round =>
                          obtain ⟨c, hcs, rfl, Ha⟩ := hrel
                          by_cases hgo : ∃ h : c < rb.size, ¬ rb[c] = 63
                          · obtain ⟨hcl, hcn⟩ := hgo
                            have hbc := byte_lt rb[c]
                            have t1 : ((rb[c].toNat : Int) != 63) = true := by simp only [bne_iff_ne, ne_eq]; intro e; exact hcn (UInt8.toNat_inj.1 (by have : (63 : UInt8).toNat = 63 := rfl; omega))
                            have Ha2 : Hid ((rb.data.toList.take (c + 1)).all noAsk = true) := all_take noAsk rb c hcl Ha.out (decide_eq_true hcn)
                            clear hcn Ha
                            go_wp2_with fail
                            go_round
                            case rel => exact ⟨c + 1, by omega, by go_num, Ha2⟩
                            case measure => simp [intOf]; omega
                          · have hend : c = rb.size ∨ ∃ h : c < rb.size, rb[c] = 63 := by
                              by_cases h : c < rb.size
                              · exact .inr ⟨h, Classical.byContradiction fun e => hgo ⟨h, e⟩⟩
                              · exact .inl (by omega)
                            obtain ⟨l1, l2⟩ := ask_facts rb c hcs Ha.out hend
                            have tt : (decide ((c : Int) < (rb.size : Int)) = false ∧ rb.size ≤ c) ∨ (∃ h : c < rb.size, ((rb[c].toNat : Int) != 63) = false) := by
                              rcases hend with e | ⟨h, e⟩
                              · exact .inl ⟨decide_eq_false (by omega), by omega⟩
                              · exact .inr ⟨h, by rw [e]; rfl⟩
                            have z5 : (rb.extract 0 c).size ≤ 4096 := by rw [size_list, ext_to, List.length_take, len_list]; omega
                            have z6 : (rb.extract c rb.size).size ≤ 4096 := by rw [size_list, ext_from, List.length_drop, len_list]; omega
                            have cT := fun W => tidyRef (rb.extract 0 c) z5 W
                            rw [l1] at cT
                            have zN : (⟨(normPath (rb.data.toList.takeWhile noAsk)).toArray⟩ : ByteArray).size ≤ 4098 := by
                              rw [mk_size]
                              have h1 := kept_len ((rb.data.toList.takeWhile noAsk).drop 1)
                              have h2 : (normPath (rb.data.toList.takeWhile noAsk)).length = (shut (kept (pieces ((rb.data.toList.takeWhile noAsk).drop 1)))).length := rfl
                              have h3 := (List.takeWhile_sublist (l := rb.data.toList) noAsk).length_le
                              rw [len_list] at h3
                              rw [List.length_drop] at h1
                              omega
                            have R : Hid (parseP s.data.toList = (⟨HL, 80, ((⟨(normPath (rb.data.toList.takeWhile noAsk)).toArray⟩ : ByteArray) ++ rb.extract c rb.size).data.toList⟩, 0)) := by
                              unfold Hid
                              rw [R2.out]
                              have : ((⟨(normPath (rb.data.toList.takeWhile noAsk)).toArray⟩ : ByteArray) ++ rb.extract c rb.size).data.toList = normal rb.data.toList := by
                                rw [show ((⟨(normPath (rb.data.toList.takeWhile noAsk)).toArray⟩ : ByteArray) ++ rb.extract c rb.size).data.toList = normPath (rb.data.toList.takeWhile noAsk) ++ (rb.extract c rb.size).data.toList by simp [ByteArray.data_append], l2]; rfl
                              rw [this]
                            clear R2 l1 l2 hgo hend Ha
                            generalize (⟨(normPath (rb.data.toList.takeWhile noAsk)).toArray⟩ : ByteArray) = np at cT zN R
                            have a1 : ∀ W, (Op.stringOp .add np (rb.extract c rb.size)).run Tryd.prog W = .ok (.string (np ++ rb.extract c rb.size)) W := fun W => run_string_add_sum W _ _ (by omega)
                            have u0 : (0 : Int) ≤ c := by omega
                            have u1 : (c : Int) ≤ rb.size := by omega
                            replace cT := hide cT
                            rcases tt with ⟨t1, hge⟩ | ⟨hcl, t1⟩
                            all_goals
                              go_wp2_with fail
                              go_region_held3 (fun _ => True) (trivial)
                                (first
                                  | (go_at_call 20; refine (sb_call c8.out (by first | exact sb_drew S4.out | exact S4.out)).mono ?_; rintro e1 w6 ⟨rfl, S6, x0, x1, x2, k0, k1, k2, f0, f1, f2⟩)
                                  | (go_at_call 25; refine (sb_call cT.out (by first | exact S6.out | exact sb_drew S6.out)).mono ?_; rintro e2 w7 ⟨rfl, S7, y0, y1, y2, l0, l1, l2, g0, g1, g2⟩))
                              obtain ⟨q0, q1, q2⟩ := tri_store S7.out.1 (.string ⟨HL.toArray⟩) (.int .i64 80) (.string (np ++ rb.extract c rb.size))
                              have qb := put3_below S7.out.2 (Nat.le_refl _) (.string ⟨HL.toArray⟩) (.int .i64 80) (.string (np ++ rb.extract c rb.size))
                              unfold put3 at q0 q1 q2 qb
                              go_wp2_with fail
                              exact bodyPost_ret (v := .tuple #[.agg #[(.string ⟨HL.toArray⟩), (.int .i64 80), (.string (np ++ rb.extract c rb.size))], .int .i64 0]) (by simp [results, Tryd.results7, go_sem, q0, q1, q2]) rfl ⟨by rw [R.out, show ansV (⟨HL, 80, (np ++ rb.extract c rb.size).data.toList⟩, 0) = .tuple #[.agg #[.string ⟨HL.toArray⟩, .int .i64 80, .string ⟨(np ++ rb.extract c rb.size).data.toList.toArray⟩], .int .i64 0] from rfl, ba_eta], qb⟩
                    · exact absurd hcA.out hcol
          · have R : Hid (parseP s.data.toList = (Tgt.none, 31)) := parse_scheme s hl ha hm
            have hne : ¬ (⟨(lows (s.data.toList.take 7)).toArray⟩ : ByteArray) = ⟨http.toArray⟩ := by
              intro e
              apply hm
              have := congrArg (fun b : ByteArray => b.data.toList) e
              simpa using this
            have q1 := ne_lit hne
            have q2 := ne_list hne
            rw [show http = [104, 116, 116, 112, 58, 47, 47] from rfl] at q1
            rw [show (⟨http.toArray⟩ : ByteArray) = ⟨#[104, 116, 116, 112, 58, 47, 47]⟩ from rfl] at q2
            generalize (⟨(lows (s.data.toList.take 7)).toArray⟩ : ByteArray) = y at c2 q1 q2
            replace c2 := hide c2
            clear hm hne zt
            go_wp2_with fail
            refine (c2.out _).mono ?_
            rintro e w1 ⟨rfl, b1⟩
            have S1 := hide (sb_below S0.out b1)
            clear b1
            obtain ⟨⟨x0, h0⟩, ⟨x1, h1⟩, ⟨x2, h2⟩, f0, f1, f2, hz⟩ := S1.out.1
            go_wp2_with fail
            obtain ⟨q0, q1, q2⟩ := tri_store S1.out.1 (.string ⟨#[]⟩) (.int .i64 0) (.string ⟨#[]⟩)
            have qb := put3_below S1.out.2 (Nat.le_refl _) (.string ⟨#[]⟩) (.int .i64 0) (.string ⟨#[]⟩)
            unfold put3 at q0 q1 q2 qb
            exact bodyPost_ret (v := .tuple #[.agg #[(.string ⟨#[]⟩), (.int .i64 0), (.string ⟨#[]⟩)], .int .i64 31]) (by simp [results, Tryd.results7, go_sem, q0, q1, q2]) rfl ⟨by rw [R.out]; rfl, qb⟩
end Go.Proofs.YtaijnphodjdedaaDoor
