/- The document's Request where there is a head. -/
import Derived.Test.YtmikgpmnffdnnabGreatDoorHdN
import Derived.RegionTactic
import Derived.ChangeAlike
namespace Go.Proofs.YtmikgpmnffdnnabGreatDoor
open Go.RowKit
set_option maxRecDepth 20000 in
set_option maxHeartbeats 40000000 in
theorem refReqSome (v : Value) (bs : List UInt8) (w : World) (hv : HoldsB w v bs) (hs : bs.length < 4294967281) (h0 : (endOf bs (leadOf bs)).1 ≠ 0) :
    Calls Tryz.prog 22 #[v] w fun e w' => ∃ lv, e = .returned (reqV (reqOf bs) lv) ∧ OwnF w lv (reqOf bs).1.fs w' := by
  have b0 := below_alloc' w (.cells #[.string ⟨#[]⟩, .string ⟨#[]⟩, .int .i64 0, .slice none 0 0] 26)
  have Q0 := hide' (quad_lit w (.string ⟨#[]⟩) (.string ⟨#[]⟩) (.int .i64 0) (.slice none 0 0) 26)
  have B0 := hide' b0
  have HV := hide' (holdsB_mono hv b0)
  have hpl := lead_bound bs
  obtain ⟨ao, cap, rfl, hn0, hcp, _⟩ := hv
  have cE := hide' (endRef _ bs (leadOf bs) _ HV.out hpl hs)
  have CE : Hid (∀ {k : Nat}, k + 1 < bs.length → ∃ b off, ao = some ⟨b, off, none⟩ ∧ ∀ j (h : j < bs.length), (w.alloc (.cells #[.string ⟨#[]⟩, .string ⟨#[]⟩, .int .i64 0, .slice none 0 0] 26)).cell? ⟨b, off + j, none⟩ = some (B bs[j])) := by
    intro k hk
    obtain ⟨ao', cap', e, _, _, hc⟩ := HV.out
    simp only [Value.slice.injEq] at e
    obtain ⟨rfl, _, rfl⟩ := e
    obtain ⟨b, off, rfl, _, hcell⟩ := hc (fun e => by rw [e] at hk; simp at hk)
    exact ⟨b, off, rfl, hcell⟩
  obtain ⟨i, hi, he, hc, hl⟩ := end_facts bs _ h0
  have R := req_some bs (leadOf bs + i + 4) (by omega) he
  rw [he] at cE
  simp only at cE
  obtain ⟨j, hj, hji, hhl⟩ := headH_index bs (leadOf bs) i hi hl
  have eh : headH bs (leadOf bs) (leadOf bs + i + 4) = (bs.drop (leadOf bs)).take (i + 2) := by
    unfold headH
    rw [List.drop_take]
    congr 1
    omega
  obtain ⟨b, off, hao, hcell0⟩ := CE.out (k := 0) (by omega)
  subst hao
  have CE2 := hide' hcell0
  clear CE hcell0
  have hne0 : ¬ cap = leadOf bs := by omega
  have HS' := holdsB_suf HV.out (leadOf bs) hpl
  rw [show Lib.fromV (some ⟨b, off, none⟩) bs.length cap (leadOf bs) = .slice (some ⟨b, off + leadOf bs, none⟩) (bs.length - leadOf bs) (cap - leadOf bs) from by unfold Lib.fromV; rw [if_neg hne0]; simp [Addr.add], ← List.length_drop] at HS'
  have HH := holdsB_pre HS' (i + 2) (by rw [List.length_drop]; omega)
  rw [← eh] at HH
  have EL : lineH (headH bs (leadOf bs) (leadOf bs + i + 4)) = (headH bs (leadOf bs) (leadOf bs + i + 4)).take j := by unfold lineH; rw [hj, Int.toNat_natCast]
  have EB : blkH (headH bs (leadOf bs) (leadOf bs + i + 4)) = (headH bs (leadOf bs) (leadOf bs + i + 4)).drop (j + 2) := by unfold blkH; rw [hj, Int.toNat_natCast]
  rw [EL, EB] at R
  generalize headH bs (leadOf bs) (leadOf bs + i + 4) = H at R HH hj hhl
  clear EL EB eh HS' hne0
  have cS := splitRef _ H j _ HH hj (by omega)
  have l1 : (H.take j).length ≤ bs.length := by rw [List.length_take]; omega
  have l2 : (H.drop (j + 2)).length ≤ bs.length := by rw [List.length_drop]; omega
  generalize H.take j = ln at R cS l1
  generalize H.drop (j + 2) = bk at R cS l2
  have s4 : ∀ W (e : Int), e = ((leadOf bs + i + 2 : Nat) : Int) → Sem.run Tryz.prog (Instr.slice 22 (.slice (some ⟨b, off, none⟩) bs.length cap) (some (.int .i64 ((leadOf bs : Nat) : Int))) (some (.int .i64 e)) none) W = .ok (.slice (some ⟨b, off + leadOf bs, none⟩) (i + 2) (cap - leadOf bs)) W := by
    intro W e he2
    have := cutp_at b off bs.length cap (leadOf bs) e (leadOf bs + i + 2) he2 (by omega) (by omega) (by omega) hcp W
    rwa [show leadOf bs + i + 2 - leadOf bs = i + 2 by omega] at this
  have hbk : bk.length < 4294967281 := by omega
  have ft := hide' (parse_fit bk hbk)
  have cF := hide' (fun W (bv : Value) (hb : HoldsB W bv bk) => parseRef bv bk W hb hbk)
  have fl := parse_len bk
  obtain ⟨lb, hlb⟩ : ∃ lb : ByteArray, lb = ⟨ln.toArray⟩ := ⟨_, rfl⟩
  have hln : lb.data.toList = ln := by rw [hlb]
  have hsz : lb.size = ln.length := by rw [hlb]; exact size_l ln
  rw [← hlb] at cS
  obtain ⟨N, hN⟩ : ∃ N, N = leadOf bs + i + 4 := ⟨_, rfl⟩
  rw [← hN] at cE R
  have s5 := fun W => s4 W ((N : Int) - 2) (by omega)
  have hNb : N ≤ 8192 := by omega
  have hp4 : Hid (leadOf bs + 4 ≤ bs.length) := by unfold Hid; omega
  have hN0 : ((N : Int) == 0) = false := by simp; omega
  obtain ⟨n, hn⟩ : ∃ n, n = bs.length := ⟨_, rfl⟩
  have NN : Hid (bs.length = n) := hn.symm
  rw [← hn] at cE hs hpl hcp s5 l1 hp4 ⊢
  obtain ⟨p, hp⟩ : ∃ p, p = leadOf bs := ⟨_, rfl⟩
  have HPP := hide' hp
  rw [← hp] at cE cS s5 hpl hp4
  have CS := hide' cS
  have cB1 : ∀ W, Calls Tryz.prog 39 #[.string lb, .int .i64 0] W fun e w' => e = .returned (.int .i64 (((word ln).length : Nat) : Int)) ∧ w' = W := by
    intro W
    have := blankRef lb 0 (Nat.zero_le _) (by omega) W
    rw [hln, List.drop_zero, Nat.zero_add] at this
    exact this
  have CB1 := hide' cB1
  have hA : (word ln).length ≤ lb.size := by rw [hsz]; exact word_len ln
  have FV := hide' (lineQ_ver ln)
  have FT := hide' (lineQ_tok ln)
  have FG := hide' (lineQ_tgt ln)
  have FAL := hide' (lineQ_verM ln)
  have HKK := hide' (verM_k (past (past ln)))
  generalize parseOf bk = f at R cF ft fl
  obtain ⟨fs, fe⟩ := f
  simp only at cF ft fl
  have RH := hide' R
  have HLN := hide' hln
  have HSZ := hide' hsz
  have hlbb : lb.size ≤ 4294967281 := by omega
  have hwb : (word ln).length ≤ 4294967281 := by omega
  clear h0 b0 hn HV hp hn0 hi he hc hl hhl HH hj s4 hN cS hji l1 l2 hbk cB1 R hln hsz hlb
  go_enter Tryz.func22, Tryz.ntmps22
  go_wp2_with fail
  go_loop [5] (fun iv => ∃ k : Nat, k ≤ n ∧ iv = .int .i64 k ∧ Hid (p = k + leadOf (bs.drop k))) (fun iv => n - (intOf iv).toNat)
  case atStart => exact ⟨0, by omega, rfl, by unfold Hid; rw [HPP.out, List.drop_zero, Nat.zero_add]⟩
  case round =>
    obtain ⟨k, hk, rfl, HK⟩ := hrel
    cases hpk : pairB (bs.drop k) with
    | true =>
      have hk1 : k + 1 < n := by
        rcases Nat.lt_or_ge (k + 1) n with h | h
        · exact h
        · rw [pair_end bs k (by rw [NN.out]; exact h)] at hpk; cases hpk
      have G0 : Hid (k < bs.length) := by unfold Hid; rw [NN.out]; omega
      have G1 : Hid (k + 1 < bs.length) := by unfold Hid; rw [NN.out]; omega
      have L := lead_yes _ hpk
      have HK2 : Hid (p = (k + 2) + leadOf (bs.drop (k + 2))) := by unfold Hid; rw [HK.out, L, List.drop_drop]; omega
      rw [pair_two bs k G0.out G1.out] at hpk
      simp only [Bool.and_eq_true] at hpk
      obtain ⟨p0, p1⟩ := hpk
      have hcell := CE2.out
      have ck0 : (w.alloc (.cells #[.string ⟨#[]⟩, .string ⟨#[]⟩, .int .i64 0, .slice none 0 0] 26)).cell? ⟨b, off + k, none⟩ = some (.int .u8 ((bs[k]'G0.out).toNat : Int)) := hcell k G0.out
      have ck1 : (w.alloc (.cells #[.string ⟨#[]⟩, .string ⟨#[]⟩, .int .i64 0, .slice none 0 0] 26)).cell? ⟨b, off + (k + 1), none⟩ = some (.int .u8 ((bs[k + 1]'G1.out).toNat : Int)) := hcell (k + 1) G1.out
      have b0 := byte_lt (bs[k]'G0.out)
      have b1 := byte_lt (bs[k + 1]'G1.out)
      have tk : decide ((k : Int) + 1 < (n : Int)) = true := decide_eq_true (by omega)
      generalize (bs[k]'G0.out).toNat = c0 at ck0 b0 p0
      generalize (bs[k + 1]'G1.out).toNat = c1 at ck1 b1 p1
      clear hcell L
      go_wp2_with fail
      go_round
      case rel => exact ⟨k + 2, by omega, by go_num, HK2⟩
      case measure => simp [intOf]; omega
    | false =>
      have hkp : k = p := by
        have L := lead_no _ hpk
        have := HK.out
        rw [L] at this
        omega
      subst hkp
      clear HK
      rcases Nat.lt_or_ge (k + 1) n with hk1 | hk1
      · have G0 : Hid (k < bs.length) := by unfold Hid; rw [NN.out]; omega
        have G1 : Hid (k + 1 < bs.length) := by unfold Hid; rw [NN.out]; omega
        rw [pair_two bs k G0.out G1.out] at hpk
        have hcell := CE2.out
        have ck0 : (w.alloc (.cells #[.string ⟨#[]⟩, .string ⟨#[]⟩, .int .i64 0, .slice none 0 0] 26)).cell? ⟨b, off + k, none⟩ = some (.int .u8 ((bs[k]'G0.out).toNat : Int)) := hcell k G0.out
        have ck1 : (w.alloc (.cells #[.string ⟨#[]⟩, .string ⟨#[]⟩, .int .i64 0, .slice none 0 0] 26)).cell? ⟨b, off + (k + 1), none⟩ = some (.int .u8 ((bs[k + 1]'G1.out).toNat : Int)) := hcell (k + 1) G1.out
        have b0 := byte_lt (bs[k]'G0.out)
        have b1 := byte_lt (bs[k + 1]'G1.out)
        have tk : decide ((k : Int) + 1 < (n : Int)) = true := decide_eq_true (by omega)
        generalize (bs[k]'G0.out).toNat = c0 at ck0 b0 hpk
        generalize (bs[k + 1]'G1.out).toNat = c1 at ck1 b1 hpk
        have HX : ((c0 : Int) == 13) = false ∨ (((c0 : Int) == 13) = true ∧ ((c1 : Int) == 10) = false) := by
          cases h : ((c0 : Int) == 13) with
          | false => exact .inl rfl
          | true => rw [h, Bool.true_and] at hpk; exact .inr ⟨rfl, hpk⟩
        clear hcell hpk
        rcases HX with q0 | ⟨q0, q1⟩
        all_goals
          (go_wp2_with fail
           refine cE.out.mono ?_
           rintro e w1 ⟨rfl, rfl⟩
           go_wp2_with fail
           refine CS.out.mono ?_
           rintro e w2 ⟨bv, rfl, hbv, b2⟩
           have B2 := hide' (bt' B0.out b2)
           have Q2 := hide' (quad_below Q0.out b2)
           have H2 := hide' hbv
           clear b2 hbv
           go_wp2_with fail
           refine (CB1.out _).mono ?_
           rintro e w3 ⟨rfl, rfl⟩
           clear cE CS CB1 CE2 ck0 ck1 tk G0 G1
           by_cases hA1 : (word ln).length < lb.size
           · have hwp := word_part ln (by rw [← HSZ.out]; exact hA1)
             have hlen := congrArg List.length hwp
             rw [List.length_append, List.length_cons, ← HSZ.out] at hlen
             have HLEN := hide' hlen
             have e1 : ln.take (word ln).length = word ln := while_take noBl ln
             have e2 : ln.drop ((word ln).length + 1) = past ln := while_drop noBl ln 1
             have cB2 : ∀ W, Calls Tryz.prog 39 #[.string lb, .int .i64 (((word ln).length : Int) + 1)] W fun e w' => e = .returned (.int .i64 (((word ln).length + 1 + (word (past ln)).length : Nat) : Int)) ∧ w' = W := by
               intro W
               have := blankRef lb ((word ln).length + 1) (by omega) (by omega) W
               rw [HLN.out, e2] at this
               exact this
             have CB2 := hide' cB2
             have sl1 : ∀ W, Sem.run Tryz.prog (Instr.slice 9 (.string lb) none (some (.int .i64 ((word ln).length : Int))) none) W = .ok (.string ⟨(word ln).toArray⟩) W := by
               intro W
               have := cut_to lb (word ln).length hA W
               rwa [HLN.out, e1] at this
             have tA : decide ((lb.size : Int) ≤ ((word ln).length : Int)) = false := decide_eq_false (by omega)
             have tA' : ¬ lb.size ≤ (word ln).length := by omega
             have E1' := hide' e1
             have E2' := hide' e2
             clear cB2 hwp hlen e1 e2
             go_wp2_with fail
             refine (CB2.out _).mono ?_
             rintro e w4 ⟨rfl, rfl⟩
             clear CB2
             by_cases hB1 : (word ln).length + 1 + (word (past ln)).length < lb.size
             · have hwp2 := word_part (past ln) (by have := HLEN.out; omega)
               have e3 : (ln.drop ((word ln).length + 1)).take ((word ln).length + 1 + (word (past ln)).length - ((word ln).length + 1)) = word (past ln) := by
                 rw [E2'.out, show (word ln).length + 1 + (word (past ln)).length - ((word ln).length + 1) = (word (past ln)).length by omega]
                 exact while_take noBl (past ln)
               have e4 : ln.drop ((word ln).length + 1 + (word (past ln)).length + 1) = past (past ln) := by
                 rw [show (word ln).length + 1 + (word (past ln)).length + 1 = (word ln).length + 1 + ((word (past ln)).length + 1) by omega, ← List.drop_drop, E2'.out]
                 exact while_drop noBl (past ln) 1
               have sl2 : ∀ W, Sem.run Tryz.prog (Instr.slice 9 (.string lb) (some (.int .i64 (((word ln).length : Int) + 1))) (some (.int .i64 (((word ln).length + 1 + (word (past ln)).length : Nat) : Int))) none) W = .ok (.string ⟨(word (past ln)).toArray⟩) W := by
                 intro W
                 have := cut_mid lb ((word ln).length + 1) ((word ln).length + 1 + (word (past ln)).length) (((word ln).length : Int) + 1) _ (by omega) rfl (by omega) (by omega) W
                 rwa [ext_mid, HLN.out, e3] at this
               have sl3 : ∀ W, Sem.run Tryz.prog (Instr.slice 9 (.string lb) (some (.int .i64 ((((word ln).length + 1 + (word (past ln)).length : Nat) : Int) + 1))) none none) W = .ok (.string ⟨(past (past ln)).toArray⟩) W := by
                 intro W
                 have := cut_from1 lb ((word ln).length + 1 + (word (past ln)).length) (by omega) W
                 rwa [HLN.out, e4] at this
               have tB : decide ((lb.size : Int) ≤ (((word ln).length + 1 + (word (past ln)).length : Nat) : Int)) = false := decide_eq_false (by omega)
               have k1 : ∀ W, Calls Tryz.prog 40 #[.string ⟨(word ln).toArray⟩] W fun e w' => e = .returned (.bool (isTok (word ln))) ∧ w' = W := fun W => tokenRef ⟨(word ln).toArray⟩ W (by rw [size_l]; omega)
               have k2 : ∀ W, Calls Tryz.prog 41 #[.string ⟨(word (past ln)).toArray⟩] W fun e w' => e = .returned (.bool (goodT (word (past ln)))) ∧ w' = W := fun W => visibleRef ⟨(word (past ln)).toArray⟩ (by rw [size_l]; omega) W
               have k3 : ∀ W, Calls Tryz.prog 42 #[.string ⟨(past (past ln)).toArray⟩] W fun e w' => e = .returned (.tuple #[.int .i64 (verM (past (past ln))).1, .int .i64 (verM (past (past ln))).2]) ∧ w' = W := fun W => versionRef ⟨(past (past ln)).toArray⟩ (by rw [size_l]; have := past_len (past ln); have := HLEN.out; omega) W
               have K1 := hide' k1
               have K2 := hide' k2
               have K3 := hide' k3
               clear k1 k2 k3 e3 e4 hwp2 HLEN E1' E2' FV HLN HSZ
               generalize lineQ ln = LQ at RH FT FG FAL
               generalize verM (past (past ln)) = vm at K3 FAL HKK
               obtain ⟨qk, qe⟩ := vm
               simp only at K3 FAL HKK
               generalize hBn : (word ln).length + 1 + (word (past ln)).length = Bn at sl2 sl3 tB hB1 ⊢
               have hBb : Bn < 4294967281 := by omega
               have hBs : ¬ lb.size ≤ Bn := by omega
               clear hBn
               generalize past (past ln) = pv at K3 sl3
               generalize word (past ln) = pt at K2 sl2 FG FAL
               generalize isTok (word ln) = it at K1 FT FAL
               generalize hAn : (word ln).length = A at hA sl1 sl2 tA tA' hA1 hwb ⊢
               generalize word ln = pm at K1 sl1 FAL
               clear hAn
               have hAb : A < 4294967281 := by omega
               go_wp2_with fail
               refine (K1.out _).mono ?_
               rintro e w4 ⟨rfl, rfl⟩
               cases it with
               | false =>
                 have R' : Hid (reqOf bs = (Rq.zero, 0, 50)) := by unfold Hid; rw [RH.out, FT.out rfl]; exact req_line (Rq.zero, 50) (fs, fe) N (by decide)
                 obtain ⟨h0, h1, h2, h3, e0, e1, e2, e3, hz⟩ := Q2.out
                 go_wp2_with fail
                 obtain ⟨q0', q1', q2', q3'⟩ := quad_store Q2.out (.string ⟨#[]⟩) (.string ⟨#[]⟩) (.int .i64 0) (.slice none 0 0)
                 have qb := put4_below B2.out (Nat.le_refl _) (.string ⟨#[]⟩) (.string ⟨#[]⟩) (.int .i64 0) (.slice none 0 0)
                 unfold put4 at q0' q1' q2' q3' qb
                 exact bodyPost_ret (v := reqV (Rq.zero, 0, 50) (.slice none 0 0)) (by simp [results, Tryz.results22, go_sem, q0', q1', q2', q3', reqV, rqV, Rq.zero]) rfl ⟨.slice none 0 0, by rw [R'.out], by rw [R'.out]; exact ownF_nil _ _ qb⟩
               | true =>
                 go_wp2_with fail
                 refine (K2.out _).mono ?_
                 rintro e w4 ⟨rfl, rfl⟩
                 cases hT : goodT pt with
                 | false =>
                   have R' : Hid (reqOf bs = (Rq.zero, 0, 50)) := by unfold Hid; rw [RH.out, FG.out hT]; exact req_line (Rq.zero, 50) (fs, fe) N (by decide)
                   clear hT
                   obtain ⟨h0, h1, h2, h3, e0, e1, e2, e3, hz⟩ := Q2.out
                   go_wp2_with fail
                   obtain ⟨q0', q1', q2', q3'⟩ := quad_store Q2.out (.string ⟨#[]⟩) (.string ⟨#[]⟩) (.int .i64 0) (.slice none 0 0)
                   have qb := put4_below B2.out (Nat.le_refl _) (.string ⟨#[]⟩) (.string ⟨#[]⟩) (.int .i64 0) (.slice none 0 0)
                   unfold put4 at q0' q1' q2' q3' qb
                   exact bodyPost_ret (v := reqV (Rq.zero, 0, 50) (.slice none 0 0)) (by simp [results, Tryz.results22, go_sem, q0', q1', q2', q3', reqV, rqV, Rq.zero]) rfl ⟨.slice none 0 0, by rw [R'.out], by rw [R'.out]; exact ownF_nil _ _ qb⟩
                 | true =>
                   have FA := hide' (FAL.out (by first | rfl | trivial) hT)
                   clear hT
                   go_wp2_with fail
                   refine (K3.out _).mono ?_
                   rintro e w4 ⟨rfl, rfl⟩
                   by_cases g0 : qe = 0
                   · subst g0
                     have RG : Hid (reqOf bs = reqG (⟨pm, pt, qk, []⟩, 0) (fs, fe) N) := by unfold Hid; rw [RH.out, FA.out, if_pos rfl]
                     go_wp2_with fail
                     refine (cF.out _ _ H2.out).mono ?_
                     rintro e w5 ⟨lv, rfl, ho⟩
                     obtain ⟨la, lc, lb', lo, hlv, _⟩ := holdsF_parts (holdsF_own ho)
                     subst hlv
                     have B5 := hide' (bt' B2.out ho.2)
                     have Q5 := hide' (quad_below Q2.out ho.2)
                     have R5 := hide' ho.1
                     have F5 := hide' (holdsF_own ho)
                     clear ho
                     by_cases g2 : fe = 0
                     · subst g2
                       have hfit := ft.out
                       obtain ⟨nh, hnh⟩ : ∃ nh, nh = hostsOf fs := ⟨_, rfl⟩
                       have HNH : Hid ((valsOf fs [104, 111, 115, 116]).length = nh) := by unfold Hid; rw [hnh]; unfold hostsOf; rw [← host_same]; rfl
                       have bad : Hid (hostBad fs qk = decide (1 < nh ∨ (nh = 0 ∧ qk = 1))) := by unfold Hid hostBad; rw [← hnh]
                       have hnl : nh ≤ 100 := by rw [hnh]; exact Nat.le_trans (vals_len _ _) fl
                       clear hnh
                       have cV := hide' (valuesRef _ fs hostL _ F5.out hfit (by decide) (by omega))
                       unfold hostL at cV
                       clear hfit
                       go_wp2_with fail
                       refine cV.out.mono ?_
                       rintro e w7 ⟨u, rfl, ho⟩
                       have B7 := hide' (bt' B5.out ho.2)
                       have Q7 := hide' (quad_below Q5.out ho.2)
                       have R7 := hide' (row_below R5.out ho.2)
                       obtain ⟨au, cu, bu, ou, hu, _⟩ := holds_parts (holds_own ho)
                       have hun : (valsOf fs [104, 111, 115, 116]).length = nh := HNH.out
                       rw [hun] at hu
                       subst hu
                       clear ho hun cV
                       obtain ⟨h0, h1, h2, h3, e0, e1, e2, e3, hz⟩ := Q7.out
                       by_cases n1 : 1 < nh
                       · have t1 : decide ((1 : Int) < (nh : Int)) = true := by simp; omega
                         have R' := hide' (RG.out.trans (req_hosts (⟨pm, pt, qk, []⟩, 0) (fs, 0) N rfl rfl (by rw [bad.out]; simp; omega)))
                         clear bad RG
                         go_wp2_with fail
                         obtain ⟨q0', q1', q2', q3'⟩ := quad_store Q7.out (.string ⟨#[]⟩) (.string ⟨#[]⟩) (.int .i64 0) (.slice none 0 0)
                         have qb := put4_below B7.out (Nat.le_refl _) (.string ⟨#[]⟩) (.string ⟨#[]⟩) (.int .i64 0) (.slice none 0 0)
                         unfold put4 at q0' q1' q2' q3' qb
                         exact bodyPost_ret (v := reqV (Rq.zero, 0, 40) (.slice none 0 0)) (by simp [results, Tryz.results22, go_sem, q0', q1', q2', q3', reqV, rqV, Rq.zero]) rfl ⟨.slice none 0 0, by rw [R'.out], by rw [R'.out]; exact ownF_nil _ _ qb⟩
                       · have t1 : decide ((1 : Int) < (nh : Int)) = false := by simp; omega
                         rcases HKK.out with hk0 | hk0
                         · have t3 : (qk == 1) = false := by rw [hk0]; decide
                           have R' := hide' (RG.out.trans (req_good (⟨pm, pt, qk, []⟩, 0) (fs, 0) N rfl rfl (by rw [bad.out]; simp; omega)))
                           clear bad RG hk0 n1
                           go_wp2_with fail
                           go_region
                           all_goals (
                             go_wp2_with fail
                             obtain ⟨q0', q1', q2', q3'⟩ := quad_store Q7.out (.string ⟨pm.toArray⟩) (.string ⟨pt.toArray⟩) (.int .i64 qk) (.slice la fs.length lc)
                             have qb := put4_below B7.out (Nat.le_refl _) (.string ⟨pm.toArray⟩) (.string ⟨pt.toArray⟩) (.int .i64 qk) (.slice la fs.length lc)
                             have qr := row_base (row_put (v0 := .string ⟨pm.toArray⟩) (v1 := .string ⟨pt.toArray⟩) (v2 := .int .i64 qk) (v3 := .slice la fs.length lc) R7.out (b := w.heap.size) (by have h := Q2.out.2.2.2.2.2.2.2.2; exact h)) B2.out.size
                             unfold put4 at q0' q1' q2' q3' qb qr
                             exact bodyPost_ret (v := reqV (⟨pm, pt, qk, fs⟩, N, 0) (.slice la fs.length lc)) (by simp [results, Tryz.results22, go_sem, q0', q1', q2', q3', reqV, rqV]) rfl ⟨.slice la fs.length lc, by rw [R'.out], by rw [R'.out]; exact ⟨row_below qr ((Below.refl _ _).drew), qb.drew⟩⟩)
                         · have t3 : (qk == 1) = true := by rw [hk0]; decide
                           by_cases n0 : nh = 0
                           · have t2 : ((nh : Int) == 0) = true := by rw [n0]; decide
                             have R' := hide' (RG.out.trans (req_hosts (⟨pm, pt, qk, []⟩, 0) (fs, 0) N rfl rfl (by rw [bad.out]; simp; omega)))
                             clear bad RG hk0 n0 n1
                             go_wp2_with fail
                             obtain ⟨q0', q1', q2', q3'⟩ := quad_store Q7.out (.string ⟨#[]⟩) (.string ⟨#[]⟩) (.int .i64 0) (.slice none 0 0)
                             have qb := put4_below B7.out (Nat.le_refl _) (.string ⟨#[]⟩) (.string ⟨#[]⟩) (.int .i64 0) (.slice none 0 0)
                             unfold put4 at q0' q1' q2' q3' qb
                             exact bodyPost_ret (v := reqV (Rq.zero, 0, 40) (.slice none 0 0)) (by simp [results, Tryz.results22, go_sem, q0', q1', q2', q3', reqV, rqV, Rq.zero]) rfl ⟨.slice none 0 0, by rw [R'.out], by rw [R'.out]; exact ownF_nil _ _ qb⟩
                           · have t2 : ((nh : Int) == 0) = false := by simp; omega
                             have R' := hide' (RG.out.trans (req_good (⟨pm, pt, qk, []⟩, 0) (fs, 0) N rfl rfl (by rw [bad.out]; simp; omega)))
                             clear bad RG hk0 n0 n1
                             go_wp2_with fail
                             go_region
                             all_goals (
                               go_wp2_with fail
                               obtain ⟨q0', q1', q2', q3'⟩ := quad_store Q7.out (.string ⟨pm.toArray⟩) (.string ⟨pt.toArray⟩) (.int .i64 qk) (.slice la fs.length lc)
                               have qb := put4_below B7.out (Nat.le_refl _) (.string ⟨pm.toArray⟩) (.string ⟨pt.toArray⟩) (.int .i64 qk) (.slice la fs.length lc)
                               have qr := row_base (row_put (v0 := .string ⟨pm.toArray⟩) (v1 := .string ⟨pt.toArray⟩) (v2 := .int .i64 qk) (v3 := .slice la fs.length lc) R7.out (b := w.heap.size) (by have h := Q2.out.2.2.2.2.2.2.2.2; exact h)) B2.out.size
                               unfold put4 at q0' q1' q2' q3' qb qr
                               exact bodyPost_ret (v := reqV (⟨pm, pt, qk, fs⟩, N, 0) (.slice la fs.length lc)) (by simp [results, Tryz.results22, go_sem, q0', q1', q2', q3', reqV, rqV]) rfl ⟨.slice la fs.length lc, by rw [R'.out], by rw [R'.out]; exact ⟨row_below qr ((Below.refl _ _).drew), qb.drew⟩⟩)
                     · have t2 : (fe != 0) = true := by simpa using g2
                       have R' := hide' (RG.out.trans (req_fields (⟨pm, pt, qk, []⟩, 0) (fs, fe) N rfl g2))
                       clear g2 RG
                       obtain ⟨h0, h1, h2, h3, e0, e1, e2, e3, hz⟩ := Q5.out
                       go_wp2_with fail
                       obtain ⟨q0', q1', q2', q3'⟩ := quad_store Q5.out (.string ⟨#[]⟩) (.string ⟨#[]⟩) (.int .i64 0) (.slice none 0 0)
                       have qb := put4_below B5.out (Nat.le_refl _) (.string ⟨#[]⟩) (.string ⟨#[]⟩) (.int .i64 0) (.slice none 0 0)
                       unfold put4 at q0' q1' q2' q3' qb
                       exact bodyPost_ret (v := reqV (Rq.zero, 0, fe) (.slice none 0 0)) (by simp [results, Tryz.results22, go_sem, q0', q1', q2', q3', reqV, rqV, Rq.zero]) rfl ⟨.slice none 0 0, by rw [R'.out], by rw [R'.out]; exact ownF_nil _ _ qb⟩
                   · have t2 : (qe != 0) = true := by simpa using g0
                     have R' : Hid (reqOf bs = (Rq.zero, 0, qe)) := by unfold Hid; rw [RH.out, FA.out, if_neg g0]; exact req_line (Rq.zero, qe) (fs, fe) N g0
                     clear g0
                     obtain ⟨h0, h1, h2, h3, e0, e1, e2, e3, hz⟩ := Q2.out
                     go_wp2_with fail
                     obtain ⟨q0', q1', q2', q3'⟩ := quad_store Q2.out (.string ⟨#[]⟩) (.string ⟨#[]⟩) (.int .i64 0) (.slice none 0 0)
                     have qb := put4_below B2.out (Nat.le_refl _) (.string ⟨#[]⟩) (.string ⟨#[]⟩) (.int .i64 0) (.slice none 0 0)
                     unfold put4 at q0' q1' q2' q3' qb
                     exact bodyPost_ret (v := reqV (Rq.zero, 0, qe) (.slice none 0 0)) (by simp [results, Tryz.results22, go_sem, q0', q1', q2', q3', reqV, rqV, Rq.zero]) rfl ⟨.slice none 0 0, by rw [R'.out], by rw [R'.out]; exact ownF_nil _ _ qb⟩
             · have hp2 : past (past ln) = [] := word_full (past ln) (by have := HLEN.out; omega)
               have R' : Hid (reqOf bs = (Rq.zero, 0, 50)) := by unfold Hid; rw [RH.out, FV.out (by rw [hp2]; rfl)]; exact req_line (Rq.zero, 50) (fs, fe) N (by decide)
               have tB : decide ((lb.size : Int) ≤ (((word ln).length + 1 + (word (past ln)).length : Nat) : Int)) = true := decide_eq_true (by omega)
               have hBs : lb.size ≤ (word ln).length + 1 + (word (past ln)).length := by omega
               have hBb : (word ln).length + 1 + (word (past ln)).length < 4294967400 := by have := word_len (past ln); have := HLEN.out; omega
               generalize (word ln).length + 1 + (word (past ln)).length = Bn at tB hB1 hBs hBb ⊢
               clear hp2 HLEN E1' E2' hB1
               generalize hAn : (word ln).length = A at hA sl1 tA tA' hA1 hwb ⊢
               generalize word ln = pm at sl1
               clear hAn
               have hAb : A < 4294967281 := by omega
               obtain ⟨h0, h1, h2, h3, e0, e1, e2, e3, hz⟩ := Q2.out
               go_wp2_with fail
               obtain ⟨q0', q1', q2', q3'⟩ := quad_store Q2.out (.string ⟨#[]⟩) (.string ⟨#[]⟩) (.int .i64 0) (.slice none 0 0)
               have qb := put4_below B2.out (Nat.le_refl _) (.string ⟨#[]⟩) (.string ⟨#[]⟩) (.int .i64 0) (.slice none 0 0)
               unfold put4 at q0' q1' q2' q3' qb
               exact bodyPost_ret (v := reqV (Rq.zero, 0, 50) (.slice none 0 0)) (by simp [results, Tryz.results22, go_sem, q0', q1', q2', q3', reqV, rqV, Rq.zero]) rfl ⟨.slice none 0 0, by rw [R'.out], by rw [R'.out]; exact ownF_nil _ _ qb⟩
           · have hp1 : past ln = [] := word_full ln (by rw [← HSZ.out]; exact hA1)
             have R' : Hid (reqOf bs = (Rq.zero, 0, 50)) := by unfold Hid; rw [RH.out, FV.out (by rw [hp1]; rfl)]; exact req_line (Rq.zero, 50) (fs, fe) N (by decide)
             have tA : decide ((lb.size : Int) ≤ ((word ln).length : Int)) = true := decide_eq_true (by omega)
             have tA' : lb.size ≤ (word ln).length := by omega
             clear hp1
             generalize (word ln).length = A at hA tA tA' hA1 hwb ⊢
             clear hA1
             obtain ⟨h0, h1, h2, h3, e0, e1, e2, e3, hz⟩ := Q2.out
             go_wp2_with fail
             obtain ⟨q0', q1', q2', q3'⟩ := quad_store Q2.out (.string ⟨#[]⟩) (.string ⟨#[]⟩) (.int .i64 0) (.slice none 0 0)
             have qb := put4_below B2.out (Nat.le_refl _) (.string ⟨#[]⟩) (.string ⟨#[]⟩) (.int .i64 0) (.slice none 0 0)
             unfold put4 at q0' q1' q2' q3' qb
             exact bodyPost_ret (v := reqV (Rq.zero, 0, 50) (.slice none 0 0)) (by simp [results, Tryz.results22, go_sem, q0', q1', q2', q3', reqV, rqV, Rq.zero]) rfl ⟨.slice none 0 0, by rw [R'.out], by rw [R'.out]; exact ownF_nil _ _ qb⟩)

      · exact absurd hp4.out (by omega)
theorem refReq (v : Value) (bs : List UInt8) (w : World) (hv : HoldsB w v bs) (hs : bs.length < 4294967281) :
    Calls Tryz.prog 22 #[v] w fun e w' => ∃ lv, e = .returned (reqV (reqOf bs) lv) ∧ OwnF w lv (reqOf bs).1.fs w' := by
  by_cases h0 : (endOf bs (leadOf bs)).1 = 0
  · exact refReqNone v bs w hv hs h0
  · exact refReqSome v bs w hv hs h0
end Go.Proofs.YtmikgpmnffdnnabGreatDoor
