/- The contract of the document's Request. -/
import Derived.Test.YtmikgpmnffdnnabGreatDoorHdI
import Derived.Test.YtmikgpmnffdnnabGreatDoorBm
namespace Go.Proofs.YtmikgpmnffdnnabGreatDoor
open Go.RowKit
theorem word_part (l : List UInt8) (h : (word l).length < l.length) : l = word l ++ 32 :: past l := by
  have e := while_app2 noBl l
  unfold word at h
  unfold word past
  cases hd : l.dropWhile noBl with
  | nil => rw [hd, List.append_nil] at e; rw [e] at h; omega
  | cons c r =>
    have hc : noBl c = false := by
      have := List.head?_dropWhile_not noBl l
      rw [hd] at this
      simpa using this
    rw [hd] at e
    rw [(noBl_iff c).1 hc] at e
    exact e.symm
theorem word_full (l : List UInt8) (h : ¬ (word l).length < l.length) : past l = [] := by
  have e := congrArg List.length (while_app2 noBl l)
  rw [List.length_append] at e
  unfold word at h
  have : (l.dropWhile noBl).length = 0 := by omega
  unfold past
  rw [List.eq_nil_of_length_eq_zero this]; rfl
theorem lineQ_verM (l : List UInt8) (h1 : isTok (word l) = true) (h2 : goodT (word (past l)) = true) : lineQ l = if (verM (past (past l))).2 = 0 then (⟨word l, word (past l), (verM (past (past l))).1, []⟩, 0) else (Rq.zero, (verM (past (past l))).2) := by
  cases h3 : isVer (past (past l)) with
  | false => rw [lineQ_ver l h3]; unfold verM; rw [h3]; rfl
  | true =>
    rw [lineQ_all l h1 h2 h3]
    have e : verM (past (past l)) = minOf (past (past l)) := by unfold verM; rw [if_pos h3]
    rw [e]
    rcases min_facts (past (past l)) with ⟨m2, _⟩ | ⟨m2, m1⟩
    · rw [if_pos m2, if_pos m2]
    · rw [if_neg (by rw [m2]; decide), if_neg (by rw [m2]; decide), m2]
theorem verM_k (l : List UInt8) : (verM l).1 = 0 ∨ (verM l).1 = 1 := by
  unfold verM
  split
  · rcases min_facts l with ⟨_, h⟩ | ⟨_, h⟩
    · exact h
    · exact .inl h
  · exact .inl rfl
theorem ext_mid (s : ByteArray) (a b : Nat) : s.extract a b = ⟨((s.data.toList.drop a).take (b - a)).toArray⟩ := by
  rw [← extract_list s a b]
theorem cut_mid (s : ByteArray) (a b : Nat) (x y : Int) (hx : x = a) (hy : y = b) (h1 : a ≤ b) (h2 : b ≤ s.size) (w : World) :
    Sem.run Tryz.prog (Instr.slice 9 (.string s) (some (.int .i64 x)) (some (.int .i64 y)) none) w = .ok (.string (s.extract a b)) w := by
  subst hx hy
  rw [run_slice_string_if w 9 s .i64 .i64 a b Tryz.underlying9]
  simp [h1, h2]
set_option maxRecDepth 20000 in
set_option maxHeartbeats 4000000 in
theorem refReqNone (v : Value) (bs : List UInt8) (w : World) (hv : HoldsB w v bs) (hs : bs.length < 4294967281) (h0 : (endOf bs (leadOf bs)).1 = 0) :
    Calls Tryz.prog 22 #[v] w fun e w' => ∃ lv, e = .returned (reqV (reqOf bs) lv) ∧ OwnF w lv (reqOf bs).1.fs w' := by
  have b0 := below_alloc' w (.cells #[.string ⟨#[]⟩, .string ⟨#[]⟩, .int .i64 0, .slice none 0 0] 26)
  have Q0 := hide' (quad_lit w (.string ⟨#[]⟩) (.string ⟨#[]⟩) (.int .i64 0) (.slice none 0 0) 26)
  have B0 := hide' b0
  have HV := hide' (holdsB_mono hv b0)
  have hpl := lead_bound bs
  obtain ⟨ao, cap, rfl, hn0, hcp, _⟩ := hv
  have cE := hide' (endRef _ bs (leadOf bs) _ HV.out hpl hs)
  have CE : Hid (∀ {k : Nat}, k + 1 < bs.length → ∃ b off, ao = some ⟨b, off, none⟩ ∧ ∀ j (h : j < bs.length), (w.alloc (.cells #[.string ⟨#[]⟩, .string ⟨#[]⟩, .int .i64 0, .slice none 0 0] 26)).cell? ⟨b, off + j, none⟩ = some (B bs[j])) := by
    intro k hk
    obtain ⟨ao', cap', e, _, _, hc⟩ := HV.out
    simp only [Value.slice.injEq] at e
    obtain ⟨rfl, _, rfl⟩ := e
    obtain ⟨b, off, rfl, _, hcell⟩ := hc (fun e => by rw [e] at hk; simp at hk)
    exact ⟨b, off, rfl, hcell⟩
  have R := hide' (req_none bs h0)
  rw [R.out]
  have er := end_zero bs _ h0
  rw [h0] at cE
  generalize (endOf bs (leadOf bs)).2 = ee at cE er ⊢
  obtain ⟨n, hn⟩ : ∃ n, n = bs.length := ⟨_, rfl⟩
  have NN : Hid (bs.length = n) := hn.symm
  rw [← hn] at cE hs hpl hcp ⊢
  obtain ⟨p, hp⟩ : ∃ p, p = leadOf bs := ⟨_, rfl⟩
  have HPP := hide' hp
  rw [← hp] at cE hpl
  have key : (ee != 0) = true ∨ ee = 0 := by rcases er with h | h <;> simp [h]
  clear h0 R b0 hn HV hp er hn0
  rcases key with te | te
  · go_enter Tryz.func22, Tryz.ntmps22
    go_wp2_with fail
    go_loop [5] (fun iv => ∃ k : Nat, k ≤ n ∧ iv = .int .i64 k ∧ Hid (p = k + leadOf (bs.drop k))) (fun iv => n - (intOf iv).toNat)
    case atStart => exact ⟨0, by omega, rfl, by unfold Hid; rw [HPP.out, List.drop_zero, Nat.zero_add]⟩
    case round =>
      obtain ⟨k, hk, rfl, HK⟩ := hrel
      cases hpk : pairB (bs.drop k) with
      | true =>
        have hk1 : k + 1 < n := by
          rcases Nat.lt_or_ge (k + 1) n with h | h
          · exact h
          · rw [pair_end bs k (by rw [NN.out]; exact h)] at hpk; cases hpk
        have G0 : Hid (k < bs.length) := by unfold Hid; rw [NN.out]; omega
        have G1 : Hid (k + 1 < bs.length) := by unfold Hid; rw [NN.out]; omega
        have L := lead_yes _ hpk
        have HK2 : Hid (p = (k + 2) + leadOf (bs.drop (k + 2))) := by unfold Hid; rw [HK.out, L, List.drop_drop]; omega
        rw [pair_two bs k G0.out G1.out] at hpk
        simp only [Bool.and_eq_true] at hpk
        obtain ⟨p0, p1⟩ := hpk
        obtain ⟨b, off, hao, hcell⟩ := CE.out (k := k) (by rw [NN.out]; exact hk1)
        subst hao
        have ck0 : (w.alloc (.cells #[.string ⟨#[]⟩, .string ⟨#[]⟩, .int .i64 0, .slice none 0 0] 26)).cell? ⟨b, off + k, none⟩ = some (.int .u8 ((bs[k]'G0.out).toNat : Int)) := hcell k G0.out
        have ck1 : (w.alloc (.cells #[.string ⟨#[]⟩, .string ⟨#[]⟩, .int .i64 0, .slice none 0 0] 26)).cell? ⟨b, off + (k + 1), none⟩ = some (.int .u8 ((bs[k + 1]'G1.out).toNat : Int)) := hcell (k + 1) G1.out
        have b0 := byte_lt (bs[k]'G0.out)
        have b1 := byte_lt (bs[k + 1]'G1.out)
        have tk : decide ((k : Int) + 1 < (n : Int)) = true := decide_eq_true (by omega)
        generalize (bs[k]'G0.out).toNat = c0 at ck0 b0 p0
        generalize (bs[k + 1]'G1.out).toNat = c1 at ck1 b1 p1
        clear hcell L
        go_wp2_with fail
        go_round
        case rel => exact ⟨k + 2, by omega, by go_num, HK2⟩
        case measure => simp [intOf]; omega
      | false =>
        have hkp : k = p := by
          have L := lead_no _ hpk
          have := HK.out
          rw [L] at this
          omega
        subst hkp
        clear HK
        rcases Nat.lt_or_ge (k + 1) n with hk1 | hk1
        · have G0 : Hid (k < bs.length) := by unfold Hid; rw [NN.out]; omega
          have G1 : Hid (k + 1 < bs.length) := by unfold Hid; rw [NN.out]; omega
          rw [pair_two bs k G0.out G1.out] at hpk
          obtain ⟨b, off, hao, hcell⟩ := CE.out (k := k) (by rw [NN.out]; exact hk1)
          subst hao
          have ck0 : (w.alloc (.cells #[.string ⟨#[]⟩, .string ⟨#[]⟩, .int .i64 0, .slice none 0 0] 26)).cell? ⟨b, off + k, none⟩ = some (.int .u8 ((bs[k]'G0.out).toNat : Int)) := hcell k G0.out
          have ck1 : (w.alloc (.cells #[.string ⟨#[]⟩, .string ⟨#[]⟩, .int .i64 0, .slice none 0 0] 26)).cell? ⟨b, off + (k + 1), none⟩ = some (.int .u8 ((bs[k + 1]'G1.out).toNat : Int)) := hcell (k + 1) G1.out
          have b0 := byte_lt (bs[k]'G0.out)
          have b1 := byte_lt (bs[k + 1]'G1.out)
          have tk : decide ((k : Int) + 1 < (n : Int)) = true := decide_eq_true (by omega)
          generalize (bs[k]'G0.out).toNat = c0 at ck0 b0 hpk
          generalize (bs[k + 1]'G1.out).toNat = c1 at ck1 b1 hpk
          have HX : ((c0 : Int) == 13) = false ∨ (((c0 : Int) == 13) = true ∧ ((c1 : Int) == 10) = false) := by
            cases h : ((c0 : Int) == 13) with
            | false => exact .inl rfl
            | true => rw [h, Bool.true_and] at hpk; exact .inr ⟨rfl, hpk⟩
          clear hcell hpk
          rcases HX with q0 | ⟨q0, q1⟩
          all_goals
            (go_wp2_with fail
             refine cE.out.mono ?_
             rintro e w1 ⟨rfl, rfl⟩
             go_wp2_with fail
             exact bodyPost_ret (v := reqV (Rq.zero, 0, ee) (.slice none 0 0)) (by simp [results, Tryz.results22, go_sem, reqV, rqV, Rq.zero]) rfl ⟨_, rfl, ownF_nil _ _ B0.out⟩)

        · have tk : decide ((k : Int) + 1 < (n : Int)) = false := decide_eq_false (by omega)
          have HK1 := hide' hk1
          clear hk1 hpk
          (go_wp2_with fail
           refine cE.out.mono ?_
           rintro e w1 ⟨rfl, rfl⟩
           go_wp2_with fail
           exact bodyPost_ret (v := reqV (Rq.zero, 0, ee) (.slice none 0 0)) (by simp [results, Tryz.results22, go_sem, reqV, rqV, Rq.zero]) rfl ⟨_, rfl, ownF_nil _ _ B0.out⟩)
  · subst te
    go_enter Tryz.func22, Tryz.ntmps22
    go_wp2_with fail
    go_loop [5] (fun iv => ∃ k : Nat, k ≤ n ∧ iv = .int .i64 k ∧ Hid (p = k + leadOf (bs.drop k))) (fun iv => n - (intOf iv).toNat)
    case atStart => exact ⟨0, by omega, rfl, by unfold Hid; rw [HPP.out, List.drop_zero, Nat.zero_add]⟩
    case round =>
      obtain ⟨k, hk, rfl, HK⟩ := hrel
      cases hpk : pairB (bs.drop k) with
      | true =>
        have hk1 : k + 1 < n := by
          rcases Nat.lt_or_ge (k + 1) n with h | h
          · exact h
          · rw [pair_end bs k (by rw [NN.out]; exact h)] at hpk; cases hpk
        have G0 : Hid (k < bs.length) := by unfold Hid; rw [NN.out]; omega
        have G1 : Hid (k + 1 < bs.length) := by unfold Hid; rw [NN.out]; omega
        have L := lead_yes _ hpk
        have HK2 : Hid (p = (k + 2) + leadOf (bs.drop (k + 2))) := by unfold Hid; rw [HK.out, L, List.drop_drop]; omega
        rw [pair_two bs k G0.out G1.out] at hpk
        simp only [Bool.and_eq_true] at hpk
        obtain ⟨p0, p1⟩ := hpk
        obtain ⟨b, off, hao, hcell⟩ := CE.out (k := k) (by rw [NN.out]; exact hk1)
        subst hao
        have ck0 : (w.alloc (.cells #[.string ⟨#[]⟩, .string ⟨#[]⟩, .int .i64 0, .slice none 0 0] 26)).cell? ⟨b, off + k, none⟩ = some (.int .u8 ((bs[k]'G0.out).toNat : Int)) := hcell k G0.out
        have ck1 : (w.alloc (.cells #[.string ⟨#[]⟩, .string ⟨#[]⟩, .int .i64 0, .slice none 0 0] 26)).cell? ⟨b, off + (k + 1), none⟩ = some (.int .u8 ((bs[k + 1]'G1.out).toNat : Int)) := hcell (k + 1) G1.out
        have b0 := byte_lt (bs[k]'G0.out)
        have b1 := byte_lt (bs[k + 1]'G1.out)
        have tk : decide ((k : Int) + 1 < (n : Int)) = true := decide_eq_true (by omega)
        generalize (bs[k]'G0.out).toNat = c0 at ck0 b0 p0
        generalize (bs[k + 1]'G1.out).toNat = c1 at ck1 b1 p1
        clear hcell L
        go_wp2_with fail
        go_round
        case rel => exact ⟨k + 2, by omega, by go_num, HK2⟩
        case measure => simp [intOf]; omega
      | false =>
        have hkp : k = p := by
          have L := lead_no _ hpk
          have := HK.out
          rw [L] at this
          omega
        subst hkp
        clear HK
        rcases Nat.lt_or_ge (k + 1) n with hk1 | hk1
        · have G0 : Hid (k < bs.length) := by unfold Hid; rw [NN.out]; omega
          have G1 : Hid (k + 1 < bs.length) := by unfold Hid; rw [NN.out]; omega
          rw [pair_two bs k G0.out G1.out] at hpk
          obtain ⟨b, off, hao, hcell⟩ := CE.out (k := k) (by rw [NN.out]; exact hk1)
          subst hao
          have ck0 : (w.alloc (.cells #[.string ⟨#[]⟩, .string ⟨#[]⟩, .int .i64 0, .slice none 0 0] 26)).cell? ⟨b, off + k, none⟩ = some (.int .u8 ((bs[k]'G0.out).toNat : Int)) := hcell k G0.out
          have ck1 : (w.alloc (.cells #[.string ⟨#[]⟩, .string ⟨#[]⟩, .int .i64 0, .slice none 0 0] 26)).cell? ⟨b, off + (k + 1), none⟩ = some (.int .u8 ((bs[k + 1]'G1.out).toNat : Int)) := hcell (k + 1) G1.out
          have b0 := byte_lt (bs[k]'G0.out)
          have b1 := byte_lt (bs[k + 1]'G1.out)
          have tk : decide ((k : Int) + 1 < (n : Int)) = true := decide_eq_true (by omega)
          generalize (bs[k]'G0.out).toNat = c0 at ck0 b0 hpk
          generalize (bs[k + 1]'G1.out).toNat = c1 at ck1 b1 hpk
          have HX : ((c0 : Int) == 13) = false ∨ (((c0 : Int) == 13) = true ∧ ((c1 : Int) == 10) = false) := by
            cases h : ((c0 : Int) == 13) with
            | false => exact .inl rfl
            | true => rw [h, Bool.true_and] at hpk; exact .inr ⟨rfl, hpk⟩
          clear hcell hpk
          rcases HX with q0 | ⟨q0, q1⟩
          all_goals
            (go_wp2_with fail
             refine cE.out.mono ?_
             rintro e w1 ⟨rfl, rfl⟩
             go_wp2_with fail
             exact bodyPost_ret (v := reqV (Rq.zero, 0, 0) (.slice none 0 0)) (by simp [results, Tryz.results22, go_sem, reqV, rqV, Rq.zero]) rfl ⟨_, rfl, ownF_nil _ _ B0.out⟩)

        · have tk : decide ((k : Int) + 1 < (n : Int)) = false := decide_eq_false (by omega)
          have HK1 := hide' hk1
          clear hk1 hpk
          (go_wp2_with fail
           refine cE.out.mono ?_
           rintro e w1 ⟨rfl, rfl⟩
           go_wp2_with fail
           exact bodyPost_ret (v := reqV (Rq.zero, 0, 0) (.slice none 0 0)) (by simp [results, Tryz.results22, go_sem, reqV, rqV, Rq.zero]) rfl ⟨_, rfl, ownF_nil _ _ B0.out⟩)
end Go.Proofs.YtmikgpmnffdnnabGreatDoor
