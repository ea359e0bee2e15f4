/- What is written is read, each beginning awaits more, one byte changed is told, what is read is written: plain. -/
import Derived.Test.YtijnjgnckipghaaGreatBw9
namespace Go.Proofs.YtijnjgnckipghaaGreat
theorem mid_eq {l : List UInt8} (x y z : List UInt8) {a b : Nat} (h : l = x ++ (y ++ z)) (ha : x.length = a) (hb : a + y.length = b) : midN l a b = y := by
  unfold midN
  rw [h, List.drop_left' ha, List.take_left' (by omega)]
theorem val_be2 (v : Nat) (h : v < 65536) : valN (beN 2 v) = v := by
  rw [valN_be, show (256 : Nat) ^ 2 = 65536 from rfl]; omega
theorem val_be4 (v : Nat) (h : v < 4294967296) : valN (beN 4 v) = v := by
  rw [valN_be, show (256 : Nat) ^ 4 = 4294967296 from rfl]; omega
theorem rec_split (op seq no : Nat) (id z : List UInt8) :
    recL op seq no id ++ z = UInt8.ofNat (192 + op) :: (beN 2 id.length ++ (beN 4 seq ++ (beN 4 no ++ (id ++ (beN 4 (sumOf (recB op seq no id)) ++ z))))) := by
  unfold recL
  conv => lhs; arg 1; arg 1; unfold recB
  simp [List.append_assoc]
theorem first_get (c : UInt8) (l : List UInt8) : (c :: l)[0]?.getD 0 = c := rfl
theorem take_body (op seq no : Nat) (id z : List UInt8) : (recL op seq no id ++ z).take (id.length + 11) = recB op seq no id := by
  unfold recL
  rw [List.append_assoc, List.take_left' (by rw [recB_len]; omega)]
/-- a record's bytes with whatever behind are read as the record -/
theorem dec_rec (op seq no : Nat) (id z : List UInt8) (ho : op = 1 ∨ op = 2) (hs : seq < 4294967296) (hn : no < 4294967296) (hi : id.length ≤ 4096) :
    decOf (recL op seq no id ++ z) = ⟨seq, op, no, id, id.length + 15, 0⟩ := by
  have hl : (recL op seq no id ++ z).length = 15 + id.length + z.length := by rw [List.length_append, recL_len]
  have e := rec_split op seq no id z
  have h0 : ((recL op seq no id ++ z)[0]?.getD 0).toNat = 192 + op := by rw [e, first_get, ofNat_mod]; omega
  have m1 : midN (recL op seq no id ++ z) 1 3 = beN 2 id.length :=
    mid_eq [UInt8.ofNat (192 + op)] _ (beN 4 seq ++ (beN 4 no ++ (id ++ (beN 4 (sumOf (recB op seq no id)) ++ z)))) (by rw [e]; rfl) rfl (by rw [beN_len])
  have m2 : midN (recL op seq no id ++ z) 3 7 = beN 4 seq :=
    mid_eq (UInt8.ofNat (192 + op) :: beN 2 id.length) _ (beN 4 no ++ (id ++ (beN 4 (sumOf (recB op seq no id)) ++ z))) (by rw [e]; simp) (by simp [beN_len]) (by rw [beN_len])
  have m3 : midN (recL op seq no id ++ z) 7 11 = beN 4 no :=
    mid_eq (UInt8.ofNat (192 + op) :: (beN 2 id.length ++ beN 4 seq)) _ (id ++ (beN 4 (sumOf (recB op seq no id)) ++ z)) (by rw [e]; simp [List.append_assoc]) (by simp [beN_len]) (by rw [beN_len])
  have m4 : midN (recL op seq no id ++ z) 11 (id.length + 11) = id :=
    mid_eq (UInt8.ofNat (192 + op) :: (beN 2 id.length ++ (beN 4 seq ++ beN 4 no))) _ (beN 4 (sumOf (recB op seq no id)) ++ z) (by rw [e]; simp [List.append_assoc]) (by simp [beN_len]) (by omega)
  have m5 : midN (recL op seq no id ++ z) (id.length + 11) (id.length + 15) = beN 4 (sumOf (recB op seq no id)) :=
    mid_eq (UInt8.ofNat (192 + op) :: (beN 2 id.length ++ (beN 4 seq ++ (beN 4 no ++ id)))) _ z (by rw [e]; simp [List.append_assoc]) (by simp [beN_len]; omega) (by rw [beN_len])
  have k1 : valN (beN 2 id.length) = id.length := val_be2 _ (by omega)
  have tb := take_body op seq no id z
  have sl := sumOf_lt (recB op seq no id)
  have k5 := val_be4 _ sl
  have k2 := val_be4 _ hs
  have k3 := val_be4 _ hn
  generalize recL op seq no id ++ z = L at *
  unfold decOf
  rw [if_neg (by omega), h0, if_neg (by omega), if_neg (by omega), m1, k1, if_neg (by omega), if_neg (by omega), m5, tb, k5, if_pos rfl, m2, m3, m4, k2, k3]
  rw [show 192 + op - 192 = op by omega]
/-- of each beginning of it more is awaited -/
theorem dec_cut (op seq no : Nat) (id : List UInt8) (ho : op = 1 ∨ op = 2) (hi : id.length ≤ 4096) (k : Nat) (hk : k < id.length + 15) :
    decOf ((recL op seq no id).take k) = decErr 0 := by
  have hl : ((recL op seq no id).take k).length = k := by rw [List.length_take, recL_len]; omega
  have e := rec_split op seq no id []
  rw [List.append_nil, List.append_nil] at e
  unfold decOf
  by_cases h0 : k = 0
  · rw [if_pos (by omega)]
  · have hf : (((recL op seq no id).take k)[0]?.getD 0).toNat = 192 + op := by
      rw [e, List.getElem?_take, if_pos (by omega), List.getElem?_cons_zero, Option.getD_some, ofNat_mod]; omega
    rw [if_neg (by omega), hf, if_neg (by omega)]
    by_cases h3 : k < 3
    · rw [if_pos (by omega)]
    · have m1 : midN ((recL op seq no id).take k) 1 3 = beN 2 id.length := by
        have hx : ((recL op seq no id).take k) = [UInt8.ofNat (192 + op)] ++ (beN 2 id.length ++ ((beN 4 seq ++ (beN 4 no ++ (id ++ beN 4 (sumOf (recB op seq no id))))).take (k - 3))) := by
          rw [e, List.take_cons (by omega), List.take_append, beN_len, List.take_of_length_le (l := beN 2 id.length) (by rw [beN_len]; omega), show k - 1 - 2 = k - 3 by omega]
          rfl
        exact mid_eq _ _ _ hx rfl (by rw [beN_len])
      have k1 : valN (beN 2 id.length) = id.length := val_be2 _ (by omega)
      rw [if_neg (by omega), m1, k1, if_neg (by omega), if_pos (by omega)]
theorem dec_zero (l : List UInt8) (h : (decOf l).n = 0) : decOf l = decErr (decOf l).e := by
  by_cases hz : (idEnd l).1 = 0
  · rw [dec_none l hz]; rfl
  · obtain ⟨_, _, _, _, e⟩ := dec_some l hz
    rw [e] at h ⊢
    split
    · rfl
    · split
      · rename_i h1 h2
        rw [if_neg h1, if_pos h2] at h
        simp at h
      · rfl
theorem dec_good (l : List UInt8) (h : (decOf l).n ≠ 0) : ∃ k, k = valN (midN l 1 3) ∧ k ≤ 4096 ∧ k + 15 ≤ l.length ∧ ((l[0]?.getD 0).toNat = 193 ∨ (l[0]?.getD 0).toNat = 194) ∧ valN (midN l (k + 11) (k + 15)) = sumOf (l.take (k + 11)) ∧
    decOf l = ⟨valN (midN l 3 7), (l[0]?.getD 0).toNat - 192, valN (midN l 7 11), midN l 11 (k + 11), k + 15, 0⟩ := by
  by_cases hz : (idEnd l).1 = 0
  · rw [dec_none l hz] at h; exact absurd rfl h
  · obtain ⟨_, ho, hk, _, e⟩ := dec_some l hz
    refine ⟨_, rfl, hk, ?_⟩
    by_cases h1 : l.length < valN (midN l 1 3) + 15
    · rw [e, if_pos h1] at h; exact absurd rfl h
    · by_cases h2 : valN (midN l (valN (midN l 1 3) + 11) (valN (midN l 1 3) + 15)) = sumOf (l.take (valN (midN l 1 3) + 11))
      · exact ⟨by omega, ho, h2, by rw [e, if_neg h1, if_pos h2]⟩
      · rw [e, if_neg h1, if_neg h2] at h; exact absurd rfl h
theorem val_inj {l m : List UInt8} (hl : l.length = m.length) (h : valN l = valN m) : l = m := by
  have a := beN_val l
  have b := beN_val m
  rw [h, hl] at a
  exact a.symm.trans b
theorem xor_ne (c t : UInt8) (ht : t ≠ 0) : c ^^^ t ≠ c := by
  intro h
  apply ht
  have e : (c ^^^ t).toNat = c.toNat := by rw [h]
  rw [UInt8.toNat_xor] at e
  have := xor_injl (a := t.toNat) (b := 0) (c := c.toNat) (by rw [e, Nat.xor_zero])
  exact UInt8.toNat_inj.1 this
theorem set_split (l : List UInt8) (i : Nat) (c : UInt8) (h : i < l.length) : l = l.take i ++ l[i] :: l.drop (i + 1) ∧ l.set i c = l.take i ++ c :: l.drop (i + 1) := by
  constructor
  · rw [List.getElem_cons_drop, List.take_append_drop]
  · rw [List.set_eq_take_append_cons_drop, if_pos h]
/-- a record of which one byte is another one is not read as a record of its length -/
theorem dec_tells (op seq no : Nat) (id : List UInt8) (i : Nat) (t : UInt8) (hi : i < (recL op seq no id).length) (ht : t ≠ 0) :
    (decOf ((recL op seq no id).set i ((recL op seq no id)[i] ^^^ t))).n ≠ id.length + 15 := by
  intro hn
  obtain ⟨k, hk, _, hkl, _, hs, hD⟩ := dec_good _ (by rw [hn]; omega)
  rw [hD] at hn
  have ek : k = id.length := by simpa using hn
  subst ek
  clear hk hD hn
  have hx := xor_ne ((recL op seq no id)[i]) t ht
  have lb := recB_len op seq no id
  have l4 := beN_len 4 (sumOf (recB op seq no id))
  generalize hc : (recL op seq no id)[i] ^^^ t = c at hs hx
  have hL : recL op seq no id = recB op seq no id ++ beN 4 (sumOf (recB op seq no id)) := rfl
  have hq : recL op seq no id = recL op seq no id := rfl
  by_cases h : i < id.length + 11
  · have hg : (recL op seq no id)[i] = (recB op seq no id)[i]'(by omega) := by
      simp only [hL]
      exact List.getElem_append_left (by omega)
    rw [hg] at hx
    have e1 : (recL op seq no id).set i c = (recB op seq no id).set i c ++ beN 4 (sumOf (recB op seq no id)) := by rw [hL, List.set_append_left _ _ (by omega)]
    rw [e1, List.take_left' (by rw [List.length_set]; omega)] at hs
    have e2 : midN ((recB op seq no id).set i c ++ beN 4 (sumOf (recB op seq no id))) (id.length + 11) (id.length + 15) = beN 4 (sumOf (recB op seq no id)) :=
      mid_eq _ _ [] (by rw [List.append_nil]) (by rw [List.length_set]; omega) (by omega)
    rw [e2, val_be4 _ (sumOf_lt _)] at hs
    obtain ⟨s1, s2⟩ := set_split (recB op seq no id) i c (by omega)
    rw [s2] at hs
    rw [show sumOf (recB op seq no id) = sumOf ((recB op seq no id).take i ++ (recB op seq no id)[i]'(by omega) :: (recB op seq no id).drop (i + 1)) from congrArg sumOf s1] at hs
    exact hx (sum_tells _ _ _ _ hs).symm
  · have hj : i - (id.length + 11) < 4 := by rw [recL_len] at hi; omega
    have hg : (recL op seq no id)[i] = (beN 4 (sumOf (recB op seq no id)))[i - (id.length + 11)]'(by omega) := by
      simp only [hL]
      rw [List.getElem_append_right (by omega)]
      congr 1
    rw [hg] at hx
    have e1 : (recL op seq no id).set i c = recB op seq no id ++ (beN 4 (sumOf (recB op seq no id))).set (i - (id.length + 11)) c := by
      rw [hL, List.set_append_right _ _ (by omega), lb, show i - (11 + id.length) = i - (id.length + 11) by omega]
    rw [e1, List.take_left' (by omega)] at hs
    have e2 : midN (recB op seq no id ++ (beN 4 (sumOf (recB op seq no id))).set (i - (id.length + 11)) c) (id.length + 11) (id.length + 15) = (beN 4 (sumOf (recB op seq no id))).set (i - (id.length + 11)) c :=
      mid_eq _ _ [] (by rw [List.append_nil]) (by omega) (by rw [List.length_set]; omega)
    rw [e2] at hs
    have hv := val_be4 _ (sumOf_lt (recB op seq no id))
    have e3 := val_inj (by rw [List.length_set]) (hs.trans hv.symm)
    have e4 := congrArg (fun l => l[i - (id.length + 11)]?) e3
    simp only [List.getElem?_set_self (show i - (id.length + 11) < (beN 4 (sumOf (recB op seq no id))).length by omega), List.getElem?_eq_getElem (show i - (id.length + 11) < (beN 4 (sumOf (recB op seq no id))).length by omega), Option.some.injEq] at e4
    exact hx e4
theorem mid_len {l : List UInt8} {a b : Nat} (h : a ≤ b) (hb : b ≤ l.length) : (midN l a b).length = b - a := by
  unfold midN; rw [List.length_take, List.length_drop]; omega
theorem take_mid (l : List UInt8) (a b : Nat) (h : a ≤ b) : l.take b = l.take a ++ midN l a b := by
  unfold midN
  conv => lhs; rw [show b = a + (b - a) by omega, List.take_add]
/-- what is read of any bytes is written as these bytes -/
theorem dec_plain (l : List UInt8) (h : (decOf l).n ≠ 0) :
    encOf (decOf l).seq (decOf l).op (decOf l).no (decOf l).id = (l.take (decOf l).n, 0) ∧ (decOf l).n ≤ l.length ∧ (decOf l).e = 0 := by
  obtain ⟨k, hk, hk2, hkl, ho, hs, hD⟩ := dec_good l h
  rw [hD]
  dsimp only
  have l1 := mid_len (l := l) (a := 1) (b := 3) (by omega) (by omega)
  have l2 := mid_len (l := l) (a := 3) (b := 7) (by omega) (by omega)
  have l3 := mid_len (l := l) (a := 7) (b := 11) (by omega) (by omega)
  have l4 := mid_len (l := l) (a := 11) (b := k + 11) (by omega) (by omega)
  have l5 := mid_len (l := l) (a := k + 11) (b := k + 15) (by omega) (by omega)
  have v2 := val4 (l := midN l 3 7) (by omega)
  have v3 := val4 (l := midN l 7 11) (by omega)
  have b1 : beN 2 k = midN l 1 3 := by have := beN_val (midN l 1 3); rw [l1, ← hk] at this; exact this
  have b2 : beN 4 (valN (midN l 3 7)) = midN l 3 7 := by have := beN_val (midN l 3 7); rw [l2] at this; exact this
  have b3 : beN 4 (valN (midN l 7 11)) = midN l 7 11 := by have := beN_val (midN l 7 11); rw [l3] at this; exact this
  have b5 : beN 4 (valN (midN l (k + 11) (k + 15))) = midN l (k + 11) (k + 15) := by have := beN_val (midN l (k + 11) (k + 15)); rw [l5, show k + 15 - (k + 11) = 4 by omega] at this; exact this
  have hlid : (midN l 11 (k + 11)).length = k := by omega
  have hbody : recB ((l[0]?.getD 0).toNat - 192) (valN (midN l 3 7)) (valN (midN l 7 11)) (midN l 11 (k + 11)) = l.take (k + 11) := by
    unfold recB
    rw [hlid, b1, b2, b3, take_mid l 11 (k + 11) (by omega), take_mid l 7 11 (by omega), take_mid l 3 7 (by omega), take_mid l 1 3 (by omega)]
    have h0 : l.take 1 = [UInt8.ofNat (192 + ((l[0]?.getD 0).toNat - 192))] := by
      cases l with
      | nil => simp at hkl
      | cons c r =>
        rw [first_get] at ho ⊢
        rw [List.take_succ_cons, List.take_zero]
        have hc : UInt8.ofNat (192 + (c.toNat - 192)) = c := by
          apply UInt8.toNat_inj.1
          generalize c.toNat = x at ho ⊢
          rw [ofNat_mod]
          omega
        rw [hc]
    rw [h0]
    simp [List.append_assoc]
  refine ⟨?_, hkl, rfl⟩
  rw [enc_ok (decide_eq_true (by omega)) (decide_eq_true (by omega)) (decide_eq_true (by omega)), hlid, if_pos hk2]
  simp only [Int.toNat_natCast]
  rw [recL, hbody, ← hs, b5, ← take_mid l (k + 11) (k + 15) (by omega)]
end Go.Proofs.YtijnjgnckipghaaGreat
