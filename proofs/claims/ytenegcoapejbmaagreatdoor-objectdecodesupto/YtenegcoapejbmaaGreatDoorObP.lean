/- Entries in the document's words, plain: an entry's bytes, what is read of any bytes; that it is read as it was written, that no other bytes are read as it, that bytes which are cut, lengthened or changed at one byte are no entry's. Nothing of the program is named here. -/
import Derived.Test.YtenegcoapejbmaaGreatDoorBi
import Derived.Test.YtenegcoapejbmaaGreatDoorBf
namespace Go.Proofs.YtenegcoapejbmaaGreatDoor
/-- an entry -/
structure En where
  key : List UInt8
  vary : List UInt8
  r : Rs
  body : List UInt8
  a : Int
  g : Int
def En.zero : En := ⟨[], [], Rs.zero, [], 0, 0⟩
def goodTm (v : Int) : Bool := decide (0 ≤ v ∧ v ≤ 253402300799)
def withinL (e : En) : Bool := decide (1 ≤ e.key.length) && (decide (e.key.length ≤ 4096) && (decide (e.vary.length ≤ 4096) && (decide (e.body.length ≤ 65536) && (goodTm e.a && goodTm e.g))))
/-- a section -/
def secL (t : Nat) (d : List UInt8) : List UInt8 := UInt8.ofNat t :: (beN 4 d.length ++ d)
def objB (e : En) (h : List UInt8) : List UInt8 :=
  [67, 79, 49] ++ (secL 1 e.key ++ (secL 2 e.vary ++ (secL 3 h ++ (secL 4 e.body ++ secL 5 (beN 8 e.a.toNat ++ beN 8 e.g.toNat)))))
def objL (e : En) (h : List UInt8) : List UInt8 := objB e h ++ beN 4 (sumOf (objB e h))
def objOf (e : En) : List UInt8 × Int := if withinL e = true ∧ (prR e.r).2 = 0 then (objL e (prR e.r).1, 0) else ([], 120)
/-- one section's data, and what stands behind it -/
def secR (l : List UInt8) : Option (List UInt8 × List UInt8) :=
  if l.length < 5 then none
  else if l.length < 5 + valN (midN l 1 5) then none
  else some (midN l 5 (5 + valN (midN l 1 5)), l.drop (5 + valN (midN l 1 5)))
def secsN : Nat → List UInt8 → Option (List (List UInt8) × List UInt8)
  | 0, l => some ([], l)
  | k + 1, l => (secsN k l).bind fun p => (secR p.2).map fun q => (p.1 ++ [q.1], q.2)
/-- a number of eight bytes, as an int -/
def num8 (l : List UInt8) : Int := if valN l < 9223372036854775808 then (valN l : Int) else (valN l : Int) - 18446744073709551616
def entR (ds : List (List UInt8)) : Option En :=
  if (ds.getD 4 []).length = 16 ∧ (respOf (ds.getD 2 [])).2.2 = 0 then some ⟨ds.getD 0 [], ds.getD 1 [], (respOf (ds.getD 2 [])).1, ds.getD 3 [], num8 ((ds.getD 4 []).take 8), num8 ((ds.getD 4 []).drop 8)⟩ else none
def readE (l : List UInt8) : Option En := if l.length < 3 then none else (secsN 5 (l.drop 3)).bind fun p => entR p.1
def decEn (o : Option En) (l : List UInt8) : En × Int := match o with
  | none => (En.zero, 120)
  | some e => if objOf e = (l, 0) then (e, 0) else (En.zero, 120)
def decO (l : List UInt8) : En × Int := decEn (readE l) l
theorem secL_len (t : Nat) (d : List UInt8) : (secL t d).length = 5 + d.length := by simp [secL, beN_len]; omega
theorem objB_len (e : En) (h : List UInt8) : (objB e h).length = 44 + e.key.length + e.vary.length + h.length + e.body.length := by
  simp [objB, secL_len, beN_len]; omega
theorem objL_len (e : En) (h : List UInt8) : (objL e h).length = 48 + e.key.length + e.vary.length + h.length + e.body.length := by
  rw [objL, List.length_append, objB_len, beN_len]; omega
theorem within_facts {e : En} (h : withinL e = true) : 1 ≤ e.key.length ∧ e.key.length ≤ 4096 ∧ e.vary.length ≤ 4096 ∧ e.body.length ≤ 65536 ∧ (0 ≤ e.a ∧ e.a ≤ 253402300799) ∧ (0 ≤ e.g ∧ e.g ≤ 253402300799) := by
  unfold withinL goodTm at h
  simp only [Bool.and_eq_true, decide_eq_true_eq] at h
  exact ⟨h.1, h.2.1, h.2.2.1, h.2.2.2.1, h.2.2.2.2.1, h.2.2.2.2.2⟩
theorem obj_ok {e : En} {w : List UInt8} (h : objOf e = (w, 0)) : withinL e = true ∧ prR e.r = ((prR e.r).1, 0) ∧ w = objL e (prR e.r).1 := by
  unfold objOf at h
  by_cases g : withinL e = true ∧ (prR e.r).2 = 0
  · rw [if_pos g] at h
    exact ⟨g.1, Prod.ext rfl g.2, (Prod.mk.inj h).1.symm⟩
  · rw [if_neg g] at h
    cases h
theorem obj_bad {e : En} (h : (objOf e).2 ≠ 0) : objOf e = ([], 120) := by
  unfold objOf at h ⊢
  split
  · rename_i g; rw [if_pos g] at h; exact absurd rfl h
  · rfl
theorem obj_two (e : En) : (objOf e).2 = 0 ∨ objOf e = ([], 120) := by
  by_cases h : (objOf e).2 = 0
  · exact .inl h
  · exact .inr (obj_bad h)
theorem obj_len {e : En} {w : List UInt8} (h : objOf e = (w, 0)) : 53 ≤ w.length ∧ w.length ≤ 81968 := by
  obtain ⟨h1, h2, rfl⟩ := obj_ok h
  have h3 := within_facts h1
  have h4 := prR_pos e.r _ h2
  rw [objL_len]
  omega
theorem obj_first {e : En} {w : List UInt8} (h : objOf e = (w, 0)) : w.take 3 = [67, 79, 49] := by
  obtain ⟨h1, h2, rfl⟩ := obj_ok h
  unfold objL objB
  rw [List.append_assoc]
  rfl
theorem secR_app {l d r : List UInt8} (m : List UInt8) (h : secR l = some (d, r)) : secR (l ++ m) = some (d, r ++ m) := by
  unfold secR at h ⊢
  by_cases h1 : l.length < 5
  · rw [if_pos h1] at h; cases h
  · rw [if_neg h1] at h
    have em : midN (l ++ m) 1 5 = midN l 1 5 := by
      unfold midN
      rw [List.drop_append_of_le_length (by omega), List.take_append_of_le_length (by rw [List.length_drop]; omega)]
    rw [if_neg (by rw [List.length_append]; omega), em]
    by_cases h2 : l.length < 5 + valN (midN l 1 5)
    · rw [if_pos h2] at h; cases h
    · rw [if_neg h2] at h
      rw [if_neg (by rw [List.length_append]; omega)]
      obtain ⟨rfl, rfl⟩ := Prod.mk.inj (Option.some.inj h)
      generalize valN (midN l 1 5) = n at *
      unfold midN
      rw [List.drop_append_of_le_length (by omega), List.drop_append_of_le_length (by omega), List.take_append_of_le_length (by rw [List.length_drop]; omega)]
theorem secsN_app (k : Nat) {l : List UInt8} {ds : List (List UInt8)} {r : List UInt8} (m : List UInt8) (h : secsN k l = some (ds, r)) : secsN k (l ++ m) = some (ds, r ++ m) := by
  induction k generalizing ds r with
  | zero =>
    obtain ⟨rfl, rfl⟩ := Prod.mk.inj (Option.some.inj h)
    rfl
  | succ k ih =>
    unfold secsN at h ⊢
    cases h1 : secsN k l with
    | none => rw [h1] at h; cases h
    | some p =>
      obtain ⟨ds1, r1⟩ := p
      rw [h1] at h
      rw [ih h1]
      simp only [Option.bind_some] at h ⊢
      cases h2 : secR r1 with
      | none => rw [h2] at h; cases h
      | some q =>
        obtain ⟨d, r2⟩ := q
        rw [h2] at h
        rw [secR_app m h2]
        simp only [Option.map_some, Option.some.injEq, Prod.mk.injEq] at h ⊢
        exact ⟨h.1, by rw [h.2]⟩
theorem readE_app {l : List UInt8} {e : En} (m : List UInt8) (h : readE l = some e) : readE (l ++ m) = some e := by
  unfold readE at h ⊢
  by_cases h1 : l.length < 3
  · rw [if_pos h1] at h; cases h
  · rw [if_neg h1] at h
    rw [if_neg (by rw [List.length_append]; omega), List.drop_append_of_le_length (by omega)]
    cases h2 : secsN 5 (l.drop 3) with
    | none => rw [h2] at h; cases h
    | some p =>
      obtain ⟨ds, r⟩ := p
      rw [h2] at h
      rw [secsN_app 5 m h2]
      exact h
theorem val_be4' (v : Nat) (h : v < 4294967296) : valN (beN 4 v) = v := by
  rw [valN_be, show (256 : Nat) ^ 4 = 4294967296 from rfl]; omega
theorem secR_sec (t : Nat) (d m : List UInt8) (hd : d.length < 4294967296) : secR (secL t d ++ m) = some (d, m) := by
  have hl : (secL t d ++ m).length = 5 + d.length + m.length := by rw [List.length_append, secL_len]
  have e1 : midN (secL t d ++ m) 1 5 = beN 4 d.length := by
    unfold midN secL
    rw [List.cons_append, List.drop_succ_cons, List.drop_zero, List.append_assoc]
    exact List.take_left' (beN_len _ _)
  have e2 : (secL t d ++ m).drop 5 = d ++ m := by
    unfold secL
    rw [List.cons_append, List.drop_succ_cons, List.append_assoc]
    exact List.drop_left' (beN_len _ _)
  unfold secR
  rw [e1, val_be4' _ hd, if_neg (by omega), if_neg (by omega)]
  unfold midN
  rw [← List.drop_drop, e2, show 5 + d.length - 5 = d.length by omega, List.take_left' rfl, List.drop_left' rfl]
theorem secsN_step {k : Nat} {l : List UInt8} {ds : List (List UInt8)} {r d r' : List UInt8} (h : secsN k l = some (ds, r)) (h2 : secR r = some (d, r')) : secsN (k + 1) l = some (ds ++ [d], r') := by
  unfold secsN
  rw [h]
  simp only [Option.bind_some]
  rw [h2]
  rfl
theorem secsN_stop {k : Nat} {l : List UInt8} {ds : List (List UInt8)} {r : List UInt8} (h : secsN k l = some (ds, r)) (h2 : secR r = none) (j : Nat) (hj : k < j) : secsN j l = none := by
  obtain ⟨i, rfl⟩ : ∃ i, j = k + 1 + i := ⟨j - (k + 1), by omega⟩
  induction i with
  | zero =>
    show (secsN k l).bind _ = none
    rw [h]
    simp only [Option.bind_some]
    rw [h2]
    rfl
  | succ i ih =>
    show (secsN (k + 1 + i) l).bind _ = none
    rw [ih (by omega)]
    rfl
theorem secsN_len (k : Nat) {l : List UInt8} {ds : List (List UInt8)} {r : List UInt8} (h : secsN k l = some (ds, r)) : ds.length = k := by
  induction k generalizing ds r with
  | zero =>
    obtain ⟨rfl, rfl⟩ := Prod.mk.inj (Option.some.inj h)
    rfl
  | succ k ih =>
    unfold secsN at h
    cases h1 : secsN k l with
    | none => rw [h1] at h; cases h
    | some p =>
      obtain ⟨ds1, r1⟩ := p
      rw [h1] at h
      simp only [Option.bind_some] at h
      cases h2 : secR r1 with
      | none => rw [h2] at h; cases h
      | some q =>
        rw [h2] at h
        simp only [Option.map_some, Option.some.injEq, Prod.mk.injEq] at h
        rw [← h.1, List.length_append, ih h1]
        rfl
theorem num8_be (v : Nat) (h : v < 9223372036854775808) : num8 (beN 8 v) = (v : Int) := by
  have e : valN (beN 8 v) = v := by rw [valN_be, show (256 : Nat) ^ 8 = 18446744073709551616 from rfl]; omega
  unfold num8
  rw [e, if_pos h]
theorem read_obj (e : En) (m : List UInt8) (h1 : withinL e = true) (h2 : prR e.r = ((prR e.r).1, 0)) : readE (objL e (prR e.r).1 ++ m) = some e := by
  have hw := within_facts h1
  have hp := prR_pos e.r _ h2
  have hr := resp_round e.r _ [] h2
  rw [List.append_nil] at hr
  have hlen := objL_len e (prR e.r).1
  generalize hh : (prR e.r).1 = hd at *
  have ed : (objL e hd ++ m).drop 3 = secL 1 e.key ++ (secL 2 e.vary ++ (secL 3 hd ++ (secL 4 e.body ++ (secL 5 (beN 8 e.a.toNat ++ beN 8 e.g.toNat) ++ (beN 4 (sumOf (objB e hd)) ++ m))))) := by
    have : objL e hd ++ m = [67, 79, 49] ++ (secL 1 e.key ++ (secL 2 e.vary ++ (secL 3 hd ++ (secL 4 e.body ++ (secL 5 (beN 8 e.a.toNat ++ beN 8 e.g.toNat) ++ (beN 4 (sumOf (objB e hd)) ++ m)))))) := by
      unfold objL
      conv => lhs; arg 1; arg 1; unfold objB
      simp only [List.append_assoc]
    rw [this]
    rfl
  have hT : (beN 8 e.a.toNat ++ beN 8 e.g.toNat).length = 16 := by rw [List.length_append, beN_len, beN_len]
  have s0 : secsN 0 ((objL e hd ++ m).drop 3) = some ([], _) := rfl
  rw [ed] at s0
  have s1 := secsN_step s0 (secR_sec 1 e.key _ (by omega))
  have s2 := secsN_step s1 (secR_sec 2 e.vary _ (by omega))
  have s3 := secsN_step s2 (secR_sec 3 hd _ (by omega))
  have s4 := secsN_step s3 (secR_sec 4 e.body _ (by omega))
  have s5 := secsN_step s4 (secR_sec 5 _ _ (by omega))
  unfold readE
  rw [if_neg (by rw [List.length_append]; omega), ed, s5]
  show entR [e.key, e.vary, hd, e.body, beN 8 e.a.toNat ++ beN 8 e.g.toNat] = _
  unfold entR
  show (if (beN 8 e.a.toNat ++ beN 8 e.g.toNat).length = 16 ∧ (respOf hd).2.2 = 0 then some (⟨e.key, e.vary, (respOf hd).1, e.body, num8 ((beN 8 e.a.toNat ++ beN 8 e.g.toNat).take 8), num8 ((beN 8 e.a.toNat ++ beN 8 e.g.toNat).drop 8)⟩ : En) else none) = _
  rw [hr, if_pos ⟨hT, rfl⟩, List.take_left' (beN_len _ _), List.drop_left' (beN_len _ _), num8_be _ (by omega), num8_be _ (by omega), Int.toNat_of_nonneg (by omega), Int.toNat_of_nonneg (by omega)]
/-- what is written is read as it was -/
theorem dec_obj {e : En} {w : List UInt8} (h : objOf e = (w, 0)) : decO w = (e, 0) := by
  obtain ⟨h1, h2, h3⟩ := obj_ok h
  have hr := read_obj e [] h1 h2
  rw [List.append_nil, ← h3] at hr
  unfold decO
  rw [hr]
  exact if_pos h
/-- what is read is written as these bytes -/
theorem dec_ok {l : List UInt8} {e : En} (h : decO l = (e, 0)) : objOf e = (l, 0) := by
  unfold decO decEn at h
  split at h
  · cases h
  · split at h
    · obtain ⟨rfl, _⟩ := Prod.mk.inj h
      assumption
    · cases h
theorem dec_two (l : List UInt8) : (decO l).2 = 0 ∨ decO l = (En.zero, 120) := by
  unfold decO decEn
  split
  · exact .inr rfl
  · split
    · exact .inl rfl
    · exact .inr rfl
theorem dec_ok' {l : List UInt8} (h : (decO l).2 = 0) : objOf (decO l).1 = (l, 0) := dec_ok (Prod.ext rfl h)
theorem dec_long {l : List UInt8} (h : l.length < 53 ∨ 81968 < l.length) : decO l = (En.zero, 120) := by
  rcases dec_two l with g | g
  · have := obj_len (dec_ok' g); omega
  · exact g
/-- with more behind, or cut, it is none -/
theorem dec_more {e : En} {w m : List UInt8} (h : objOf e = (w, 0)) (hm : m ≠ []) : decO (w ++ m) = (En.zero, 120) := by
  obtain ⟨h1, h2, h3⟩ := obj_ok h
  have hr := read_obj e m h1 h2
  rw [← h3] at hr
  unfold decO
  rw [hr]
  refine if_neg ?_
  intro g
  rw [h] at g
  have := (Prod.mk.inj g).1
  exact hm (by simpa using this.symm)
theorem dec_less {e : En} {w : List UInt8} (h : objOf e = (w, 0)) (k : Nat) (hk : k < w.length) : decO (w.take k) = (En.zero, 120) := by
  obtain ⟨h1, h2, h3⟩ := obj_ok h
  have hr := read_obj e [] h1 h2
  rw [List.append_nil, ← h3] at hr
  unfold decO
  cases h4 : readE (w.take k) with
  | none => rfl
  | some f =>
    have h5 := readE_app (w.drop k) h4
    rw [List.take_append_drop, hr] at h5
    obtain rfl := Option.some.inj h5
    refine if_neg ?_
    intro g
    rw [h] at g
    have := congrArg List.length (Prod.mk.inj g).1
    rw [List.length_take] at this
    omega
theorem val_inj' {l m : List UInt8} (hl : l.length = m.length) (h : valN l = valN m) : l = m := by
  have a := beN_val l
  have b := beN_val m
  rw [h, hl] at a
  exact a.symm.trans b
theorem xor_ne' (c t : UInt8) (ht : t ≠ 0) : c ^^^ t ≠ c := by
  intro h
  apply ht
  have e : (c ^^^ t).toNat = c.toNat := by rw [h]
  rw [UInt8.toNat_xor] at e
  have := xor_injl (a := t.toNat) (b := 0) (c := c.toNat) (by rw [e, Nat.xor_zero])
  exact UInt8.toNat_inj.1 this
/-- summed rows of one length that part at one byte alone are none -/
theorem sums_tell (a b : List UInt8) (i : Nat) (c : UInt8) (hi : i < (a ++ beN 4 (sumOf a)).length) (h : (a ++ beN 4 (sumOf a)).set i c = b ++ beN 4 (sumOf b)) : c = (a ++ beN 4 (sumOf a))[i] := by
  have hl := congrArg List.length h
  rw [List.length_set, List.length_append, List.length_append, beN_len, beN_len] at hl
  have hab : a.length = b.length := by omega
  rw [List.length_append, beN_len] at hi
  by_cases hia : i < a.length
  · rw [List.set_append_left _ _ hia] at h
    obtain ⟨e1, e2⟩ := List.append_inj h (by rw [List.length_set]; exact hab)
    have e3 : sumOf a = sumOf b := by
      have := congrArg valN e2
      rw [val_be4' _ (sumOf_lt _), val_be4' _ (sumOf_lt _)] at this
      exact this
    rw [← e1, List.set_eq_take_append_cons_drop, if_pos hia] at e3
    have e4 : a = a.take i ++ a[i] :: a.drop (i + 1) := by rw [List.getElem_cons_drop, List.take_append_drop]
    rw [show sumOf a = sumOf (a.take i ++ a[i] :: a.drop (i + 1)) from congrArg sumOf e4] at e3
    rw [List.getElem_append_left hia]
    exact (sum_tells _ _ _ _ e3).symm
  · rw [List.set_append_right _ _ (by omega)] at h
    obtain ⟨e1, e2⟩ := List.append_inj h hab
    subst e1
    have e3 : ((beN 4 (sumOf a)).set (i - a.length) c)[i - a.length]? = (beN 4 (sumOf a))[i - a.length]? := by rw [e2]
    rw [List.getElem?_set_self (by rw [beN_len]; omega), List.getElem?_eq_getElem (by rw [beN_len]; omega)] at e3
    rw [List.getElem_append_right (by omega)]
    exact Option.some.inj e3
theorem dec_turn {e : En} {w : List UInt8} (h : objOf e = (w, 0)) (i : Nat) (hi : i < w.length) (t : UInt8) (ht : t ≠ 0) : decO (w.set i (w[i] ^^^ t)) = (En.zero, 120) := by
  rcases dec_two (w.set i (w[i] ^^^ t)) with g | g
  · exfalso
    obtain ⟨-, -, h3⟩ := obj_ok h
    obtain ⟨-, -, h4⟩ := obj_ok (dec_ok' g)
    have hx := xor_ne' w[i] t ht
    generalize w[i] ^^^ t = c at hx h4
    generalize hf : (decO (w.set i c)).1 = f at h4
    subst h3
    unfold objL at h4 hi hx
    exact hx (sums_tell _ _ i c hi h4)
  · exact g
/-- what the document's reading refuses besides, the writing refuses too -/
theorem dec_head {l : List UInt8} {ds : List (List UInt8)} {r : List UInt8} (hl : 3 ≤ l.length) (h : secsN 5 (l.drop 3) = some (ds, r)) (hz : (respOf (ds.getD 2 [])).2.1 = 0) : decO l = (En.zero, 120) := by
  rcases dec_two l with g | g
  · exfalso
    obtain ⟨h1, h2, h3⟩ := obj_ok (dec_ok' g)
    have hr := read_obj (decO l).1 [] h1 h2
    rw [List.append_nil, ← h3] at hr
    unfold readE at hr
    rw [if_neg (by omega), h] at hr
    have hr' : entR ds = some (decO l).1 := hr
    unfold entR at hr'
    split at hr'
    · rename_i q
      have e1 := congrArg En.r (Option.some.inj hr')
      have hz2 : respOf (ds.getD 2 []) = (Rs.zero, 0, 0) := by
        unfold respOf at hz q ⊢
        split
        · rename_i q1; rw [if_pos q1] at q; rw [q.2]
        · rename_i q1
          rw [if_neg q1] at hz q
          rcases respG_facts (lineR (lineH (headH (ds.getD 2 []) 0 (endOf (ds.getD 2 []) 0).1))) (parseOf (blkH (headH (ds.getD 2 []) 0 (endOf (ds.getD 2 []) 0).1))) (endOf (ds.getD 2 []) 0).1 with ⟨_, q3⟩ | ⟨q3, _⟩
          · rw [q3] at hz; exact absurd hz q1
          · exact absurd q.2 q3
      rw [hz2] at e1
      have h5 := congrArg Prod.snd h2
      rw [← e1] at h5
      have h6 : (prR Rs.zero).2 = 0 := h5
      exact absurd h6 (by decide)
    · cases hr'
  · exact g
theorem num8_neg {l : List UInt8} (h : l.length = 8) (hb : 127 < (l.getD 0 0).toNat) : num8 l < 0 := by
  match l, h with
  | c :: m, h =>
    have hm : m.length = 7 := by simpa using h
    have hv := valN_cons c m
    rw [hm] at hv
    have hc : 127 < c.toNat := hb
    have hc2 := c.toNat_lt
    have h2 := valN_lt m
    rw [hm] at h2
    have p7 : (256 : Nat) ^ 7 = 72057594037927936 := by decide
    rw [p7] at hv h2
    unfold num8
    rw [hv, if_neg (by omega)]
    omega
theorem num8_pos {l : List UInt8} (h : l.length = 8) (hb : ¬ 127 < (l.getD 0 0).toNat) : num8 l = (valN l : Int) ∧ valN l < 9223372036854775808 := by
  match l, h with
  | c :: m, h =>
    have hm : m.length = 7 := by simpa using h
    have hv := valN_cons c m
    rw [hm] at hv
    have hc : ¬ 127 < c.toNat := hb
    have h2 := valN_lt m
    rw [hm] at h2
    have p7 : (256 : Nat) ^ 7 = 72057594037927936 := by decide
    rw [p7] at hv h2
    unfold num8
    rw [if_pos (by omega)]
    exact ⟨rfl, by omega⟩
theorem dec_times {l : List UInt8} {ds : List (List UInt8)} {r : List UInt8} (hl : 3 ≤ l.length) (h : secsN 5 (l.drop 3) = some (ds, r)) (hz : num8 ((ds.getD 4 []).take 8) < 0 ∨ num8 ((ds.getD 4 []).drop 8) < 0) : decO l = (En.zero, 120) := by
  rcases dec_two l with g | g
  · exfalso
    obtain ⟨h1, h2, h3⟩ := obj_ok (dec_ok' g)
    have hw := within_facts h1
    have hr := read_obj (decO l).1 [] h1 h2
    rw [List.append_nil, ← h3] at hr
    unfold readE at hr
    rw [if_neg (by omega), h] at hr
    have hr' : entR ds = some (decO l).1 := hr
    unfold entR at hr'
    split at hr'
    · have e1 := congrArg En.a (Option.some.inj hr')
      have e2 := congrArg En.g (Option.some.inj hr')
      simp only at e1 e2
      omega
    · cases hr'
  · exact g
end Go.Proofs.YtenegcoapejbmaaGreatDoor
