/- Plain: the program's way through a chunked body: what it reads next, step by step; a line's size by its first semicolon; a line's end. -/
import Derived.Test.YtobkmepamgdccaaGreatDoorChQ
namespace Go.Proofs.YtobkmepamgdccaaGreatDoor
open Go.RowKit
theorem mem_while {p : UInt8 → Bool} : ∀ {l : List UInt8} {c : UInt8}, c ∈ l.takeWhile p → p c = true := by
  intro l
  induction l with
  | nil => intro c h; simp at h
  | cons x r ih =>
    intro c h
    rw [List.takeWhile_cons] at h
    split at h
    · rename_i hx
      rcases List.mem_cons.1 h with rfl | h
      · exact hx
      · exact ih h
    · simp at h
def noSemi (c : UInt8) : Bool := decide (c ≠ 59)
theorem noSemi_iff (c : UInt8) : noSemi c = false ↔ c = 59 := by unfold noSemi; simp
def digL (l : List UInt8) : List UInt8 := l.takeWhile noSemi
def extL (l : List UInt8) : List UInt8 := (l.dropWhile noSemi).drop 1
def goodZ (l : List UInt8) : Bool := decide (0 < (digL l).length) && ((digL l).all isHex && (decide ((digL l).length ≤ 8) && (extL l).all txt))
theorem hex_semi (c : UInt8) (h : isHex c = true) : noSemi c = true := by
  unfold noSemi
  rw [decide_eq_true_iff]
  intro e
  subst e
  exact absurd h (by decide)
theorem semi_rest (l : List UInt8) : l.dropWhile noSemi = [] ∨ ∃ r, l.dropWhile noSemi = 59 :: r := by
  induction l with
  | nil => exact .inl rfl
  | cons c r ih =>
    rw [List.dropWhile_cons]
    split
    · exact ih
    · rename_i h
      exact .inr ⟨r, by rw [(noSemi_iff c).1 (by simpa using h)]⟩
theorem size_good (l : List UInt8) (h : goodZ l = true) : sizeC l = (hexS (digL l) : Int) := by
  unfold goodZ at h
  simp only [Bool.and_eq_true, decide_eq_true_eq] at h
  obtain ⟨h1, h2, h3, h4⟩ := h
  have e := while_app2 noSemi l
  have hx : ∀ c ∈ l.takeWhile noSemi, isHex c = true := fun c hc => List.all_eq_true.1 h2 c hc
  have hb : ∀ c r, l.dropWhile noSemi = c :: r → isHex c = false := by
    intro c r hr
    rcases semi_rest l with h | ⟨r2, h⟩
    · rw [h] at hr; cases hr
    · rw [h] at hr; injection hr with h1 h2; subst h1; decide
  have k := while_app isHex (l.takeWhile noSemi) (l.dropWhile noSemi) hx hb
  rw [e] at k
  unfold sizeC
  rw [k.1, k.2, if_neg]
  · rfl
  · unfold digL at h1 h3
    rintro (q | q | q)
    · omega
    · omega
    · unfold extL at h4
      rcases semi_rest l with h | ⟨r, h⟩
      · rw [h] at q; cases q
      · rw [h] at q h4
        simp only [List.drop_succ_cons, List.drop_zero] at h4
        have q' : (decide ((59 : UInt8) = 59) && ((59 : UInt8) :: r).all txt) = false := q
        rw [List.all_cons, h4] at q'
        exact absurd q' (by decide)
theorem size_bad (l : List UInt8) (h : goodZ l = false) : sizeC l < 0 := by
  unfold sizeC
  rw [if_pos]
  · decide
  · apply Classical.byContradiction
    intro hn
    rw [not_or, not_or] at hn
    obtain ⟨n1, n2, n3⟩ := hn
    have n3' : extOk (l.dropWhile isHex) = true := by simpa using n3
    have e := while_app2 isHex l
    have hx : ∀ c ∈ l.takeWhile isHex, noSemi c = true := fun c hc => hex_semi c (mem_while hc)
    have hb : ∀ c r, l.dropWhile isHex = c :: r → noSemi c = false := by
      intro c r hr
      rw [hr] at n3'
      unfold extOk at n3'
      rw [Bool.and_eq_true] at n3'
      exact (noSemi_iff c).2 (by simpa using n3'.1)
    have k := while_app noSemi (l.takeWhile isHex) (l.dropWhile isHex) hx hb
    rw [e] at k
    have hg : goodZ l = true := by
      unfold goodZ digL extL
      rw [k.1, k.2]
      have a1 : (l.takeWhile isHex).all isHex = true := List.all_eq_true.2 (fun c hc => mem_while hc)
      rw [a1, decide_eq_true (by omega), decide_eq_true (by omega)]
      simp only [Bool.true_and]
      cases hd : l.dropWhile isHex with
      | nil => rfl
      | cons c r =>
        rw [hd] at n3'
        unfold extOk at n3'
        rw [Bool.and_eq_true, List.all_cons, Bool.and_eq_true] at n3'
        exact n3'.2.2
    rw [hg] at h
    cases h
theorem size_is (l : List UInt8) : goodZ l = decide (0 ≤ sizeC l) := by
  cases h : goodZ l with
  | true => rw [size_good l h]; simp
  | false => have := size_bad l h; simp; omega
theorem dig_len (l : List UInt8) : (digL l).length ≤ l.length := (List.takeWhile_sublist _).length_le
theorem ext_len (l : List UInt8) : (extL l).length ≤ l.length := by
  unfold extL; rw [List.length_drop]
  have := (List.dropWhile_sublist (p := noSemi) (l := l)).length_le
  omega
theorem hexI_le (c : UInt8) : (hexI (c.toNat : Int)).toNat ≤ 15 := by
  unfold hexI
  split
  · omega
  · split
    · omega
    · split <;> omega
theorem hexF_lt : ∀ (l : List UInt8) (a : Nat), l.foldl (fun a c => a * 16 + (hexI (c.toNat : Int)).toNat) a < (a + 1) * 16 ^ l.length := by
  intro l
  induction l with
  | nil => intro a; simp
  | cons c r ih =>
    intro a
    rw [List.foldl_cons, List.length_cons, Nat.pow_succ, Nat.mul_comm (16 ^ r.length) 16, ← Nat.mul_assoc]
    have hc := hexI_le c
    exact Nat.lt_of_lt_of_le (ih _) (Nat.mul_le_mul_right _ (by omega))
theorem hexS_lt (l : List UInt8) : hexS l < 16 ^ l.length := by
  have := hexF_lt l 0
  unfold hexS
  omega
/-! a line's end -/
theorem index10 (l : List UInt8) : Lib.indexByte l 10 = if lenL l = l.length then -1 else (lenL l : Int) := by
  induction l with
  | nil => rfl
  | cons c r ih =>
    unfold lenL at ih ⊢
    rw [Lib.indexByte, List.takeWhile_cons]
    by_cases h : c = 10
    · subst h
      rfl
    · have hn : no10 c = true := by unfold no10; simpa using h
      rw [if_neg (by simpa using h), hn, if_pos rfl, ih]
      simp only [List.length_cons]
      by_cases h2 : (r.takeWhile no10).length = r.length
      · rw [if_pos h2, if_pos (show ((-1 : Int) == -1) = true from rfl), if_pos (by omega)]
      · rw [if_neg h2, if_neg (fun e => by have := beq_iff_eq.1 e; omega), if_neg (by omega)]
        simp
theorem at10 (l : List UInt8) (h : lenL l < l.length) : l[lenL l] = 10 := by
  induction l with
  | nil => simp at h
  | cons c r ih =>
    unfold lenL at h ih ⊢
    by_cases hc : no10 c = true
    · have e : ((c :: r).takeWhile no10).length = (r.takeWhile no10).length + 1 := by rw [List.takeWhile_cons, if_pos hc]; rfl
      have h2 : (r.takeWhile no10).length < r.length := by rw [e] at h; simp at h; exact h
      have := ih h2
      rw [← this]
      simp only [e, List.getElem_cons_succ]
    · have e : ((c :: r).takeWhile no10).length = 0 := by rw [List.takeWhile_cons, if_neg hc]; rfl
      simp only [e, List.getElem_cons_zero]
      exact (no10_iff c).1 (by simpa using hc)
/-- the line with its 10 ends in the pair: a byte 13 stands ahead of the 10 -/
def endL (b : List UInt8) : Bool := decide (¬ lenL b = 0 ∧ b.getD (lenL b - 1) 0 = 13)
theorem suf_end (b : List UInt8) (h : lenL b < b.length) : Lib.hasSuffix (b.take (lenL b + 1)) [13, 10] = endL b := by
  have ht : b.take (lenL b + 1) = b.take (lenL b) ++ [10] := by rw [List.take_succ_eq_append_getElem h, at10 b h]
  unfold Lib.hasSuffix endL
  by_cases h0 : lenL b = 0
  · rw [ht, h0]
    simp
    decide
  · obtain ⟨k, hk⟩ : ∃ k, lenL b = k + 1 := ⟨lenL b - 1, by omega⟩
    rw [ht, hk]
    have hk2 : k < b.length := by omega
    rw [List.take_succ_eq_append_getElem hk2, List.append_assoc]
    have hd : b.getD (k + 1 - 1) 0 = b[k] := by rw [Nat.add_sub_cancel, List.getD_eq_getElem?_getD, List.getElem?_eq_getElem hk2]; rfl
    rw [hd]
    by_cases h13 : b[k] = 13
    · rw [h13, decide_eq_true ⟨by omega, rfl⟩, List.isSuffixOf_iff_suffix]
      exact ⟨_, rfl⟩
    · rw [decide_eq_false (fun x => h13 x.2)]
      apply Bool.eq_false_iff.2
      intro hs
      rw [List.isSuffixOf_iff_suffix] at hs
      obtain ⟨t, ht2⟩ := hs
      have e2 : t ++ [13] ++ [10] = b.take k ++ [b[k]] ++ [10] := by rw [List.append_assoc, List.append_assoc]; exact ht2
      have e3 := List.append_inj_left' e2 rfl
      have e4 := List.append_inj_right' e3 rfl
      injection e4 with e5
      exact h13 e5.symm
/-- the line without its end, where it has one -/
def lineL (b : List UInt8) : List UInt8 := if endL b = true then b.take (lenL b - 1) else b.take (lenL b + 1)
theorem trim_end (b : List UInt8) (h : lenL b < b.length) : Lib.trimSuffix (b.take (lenL b + 1)) [13, 10] = lineL b := by
  unfold Lib.trimSuffix lineL
  rw [suf_end b h]
  cases e : endL b with
  | true =>
    unfold endL at e
    have := of_decide_eq_true e
    rw [if_pos rfl, if_pos rfl, List.length_take, List.take_take]
    congr 1
    simp only [List.length_cons, List.length_nil]
    omega
  | false => rw [if_neg (by simp), if_neg (by simp)]
theorem lineL_len (b : List UInt8) : (lineL b).length ≤ lenL b + 1 := by
  unfold lineL
  split <;> (rw [List.length_take]; omega)
/-! the line by the program's tests -/
theorem line_no (b : List UInt8) (h : lenL b = b.length) (h2 : b.length < 200) : lineC b = (0, 0, 0) := by unfold lineC; rw [if_pos h, if_neg (by omega)]
theorem line_no2 (b : List UInt8) (h : lenL b = b.length) (h2 : 200 ≤ b.length) : lineC b = (0, 0, 70) := by unfold lineC; rw [if_pos h, if_pos h2]
theorem line_long (b : List UInt8) (h : lenL b < b.length) (h2 : 200 < lenL b + 1) : lineC b = (0, 0, 70) := by unfold lineC; rw [if_neg (by omega), if_pos (.inl h2)]
theorem line_bad (b : List UInt8) (h : lenL b < b.length) (h2 : (endL b && decide (0 ≤ sizeC (lineL b))) = false) : lineC b = (0, 0, 70) := by
  unfold lineC
  rw [if_neg (by omega), if_pos]
  by_cases h0 : lenL b = 0
  · exact .inr (.inl h0)
  · by_cases h1 : b.getD (lenL b - 1) 0 = 13
    · have e : endL b = true := decide_eq_true ⟨h0, h1⟩
      rw [e, Bool.true_and] at h2
      unfold lineL at h2
      rw [if_pos e] at h2
      have := of_decide_eq_false h2
      exact .inr (.inr (.inr (by omega)))
    · exact .inr (.inr (.inl h1))
theorem line_ok (b : List UInt8) (h : lenL b < b.length) (h2 : (endL b && decide (0 ≤ sizeC (lineL b))) = true) (h3 : lenL b + 1 ≤ 200) : lineC b = ((sizeC (lineL b)).toNat, lenL b + 1, 0) := by
  rw [Bool.and_eq_true] at h2
  have e := of_decide_eq_true h2.1
  have es := of_decide_eq_true h2.2
  unfold lineL at es ⊢
  rw [if_pos h2.1] at es ⊢
  unfold lineC
  rw [if_neg (by omega), if_neg]
  rintro (q | q | q | q)
  · omega
  · exact e.1 q
  · exact q e.2
  · omega
/-! what the decoder reads next -/
/-- nx: 0 a size line, 1 a chunk's data, 2 the trailers, 3 nothing; s the chunk's size; out, fs what was read; n how many bytes -/
def DS (b : List UInt8) (nx : Int) (s : Nat) (out : List UInt8) (fs : FL) (n : Nat) : Prop :=
  n ≤ b.length ∧ out.length ≤ 65536 ∧
  ((nx = 0 ∧ fs = [] ∧ ∃ f, (b.drop n).length < f ∧ decOf b = decG f (b.drop n) out n) ∨
   (nx = 1 ∧ fs = [] ∧ ∃ f m k, m + k = n ∧ s ≠ 0 ∧ lineC (b.drop m) = (s, k, 0) ∧ k ≠ 0 ∧ (b.drop m).length < f ∧ decOf b = decG f (b.drop m) out m) ∨
   (nx = 2 ∧ fs = [] ∧ ∃ f m k, m + k = n ∧ lineC (b.drop m) = (0, k, 0) ∧ k ≠ 0 ∧ (b.drop m).length < f ∧ decOf b = decG f (b.drop m) out m) ∨
   (nx = 3 ∧ decOf b = (out, fs, n, 0)))
theorem ds_start (b : List UInt8) : DS b 0 0 [] [] 0 := ⟨Nat.zero_le _, by simp, .inl ⟨rfl, rfl, b.length + 1, by simp, by rw [List.drop_zero]; rfl⟩⟩
theorem ds_nx {b : List UInt8} {nx : Int} {s : Nat} {out : List UInt8} {fs : FL} {n : Nat} (h : DS b nx s out fs n) : nx = 0 ∨ nx = 1 ∨ nx = 2 ∨ nx = 3 := by
  rcases h.2.2 with h | h | h | h
  · exact .inl h.1
  · exact .inr (.inl h.1)
  · exact .inr (.inr (.inl h.1))
  · exact .inr (.inr (.inr h.1))
theorem ds_end {b : List UInt8} {s : Nat} {out : List UInt8} {fs : FL} {n : Nat} (h : DS b 3 s out fs n) : decOf b = (out, fs, n, 0) := by
  rcases h.2.2 with h | h | h | h
  · exact absurd h.1 (by decide)
  · exact absurd h.1 (by decide)
  · exact absurd h.1 (by decide)
  · exact h.2
theorem ds_fs {b : List UInt8} {nx : Int} {s : Nat} {out : List UInt8} {fs : FL} {n : Nat} (h : DS b nx s out fs n) (h3 : nx ≠ 3) : fs = [] := by
  rcases h.2.2 with h | h | h | h
  · exact h.2.1
  · exact h.2.1
  · exact h.2.1
  · exact absurd h.1 h3
theorem drop_len {b : List UInt8} {m k n : Nat} (h : m + k = n) : (b.drop m).drop k = b.drop n := by rw [List.drop_drop, h]
/-- what comes behind a size line -/
def nxOf (s : Nat) : Int := if s = 0 then 2 else 1
theorem nxOf_pos {s : Nat} (h : s ≠ 0) : nxOf s = 1 := by unfold nxOf; rw [if_neg h]
theorem nxOf_ne (s : Nat) : nxOf s ≠ 3 := by unfold nxOf; split <;> decide
/-- a size line is read -/
theorem ds_size {b : List UInt8} {s : Nat} {out : List UInt8} {fs : FL} {n : Nat} (h : DS b 0 s out fs n) :
    ((lineC (b.drop n)).2.1 = 0 → decOf b = ([], [], 0, (lineC (b.drop n)).2.2)) ∧
    ((lineC (b.drop n)).2.1 ≠ 0 → DS b (nxOf (lineC (b.drop n)).1) (lineC (b.drop n)).1 out [] (n + (lineC (b.drop n)).2.1)) := by
  obtain ⟨hn, ho, h1 | h1 | h1 | h1⟩ := h
  · obtain ⟨_, _, f, hf, e⟩ := h1
    refine ⟨fun h0 => ?_, fun h0 => ?_⟩
    · obtain ⟨f, rfl⟩ : ∃ g, f = g + 1 := ⟨f - 1, by omega⟩
      rcases lineC_cases (b.drop n) with el | el | ⟨s, el, hlt, _⟩
      · rw [e, dec_stop (by rw [chs_none el]; simp [St.need]) (by rw [chs_none el]; simp [St.need]), chs_none el, el]; rfl
      · rw [e, dec_stop (by rw [chs_bad el]; simp [St.err]) (by rw [chs_bad el]; simp [St.err]), chs_bad el, el]; rfl
      · rw [el] at h0; simp at h0
    · rcases lineC_cases (b.drop n) with el | el | ⟨s, el, hlt, _⟩
      · rw [el] at h0; simp at h0
      · rw [el] at h0; simp at h0
      · rw [el]
        simp only
        rw [List.length_drop] at hlt
        refine ⟨by omega, ho, ?_⟩
        by_cases hs : s = 0
        · subst hs
          exact .inr (.inr (.inl ⟨rfl, rfl, f, n, _, rfl, el, by omega, hf, e⟩))
        · rw [nxOf_pos hs]
          exact .inr (.inl ⟨rfl, rfl, f, n, _, rfl, hs, el, by omega, hf, e⟩)
  · exact absurd h1.1 (by decide)
  · exact absurd h1.1 (by decide)
  · exact absurd h1.1 (by decide)
/-- a chunk's data are read -/
theorem ds_data {b : List UInt8} {s : Nat} {out : List UInt8} {fs : FL} {n : Nat} (h : DS b 1 s out fs n) :
    (65536 < out.length + s → decOf b = ([], [], 0, 71)) ∧
    (out.length + s ≤ 65536 → (b.drop n).length < s + 2 → decOf b = ([], [], 0, 0)) ∧
    (out.length + s ≤ 65536 → s + 2 ≤ (b.drop n).length → pairB ((b.drop n).drop s) = false → decOf b = ([], [], 0, 70)) ∧
    (out.length + s ≤ 65536 → s + 2 ≤ (b.drop n).length → pairB ((b.drop n).drop s) = true → DS b 0 s (out ++ (b.drop n).take s) [] (n + (s + 2))) := by
  obtain ⟨hn, ho, h1 | h1 | h1 | h1⟩ := h
  · exact absurd h1.1 (by decide)
  · obtain ⟨_, _, f, m, k, hmk, hs, el, hk, hf, e⟩ := h1
    have ed := drop_len (b := b) hmk
    have st : stepC (b.drop m) out.length = dataC (b.drop n) s k out.length := by rw [chs_line el hk, if_neg hs, ed]
    obtain ⟨f, rfl⟩ : ∃ g, f = g + 1 := ⟨f - 1, by omega⟩
    refine ⟨fun c1 => ?_, fun c1 c2 => ?_, fun c1 c2 c3 => ?_, fun c1 c2 c3 => ?_⟩
    · have hd : dataC (b.drop n) s k out.length = St.err 71 := by unfold dataC; rw [if_pos (by omega)]
      rw [e, dec_stop (by rw [st, hd]; simp [St.err]) (by rw [st, hd]; simp [St.err]), st, hd]; rfl
    · have hd : dataC (b.drop n) s k out.length = St.need := by unfold dataC; rw [if_neg (by omega), if_pos c2]
      rw [e, dec_stop (by rw [st, hd]; simp [St.need]) (by rw [st, hd]; simp [St.need]), st, hd]; rfl
    · have hd : dataC (b.drop n) s k out.length = St.err 70 := by unfold dataC; rw [if_neg (by omega), if_neg (by omega), if_pos c3]
      rw [e, dec_stop (by rw [st, hd]; simp [St.err]) (by rw [st, hd]; simp [St.err]), st, hd]; rfl
    · have hd : dataC (b.drop n) s k out.length = ⟨2, (b.drop n).take s, [], k + (s + 2), 0⟩ := by unfold dataC; rw [if_neg (by omega), if_neg (by omega), if_neg (by rw [c3]; simp)]
      have e2 := e
      rw [dec_chunk (by rw [st, hd]), st, hd] at e2
      simp only at e2
      rw [List.drop_drop, ← Nat.add_assoc m, hmk] at e2
      have c2' := c2
      rw [List.length_drop] at c2'
      refine ⟨by omega, by rw [List.length_append, List.length_take, List.length_drop]; omega, .inl ⟨rfl, rfl, f, ?_, e2⟩⟩
      rw [List.length_drop] at hf ⊢
      omega
  · exact absurd h1.1 (by decide)
  · exact absurd h1.1 (by decide)
/-- the trailers are read -/
theorem ds_tail {b : List UInt8} {s : Nat} {out : List UInt8} {fs : FL} {n : Nat} (h : DS b 2 s out fs n) :
    ((tailC (b.drop n)).2.1 = 0 → decOf b = ([], [], 0, (tailC (b.drop n)).2.2)) ∧
    ((tailC (b.drop n)).2.1 ≠ 0 → DS b 3 s out (tailC (b.drop n)).1 (n + (tailC (b.drop n)).2.1)) := by
  obtain ⟨hn, ho, h1 | h1 | h1 | h1⟩ := h
  · exact absurd h1.1 (by decide)
  · exact absurd h1.1 (by decide)
  · obtain ⟨_, _, f, m, k, hmk, el, hk, hf, e⟩ := h1
    have ed := drop_len (b := b) hmk
    have st : stepC (b.drop m) out.length = finC k (tailC (b.drop n)) := by rw [chs_line el hk, if_pos rfl, ed]
    obtain ⟨f, rfl⟩ : ∃ g, f = g + 1 := ⟨f - 1, by omega⟩
    rcases tail_need (b.drop n) with ht | ht | ⟨t1, t2, t3⟩
    · refine ⟨fun _ => ?_, fun h0 => by rw [ht] at h0; simp at h0⟩
      have hd : finC k (tailC (b.drop n)) = St.need := fin_need ht
      rw [e, dec_stop (by rw [st, hd]; simp [St.need]) (by rw [st, hd]; simp [St.need]), st, hd, ht]; rfl
    · have hz : (tailC (b.drop n)).2.1 = 0 := by
        unfold tailC at ht ⊢
        split
        · rename_i q; rw [if_pos q] at ht; simp at ht
        · rename_i q
          rw [if_neg q] at ht
          split
          · rfl
          · rename_i q2
            rw [if_neg q2] at ht
            split
            · rename_i q3; rw [if_pos q3] at ht; simp at ht
            · rfl
      refine ⟨fun _ => ?_, fun h0 => absurd hz h0⟩
      have hd : finC k (tailC (b.drop n)) = St.err (tailC (b.drop n)).2.2 := by unfold finC; rw [if_pos ht]
      rw [e, dec_stop (by rw [st, hd]; simp [St.err]) (by rw [st, hd]; simp [St.err]), st, hd]; rfl
    · refine ⟨fun h0 => by omega, fun _ => ?_⟩
      have hd : finC k (tailC (b.drop n)) = ⟨3, [], (tailC (b.drop n)).1, k + (tailC (b.drop n)).2.1, 0⟩ := by unfold finC; rw [if_neg (by omega), if_neg (by omega)]
      have e2 := e
      rw [dec_fin (by rw [st, hd]), st, hd] at e2
      simp only at e2
      rw [← Nat.add_assoc m, hmk] at e2
      rw [List.length_drop] at t2
      exact ⟨by omega, ho, .inr (.inr (.inr ⟨rfl, e2⟩))⟩
  · exact absurd h1.1 (by decide)
/-- the trailers by the program's way: their length first, then the lines ahead of the empty one -/
def tlenC (b : List UInt8) : Nat × Int := if pairB b = true then (2, 0) else endOf b 0
theorem tail_len0 (b : List UInt8) (h : (tlenC b).1 = 0) : tailC b = ([], 0, (tlenC b).2) := by
  unfold tlenC at h ⊢
  unfold tailC
  split
  · rename_i q; rw [if_pos q] at h; simp at h
  · rename_i q; rw [if_neg q] at h; rw [if_pos h]
theorem tail_len1 (b : List UInt8) (h : (tlenC b).1 ≠ 0) : (tlenC b).2 = 0 ∧ 2 ≤ (tlenC b).1 ∧ (tlenC b).1 ≤ b.length ∧ (tlenC b).1 ≤ 8192 ∧
    tailC b = (if (parseOf (b.take ((tlenC b).1 - 2))).2 = 0 then ((parseOf (b.take ((tlenC b).1 - 2))).1, (tlenC b).1, 0) else ([], 0, (parseOf (b.take ((tlenC b).1 - 2))).2)) := by
  unfold tlenC at h ⊢
  unfold tailC
  by_cases q : pairB b = true
  · rw [if_pos q, if_pos q]
    exact ⟨rfl, by simp, pair_len q, by simp, by simp [parseOf, parse_nil]⟩
  · rw [if_neg q] at h
    rw [if_neg q, if_neg q, if_neg h]
    obtain ⟨i, _, h4, h5, h6⟩ := end_len b h
    rw [h4]
    exact ⟨rfl, by simp, h6, h5, rfl⟩
end Go.Proofs.YtobkmepamgdccaaGreatDoor
