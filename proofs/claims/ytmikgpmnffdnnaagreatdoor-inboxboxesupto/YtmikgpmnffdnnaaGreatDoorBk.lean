/- Plain: chunked bodies: how they are read, step by step; what is told of some bytes is told of them with more behind, and of just those that it took. Plain: a step of the reading, and the whole: with more behind, of just the bytes that it took, of one fewer. Plain: chunked bodies, written; what is written is read as it was, whatever stands behind it. Plain: the program's way through a chunked body: what it reads next, step by step; a line's size by its first semicolon; a line's end. Plain: whole messages: a request with its body, a response with its body; with more behind, of just their bytes, at the end of all bytes. Plain: bytes that come in pieces: what a box of requests holds, and what the whole tells of them. -/
import Derived.Test.YtmikgpmnffdnnaaGreatDoorBf
import Derived.Test.YtmikgpmnffdnnaaGreatDoorBi
namespace Go.Proofs.YtmikgpmnffdnnaaGreatDoor
open Go.RowKit
def hexI (c : Int) : Int := if 48 ≤ c ∧ c ≤ 57 then c - 48 else if 65 ≤ c ∧ c ≤ 70 then c - 55 else if 97 ≤ c ∧ c ≤ 102 then c - 87 else -1
def isHex (c : UInt8) : Bool := decide (0 ≤ hexI (c.toNat : Int))
def hexS (l : List UInt8) : Nat := l.foldl (fun a c => a * 16 + (hexI (c.toNat : Int)).toNat) 0
/-- behind the digits: nothing, or a semicolon and text -/
def extOk (l : List UInt8) : Bool := match l with
  | [] => true
  | c :: r => decide (c = 59) && (c :: r).all txt
/-- the size that a line tells; -1: none -/
def sizeC (l : List UInt8) : Int :=
  if (l.takeWhile isHex).length = 0 ∨ 8 < (l.takeWhile isHex).length ∨ extOk (l.dropWhile isHex) = false then -1 else (hexS (l.takeWhile isHex) : Int)
def no10 (c : UInt8) : Bool := decide (c ≠ 10)
/-- the first line's length without its 10 -/
def lenL (b : List UInt8) : Nat := (b.takeWhile no10).length
/-- the size line: the size, how many bytes it takes, the error -/
def lineC (b : List UInt8) : Nat × Nat × Int :=
  if lenL b = b.length then (if 200 ≤ b.length then (0, 0, 70) else (0, 0, 0))
  else if 200 < lenL b + 1 ∨ lenL b = 0 ∨ ¬ b.getD (lenL b - 1) 0 = 13 ∨ sizeC (b.take (lenL b - 1)) < 0 then (0, 0, 70)
  else ((sizeC (b.take (lenL b - 1))).toNat, lenL b + 1, 0)
/-- the trailers: the fields, how many bytes they take, the error -/
def tailC (b : List UInt8) : FL × Nat × Int :=
  if pairB b = true then ([], 2, 0)
  else if (endOf b 0).1 = 0 then ([], 0, (endOf b 0).2)
  else if (parseOf (b.take ((endOf b 0).1 - 2))).2 = 0 then ((parseOf (b.take ((endOf b 0).1 - 2))).1, (endOf b 0).1, 0)
  else ([], 0, (parseOf (b.take ((endOf b 0).1 - 2))).2)
/-- one step of the reading: 0 more is needed, 1 an error, 2 a chunk, 3 the end; the chunk's data, the trailers, how many bytes were taken, the error -/
structure St where
  o : Nat
  d : List UInt8
  fs : FL
  n : Nat
  e : Int
def St.need : St := ⟨0, [], [], 0, 0⟩
def St.err (e : Int) : St := ⟨1, [], [], 0, e⟩
def finC (n : Nat) (t : FL × Nat × Int) : St := if t.2.2 ≠ 0 then St.err t.2.2 else if t.2.1 = 0 then St.need else ⟨3, [], t.1, n + t.2.1, 0⟩
def dataC (b : List UInt8) (s n k : Nat) : St :=
  if 65536 < k + s then St.err 71 else if b.length < s + 2 then St.need else if pairB (b.drop s) = false then St.err 70 else ⟨2, b.take s, [], n + (s + 2), 0⟩
def stepC (b : List UInt8) (k : Nat) : St :=
  if (lineC b).2.2 ≠ 0 then St.err (lineC b).2.2
  else if (lineC b).2.1 = 0 then St.need
  else if (lineC b).1 = 0 then finC (lineC b).2.1 (tailC (b.drop (lineC b).2.1))
  else dataC (b.drop (lineC b).2.1) (lineC b).1 (lineC b).2.1 k
def decG : Nat → List UInt8 → List UInt8 → Nat → List UInt8 × FL × Nat × Int
  | 0, _, _, _ => ([], [], 0, 0)
  | f + 1, b, out, p =>
    if (stepC b out.length).o = 2 then decG f (b.drop (stepC b out.length).n) (out ++ (stepC b out.length).d) (p + (stepC b out.length).n)
    else if (stepC b out.length).o = 3 then (out, (stepC b out.length).fs, p + (stepC b out.length).n, 0)
    else ([], [], 0, (stepC b out.length).e)
def decOf (b : List UInt8) : List UInt8 × FL × Nat × Int := decG (b.length + 1) b [] 0
theorem dec_chunk {f : Nat} {b out : List UInt8} {p : Nat} (h : (stepC b out.length).o = 2) : decG (f + 1) b out p = decG f (b.drop (stepC b out.length).n) (out ++ (stepC b out.length).d) (p + (stepC b out.length).n) := by rw [decG, if_pos h]
theorem dec_fin {f : Nat} {b out : List UInt8} {p : Nat} (h : (stepC b out.length).o = 3) : decG (f + 1) b out p = (out, (stepC b out.length).fs, p + (stepC b out.length).n, 0) := by rw [decG, if_neg (by omega), if_pos h]
theorem dec_stop {f : Nat} {b out : List UInt8} {p : Nat} (h2 : (stepC b out.length).o ≠ 2) (h3 : (stepC b out.length).o ≠ 3) : decG (f + 1) b out p = ([], [], 0, (stepC b out.length).e) := by rw [decG, if_neg h2, if_neg h3]
/-! the line -/
theorem no10_iff (c : UInt8) : no10 c = false ↔ c = 10 := by unfold no10; simp
theorem lenL_le (b : List UInt8) : lenL b ≤ b.length := (List.takeWhile_sublist _).length_le
theorem lenL_lt {b : List UInt8} (h : lenL b ≠ b.length) : lenL b < b.length := Nat.lt_of_le_of_ne (lenL_le b) h
theorem lenL_app {b : List UInt8} (m : List UInt8) (h : lenL b < b.length) : lenL (b ++ m) = lenL b := by
  induction b with
  | nil => simp at h
  | cons c r ih =>
    unfold lenL at h ih ⊢
    rw [List.cons_append, List.takeWhile_cons, List.takeWhile_cons]
    rw [List.takeWhile_cons] at h
    split
    · rename_i hc
      rw [if_pos hc] at h
      simp only [List.length_cons] at h ⊢
      rw [ih (by omega)]
    · rfl
theorem lenL_ge (b m : List UInt8) (h : lenL b = b.length) : b.length ≤ lenL (b ++ m) := by
  induction b with
  | nil => simp
  | cons c r ih =>
    unfold lenL at h ih ⊢
    rw [List.cons_append, List.takeWhile_cons]
    rw [List.takeWhile_cons] at h
    split
    · rename_i hc
      rw [if_pos hc] at h
      simp only [List.length_cons] at h ⊢
      have := ih (by omega)
      omega
    · rename_i hc
      rw [if_neg hc] at h
      simp at h
theorem take_app {b : List UInt8} (m : List UInt8) {k : Nat} (h : k ≤ b.length) : (b ++ m).take k = b.take k := List.take_append_of_le_length h
theorem drop_app {b : List UInt8} (m : List UInt8) {k : Nat} (h : k ≤ b.length) : (b ++ m).drop k = b.drop k ++ m := List.drop_append_of_le_length h
theorem getD_app {b : List UInt8} (m : List UInt8) {k : Nat} (h : k < b.length) : (b ++ m).getD k 0 = b.getD k 0 := by
  rw [List.getD_eq_getElem?_getD, List.getD_eq_getElem?_getD, List.getElem?_append_left h]
theorem lineC_cases (b : List UInt8) : lineC b = (0, 0, 0) ∨ lineC b = (0, 0, 70) ∨ ∃ s, lineC b = (s, lenL b + 1, 0) ∧ lenL b < b.length ∧ lenL b + 1 ≤ 200 := by
  unfold lineC
  split
  · split
    · exact .inr (.inl rfl)
    · exact .inl rfl
  · rename_i h
    split
    · exact .inr (.inl rfl)
    · rename_i h2
      exact .inr (.inr ⟨_, rfl, lenL_lt h, by omega⟩)
theorem lineC_app (b m : List UInt8) (h : lineC b ≠ (0, 0, 0)) : lineC (b ++ m) = lineC b := by
  by_cases hk : lenL b = b.length
  · have e : lineC b = if 200 ≤ b.length then (0, 0, 70) else (0, 0, 0) := by unfold lineC; rw [if_pos hk]
    have h2 : 200 ≤ b.length := by
      rcases Nat.lt_or_ge b.length 200 with h3 | h3
      · rw [if_neg (by omega)] at e; exact absurd e h
      · exact h3
    rw [e, if_pos h2]
    have h4 := lenL_ge b m hk
    unfold lineC
    split
    · rw [if_pos (by rw [List.length_append]; omega)]
    · rw [if_pos (.inl (by omega))]
  · have hlt := lenL_lt hk
    have e1 := lenL_app m hlt
    unfold lineC
    rw [e1, if_neg hk, if_neg (by rw [List.length_append]; omega), take_app m (by omega)]
    by_cases h0 : lenL b = 0
    · rw [if_pos (.inr (.inl h0)), if_pos (.inr (.inl h0))]
    · rw [getD_app m (by omega)]
theorem lineC_take (b : List UInt8) (j : Nat) (h : lineC b ≠ (0, 0, 0)) (he : (lineC b).2.2 = 0) (hj : (lineC b).2.1 ≤ j) : lineC (b.take j) = lineC b := by
  rcases lineC_cases b with e | e | ⟨s, e, hlt, _⟩
  · exact absurd e h
  · rw [e] at he; simp at he
  · rw [e] at hj
    simp only at hj
    have hb : b = b.take j ++ b.drop j := (List.take_append_drop j b).symm
    have hne : lineC (b.take j) ≠ (0, 0, 0) := by
      intro e2
      have hl : lenL (b.take j) = (b.take j).length := by
        apply Classical.byContradiction
        intro hn
        unfold lineC at e2
        rw [if_neg hn] at e2
        split at e2
        · simp at e2
        · simp at e2
      have h5 := lenL_ge (b.take j) (b.drop j) hl
      rw [← hb] at h5
      rw [List.length_take] at h5
      omega
    have := lineC_app (b.take j) (b.drop j) hne
    rw [← hb] at this
    exact this.symm
/-! the trailers -/
theorem pair_app {b m : List UInt8} (h : pairB b = true) : pairB (b ++ m) = true := pre_app _ _ _ h
theorem pair_cut {b m : List UInt8} (h : pairB (b ++ m) = true) (hl : 2 ≤ b.length) : pairB b = true := pre_cut _ _ _ h hl
theorem pair_len {b : List UInt8} (h : pairB b = true) : 2 ≤ b.length := pre_len _ _ h
theorem end_len (b : List UInt8) (h : (endOf b 0).1 ≠ 0) : ∃ i : Nat, Lib.index b E4 = i ∧ endOf b 0 = (i + 4, 0) ∧ i + 4 ≤ 8192 ∧ i + 4 ≤ b.length := by
  obtain ⟨i, h1, h2, h3, h4⟩ := end_facts b 0 h
  rw [List.drop_zero] at h1
  exact ⟨i, h1, by rw [h2]; simp, by omega, by omega⟩
theorem tail_need (b : List UInt8) : (tailC b = ([], 0, 0)) ∨ (tailC b).2.2 ≠ 0 ∨ (0 < (tailC b).2.1 ∧ (tailC b).2.1 ≤ b.length ∧ (tailC b).2.2 = 0) := by
  unfold tailC
  split
  · rename_i h
    exact .inr (.inr ⟨by simp, pair_len h, rfl⟩)
  · split
    · rename_i h1 h2
      rcases end_zero b 0 h2 with h3 | h3
      · rw [h3]; exact .inl rfl
      · rw [h3]; exact .inr (.inl (by simp))
    · rename_i h1 h2
      obtain ⟨i, _, h4, h5, h6⟩ := end_len b h2
      split
      · refine .inr (.inr ?_)
        rw [h4]
        exact ⟨by simp, by simpa using h6, rfl⟩
      · rename_i h7
        exact .inr (.inl h7)
theorem tail_app (b m : List UInt8) (h : tailC b ≠ ([], 0, 0)) : tailC (b ++ m) = tailC b := by
  by_cases hp : pairB b = true
  · unfold tailC
    rw [if_pos hp, if_pos (pair_app hp)]
  · have hl : 2 ≤ b.length := by
      rcases Nat.lt_or_ge b.length 2 with h2 | h2
      · exfalso
        apply h
        have e0 : (endOf b 0).1 = 0 := by
          apply Classical.byContradiction
          intro hn
          obtain ⟨i, _, _, _, h6⟩ := end_len b hn
          omega
        have e1 : (endOf b 0).2 = 0 := by
          unfold endOf at e0 ⊢
          split
          · rw [if_neg (by omega)]
          · rename_i h7
            rcases index_cases (b.drop 0) E4 with h8 | ⟨i, h8⟩
            · exact absurd h8 h7
            · have := index_is _ _ _ h8
              have := occ_len _ _ _ (by decide) this.2.1
              rw [List.drop_zero] at this
              simp [E4] at this
              omega
        unfold tailC
        rw [if_neg hp, if_pos e0, e1]
      · exact h2
    have hp2 : ¬ pairB (b ++ m) = true := fun e => hp (pair_cut e hl)
    by_cases hn : Lib.index (b.drop 0) E4 = -1
    · have h8 : 8192 ≤ b.length := by
        rcases Nat.lt_or_ge b.length 8192 with h3 | h3
        · exfalso
          apply h
          have e := end_none b 0 hn
          rw [if_neg (by omega)] at e
          unfold tailC
          rw [if_neg hp, e]
          rfl
        · exact h3
      have e1 := end_none b 0 hn
      rw [if_pos h8] at e1
      have e2 := end_over b m 0 0 (by omega) (Nat.le_refl _) hn h8
      unfold tailC
      rw [if_neg hp, if_neg hp2, e1, e2, if_pos rfl, if_pos rfl]
    · have e2 := end_app b m 0 (by omega) hn
      unfold tailC
      rw [if_neg hp, if_neg hp2, e2]
      by_cases hz : (endOf b 0).1 = 0
      · rw [if_pos hz, if_pos hz]
      · obtain ⟨i, _, h4, h5, h6⟩ := end_len b hz
        rw [if_neg hz, if_neg hz, take_app m (by rw [h4]; simp; omega)]
theorem tail_take (b : List UInt8) (j : Nat) (h0 : (tailC b).2.2 = 0) (h1 : 0 < (tailC b).2.1) (hj : (tailC b).2.1 ≤ j) : tailC (b.take j) = tailC b := by
  have hb : b = b.take j ++ b.drop j := (List.take_append_drop j b).symm
  have hne : tailC (b.take j) ≠ ([], 0, 0) := by
    intro e
    by_cases hp : pairB b = true
    · have h2 : tailC b = ([], 2, 0) := by unfold tailC; rw [if_pos hp]
      rw [h2] at hj
      simp only at hj
      have hl := pair_len hp
      have hp2 : pairB (b.take j) = true := by
        rw [hb] at hp
        exact pair_cut hp (by rw [List.length_take]; omega)
      unfold tailC at e
      rw [if_pos hp2] at e
      simp at e
    · have hz : (endOf b 0).1 ≠ 0 := by
        intro hz
        unfold tailC at h1
        rw [if_neg hp, if_pos hz] at h1
        simp at h1
      obtain ⟨i, h3, h4, h5, h6⟩ := end_len b hz
      have hn : (tailC b).2.1 = i + 4 := by
        unfold tailC at h0 h1 ⊢
        rw [if_neg hp, if_neg hz] at h0 h1 ⊢
        split
        · rw [h4]
        · rename_i h7; rw [if_neg h7] at h1; simp at h1
      rw [hn] at hj
      have h7 : Lib.index (b.take j) E4 = i := index_take b E4 (by decide) i j h3 (by simp [E4]; omega)
      have h8 : endOf (b.take j) 0 = (i + 4, 0) := by
        rw [end_some (b.take j) 0 i (by rw [List.drop_zero]; exact h7), if_neg (by omega)]
        simp
      have hp2 : ¬ pairB (b.take j) = true := fun e2 => hp (by rw [hb]; exact pair_app e2)
      have hpe : (parseOf (b.take (i + 2))).2 = 0 := by
        unfold tailC at h0
        rw [if_neg hp, if_neg hz, h4] at h0
        simp only at h0
        have e4 : i + 4 - 2 = i + 2 := by omega
        rw [e4] at h0
        split at h0
        · assumption
        · exact h0
      have e5 : (b.take j).take (i + 2) = b.take (i + 2) := by rw [List.take_take]; congr 1; omega
      unfold tailC at e
      rw [if_neg hp2, h8] at e
      simp only at e
      rw [if_neg (by omega), show i + 4 - 2 = i + 2 by omega, e5, if_pos hpe] at e
      simp at e
  have := tail_app (b.take j) (b.drop j) hne
  rw [← hb] at this
  exact this.symm
end Go.Proofs.YtmikgpmnffdnnaaGreatDoor
namespace Go.Proofs.YtmikgpmnffdnnaaGreatDoor
open Go.RowKit
theorem pair_same {x m : List UInt8} (h : 2 ≤ x.length) : pairB (x ++ m) = pairB x := by
  cases e : pairB x with
  | true => exact pair_app e
  | false =>
    cases e2 : pairB (x ++ m) with
    | false => rfl
    | true => rw [pair_cut e2 h] at e; cases e
theorem fin_need {n : Nat} {t : FL × Nat × Int} (h : t = ([], 0, 0)) : finC n t = St.need := by subst h; rfl
theorem data_app {b : List UInt8} (m : List UInt8) {s n k : Nat} (h : (dataC b s n k).o ≠ 0) : dataC (b ++ m) s n k = dataC b s n k := by
  unfold dataC at h ⊢
  split
  · rfl
  · rename_i h1
    rw [if_neg h1] at h
    by_cases h2 : b.length < s + 2
    · rw [if_pos h2] at h; exact absurd rfl h
    · rw [if_neg h2, if_neg (by rw [List.length_append]; omega), drop_app m (by omega), take_app m (by omega), pair_same (by rw [List.length_drop]; omega)]
theorem chs_line {b : List UInt8} {k s n : Nat} (h : lineC b = (s, n, 0)) (hn : n ≠ 0) : stepC b k = if s = 0 then finC n (tailC (b.drop n)) else dataC (b.drop n) s n k := by
  unfold stepC
  rw [h]
  simp only [ne_eq, not_true_eq_false, if_false]
  rw [if_neg hn]
theorem chs_none {b : List UInt8} {k : Nat} (h : lineC b = (0, 0, 0)) : stepC b k = St.need := by
  unfold stepC
  rw [h]
  rfl
theorem chs_bad {b : List UInt8} {k : Nat} (h : lineC b = (0, 0, 70)) : stepC b k = St.err 70 := by
  unfold stepC
  rw [h]
  rfl
theorem chs_app (b m : List UInt8) (k : Nat) (h : (stepC b k).o ≠ 0) : stepC (b ++ m) k = stepC b k := by
  rcases lineC_cases b with e | e | ⟨s, e, hlt, _⟩
  · rw [chs_none e] at h; exact absurd rfl h
  · rw [chs_bad e, chs_bad (by rw [lineC_app b m (by rw [e]; simp), e])]
  · have e2 : lineC (b ++ m) = (s, lenL b + 1, 0) := by rw [lineC_app b m (by rw [e]; simp), e]
    rw [chs_line e (by omega)] at h ⊢
    rw [chs_line e2 (by omega), drop_app m (by omega)]
    by_cases hs : s = 0
    · rw [if_pos hs] at h ⊢
      rw [if_pos hs]
      by_cases ht : tailC (b.drop (lenL b + 1)) = ([], 0, 0)
      · rw [fin_need ht] at h; exact absurd rfl h
      · rw [tail_app _ _ ht]
    · rw [if_neg hs] at h ⊢
      rw [if_neg hs, data_app m h]
/-- a chunk's and the end's facts -/
theorem chs_two (b : List UInt8) (k : Nat) (h : (stepC b k).o = 2) : ∃ s, lineC b = (s, lenL b + 1, 0) ∧ s ≠ 0 ∧ k + s ≤ 65536 ∧ lenL b + 1 + (s + 2) ≤ b.length ∧ stepC b k = ⟨2, (b.drop (lenL b + 1)).take s, [], lenL b + 1 + (s + 2), 0⟩ := by
  rcases lineC_cases b with e | e | ⟨s, e, hlt, _⟩
  · rw [chs_none e] at h; cases h
  · rw [chs_bad e] at h; cases h
  · rw [chs_line e (by omega)] at h ⊢
    by_cases hs : s = 0
    · rw [if_pos hs] at h
      unfold finC at h
      split at h
      · cases h
      · split at h
        · cases h
        · cases h
    · rw [if_neg hs] at h ⊢
      unfold dataC at h ⊢
      split at h
      · cases h
      · rename_i h1
        split at h
        · cases h
        · rename_i h2
          split at h
          · cases h
          · rename_i h3
            rw [List.length_drop] at h2
            refine ⟨s, e, hs, by omega, by omega, ?_⟩
            rw [if_neg h1, if_neg (by rw [List.length_drop]; omega), if_neg h3]
theorem chs_three (b : List UInt8) (k : Nat) (h : (stepC b k).o = 3) : lineC b = (0, lenL b + 1, 0) ∧ lenL b < b.length ∧ (tailC (b.drop (lenL b + 1))).2.2 = 0 ∧ 0 < (tailC (b.drop (lenL b + 1))).2.1 ∧ lenL b + 1 + (tailC (b.drop (lenL b + 1))).2.1 ≤ b.length ∧
    stepC b k = ⟨3, [], (tailC (b.drop (lenL b + 1))).1, lenL b + 1 + (tailC (b.drop (lenL b + 1))).2.1, 0⟩ := by
  rcases lineC_cases b with e | e | ⟨s, e, hlt, _⟩
  · rw [chs_none e] at h; cases h
  · rw [chs_bad e] at h; cases h
  · rw [chs_line e (by omega)] at h ⊢
    by_cases hs : s = 0
    · rw [if_pos hs] at h ⊢
      subst hs
      unfold finC at h ⊢
      split at h
      · cases h
      · rename_i h1
        split at h
        · cases h
        · rename_i h2
          have h3 := tail_need (b.drop (lenL b + 1))
          have h4 : (tailC (b.drop (lenL b + 1))).2.1 ≤ (b.drop (lenL b + 1)).length := by
            rcases h3 with h3 | h3 | h3
            · rw [h3] at h2; simp at h2
            · exact absurd h3 h1
            · exact h3.2.1
          rw [List.length_drop] at h4
          refine ⟨e, hlt, by simpa using h1, by omega, by omega, ?_⟩
          rw [if_neg h1, if_neg h2]
    · rw [if_neg hs] at h
      unfold dataC at h
      split at h
      · cases h
      · split at h
        · cases h
        · split at h
          · cases h
          · cases h
theorem chs_other (b : List UInt8) (k : Nat) : (stepC b k).o = 0 ∧ (stepC b k).e = 0 ∨ (stepC b k).o = 1 ∧ (stepC b k).e ≠ 0 ∨ (stepC b k).o = 2 ∨ (stepC b k).o = 3 := by
  rcases lineC_cases b with e | e | ⟨s, e, hlt, _⟩
  · rw [chs_none e]; exact .inl ⟨rfl, rfl⟩
  · rw [chs_bad e]; exact .inr (.inl ⟨rfl, by simp [St.err]⟩)
  · rw [chs_line e (by omega)]
    split
    · unfold finC
      split
      · rename_i h; exact .inr (.inl ⟨rfl, h⟩)
      · split
        · exact .inl ⟨rfl, rfl⟩
        · exact .inr (.inr (.inr rfl))
    · unfold dataC
      split
      · exact .inr (.inl ⟨rfl, by simp [St.err]⟩)
      · split
        · exact .inl ⟨rfl, rfl⟩
        · split
          · exact .inr (.inl ⟨rfl, by simp [St.err]⟩)
          · exact .inr (.inr (.inl rfl))
theorem chs_take2 (b : List UInt8) (k j : Nat) (h : (stepC b k).o = 2) (hj : (stepC b k).n ≤ j) : stepC (b.take j) k = stepC b k := by
  obtain ⟨s, e, hs, hk, hl, es⟩ := chs_two b k h
  have hn : (stepC b k).n = lenL b + 1 + (s + 2) := by rw [es]
  rw [hn] at hj
  have e2 : lineC (b.take j) = (s, lenL b + 1, 0) := by rw [lineC_take b j (by rw [e]; simp) (by rw [e]) (by rw [e]; simp; omega), e]
  have e3 : (b.take j).drop (lenL b + 1) = (b.drop (lenL b + 1)).take (j - (lenL b + 1)) := drop_take' _ _ _
  rw [chs_line e (by omega), chs_line e2 (by omega), if_neg hs, if_neg hs, e3]
  have hb : b.drop (lenL b + 1) = (b.drop (lenL b + 1)).take (j - (lenL b + 1)) ++ (b.drop (lenL b + 1)).drop (j - (lenL b + 1)) := (List.take_append_drop _ _).symm
  have h2 : (dataC ((b.drop (lenL b + 1)).take (j - (lenL b + 1))) s (lenL b + 1) k).o ≠ 0 := by
    unfold dataC
    rw [if_neg (by omega), if_neg (by rw [List.length_take, List.length_drop]; omega)]
    split <;> simp [St.err]
  have := data_app ((b.drop (lenL b + 1)).drop (j - (lenL b + 1))) h2
  rw [← hb] at this
  exact this.symm
theorem chs_take3 (b : List UInt8) (k j : Nat) (h : (stepC b k).o = 3) (hj : (stepC b k).n ≤ j) : stepC (b.take j) k = stepC b k := by
  obtain ⟨e, hlt, h0, h1, hl, es⟩ := chs_three b k h
  have hn : (stepC b k).n = lenL b + 1 + (tailC (b.drop (lenL b + 1))).2.1 := by rw [es]
  rw [hn] at hj
  have e2 : lineC (b.take j) = (0, lenL b + 1, 0) := by rw [lineC_take b j (by rw [e]; simp) (by rw [e]) (by rw [e]; simp; omega), e]
  have e3 : (b.take j).drop (lenL b + 1) = (b.drop (lenL b + 1)).take (j - (lenL b + 1)) := drop_take' _ _ _
  rw [chs_line e (by omega), chs_line e2 (by omega), if_pos rfl, if_pos rfl, e3, tail_take _ _ h0 h1 (by omega)]
theorem tail_short (b : List UInt8) (h0 : (tailC b).2.2 = 0) (h1 : 0 < (tailC b).2.1) : tailC (b.take ((tailC b).2.1 - 1)) = ([], 0, 0) := by
  by_cases hp : pairB b = true
  · have h2 : tailC b = ([], 2, 0) := by unfold tailC; rw [if_pos hp]
    rw [h2]
    obtain ⟨t, rfl⟩ := (pair_iff b).1 hp
    show tailC [13] = ([], 0, 0)
    decide +kernel
  · have hz : (endOf b 0).1 ≠ 0 := by
      intro hz
      unfold tailC at h1
      rw [if_neg hp, if_pos hz] at h1
      simp at h1
    obtain ⟨i, h3, h4, h5, h6⟩ := end_len b hz
    have hn : (tailC b).2.1 = i + 4 := by
      unfold tailC at h0 h1 ⊢
      rw [if_neg hp, if_neg hz] at h0 h1 ⊢
      split
      · rw [h4]
      · rename_i h7; rw [if_neg h7] at h1; simp at h1
    rw [hn, show i + 4 - 1 = i + 3 by omega]
    have hb : b = b.take (i + 3) ++ b.drop (i + 3) := (List.take_append_drop _ b).symm
    have hp2 : ¬ pairB (b.take (i + 3)) = true := fun e2 => hp (by rw [hb]; exact pair_app e2)
    have h7 : Lib.index (b.take (i + 3)) E4 = -1 := index_take_none b E4 (by decide) i (i + 3) h3 (by simp [E4])
    have h8 : endOf (b.take (i + 3)) 0 = (0, 0) := by
      rw [end_none (b.take (i + 3)) 0 (by rw [List.drop_zero]; exact h7), if_neg (by rw [List.length_take]; omega)]
    unfold tailC
    rw [if_neg hp2, h8]
    rfl
theorem chs_short (b : List UInt8) (k : Nat) (h : (stepC b k).o = 3) : stepC (b.take ((stepC b k).n - 1)) k = St.need := by
  obtain ⟨e, hlt, h0, h1, hl, es⟩ := chs_three b k h
  have hn : (stepC b k).n = lenL b + 1 + (tailC (b.drop (lenL b + 1))).2.1 := by rw [es]
  rw [hn]
  have e2 : lineC (b.take (lenL b + 1 + (tailC (b.drop (lenL b + 1))).2.1 - 1)) = (0, lenL b + 1, 0) := by rw [lineC_take b _ (by rw [e]; simp) (by rw [e]) (by rw [e]; simp; omega), e]
  have e3 : (b.take (lenL b + 1 + (tailC (b.drop (lenL b + 1))).2.1 - 1)).drop (lenL b + 1) = (b.drop (lenL b + 1)).take ((tailC (b.drop (lenL b + 1))).2.1 - 1) := by
    rw [drop_take']; congr 1; omega
  rw [chs_line e2 (by omega), if_pos rfl, e3, tail_short _ h0 h1]
  rfl
/-! the whole -/
theorem dec_app : ∀ (f : Nat) (b m out : List UInt8) (p g : Nat), b.length < f → (b ++ m).length < g → ((decG f b out p).2.2.2 ≠ 0 ∨ 0 < (decG f b out p).2.2.1) → decG g (b ++ m) out p = decG f b out p := by
  intro f
  induction f with
  | zero => intro b m out p g h; omega
  | succ f ih =>
    intro b m out p g hf hg h
    obtain ⟨g, rfl⟩ : ∃ g', g = g' + 1 := ⟨g - 1, by omega⟩
    rcases chs_other b out.length with ⟨h0, he⟩ | ⟨h1, he⟩ | h2 | h3
    · rw [dec_stop (by omega) (by omega), he] at h
      simp at h
    · have e := chs_app b m out.length (by omega)
      rw [dec_stop (by rw [e]; omega) (by rw [e]; omega), dec_stop (by omega) (by omega), e]
    · have e := chs_app b m out.length (by omega)
      obtain ⟨s, _, _, _, hl, es⟩ := chs_two b out.length h2
      have hn : (stepC b out.length).n = lenL b + 1 + (s + 2) := by rw [es]
      rw [dec_chunk h2] at h ⊢
      rw [dec_chunk (by rw [e]; exact h2), e, drop_app m (by omega)]
      refine ih _ _ _ _ _ (by rw [List.length_drop]; omega) ?_ h
      rw [List.length_append] at hg ⊢
      rw [List.length_drop]
      omega
    · have e := chs_app b m out.length (by omega)
      rw [dec_fin (by rw [e]; exact h3), dec_fin h3, e]
theorem dec_fuel (f g : Nat) (b out : List UInt8) (p : Nat) (hf : b.length < f) (hg : b.length < g) : decG f b out p = decG g b out p := by
  induction f generalizing g b out p with
  | zero => omega
  | succ f ih =>
    obtain ⟨g, rfl⟩ : ∃ g', g = g' + 1 := ⟨g - 1, by omega⟩
    rcases chs_other b out.length with ⟨h0, _⟩ | ⟨h1, _⟩ | h2 | h3
    · rw [dec_stop (by omega) (by omega), dec_stop (by omega) (by omega)]
    · rw [dec_stop (by omega) (by omega), dec_stop (by omega) (by omega)]
    · obtain ⟨s, _, _, _, hl, es⟩ := chs_two b out.length h2
      have hn : (stepC b out.length).n = lenL b + 1 + (s + 2) := by rw [es]
      rw [dec_chunk h2, dec_chunk h2]
      exact ih _ _ _ _ (by rw [List.length_drop]; omega) (by rw [List.length_drop]; omega)
    · rw [dec_fin h3, dec_fin h3]
theorem dec_zero : ∀ (f : Nat) (b out : List UInt8) (p : Nat), (decG f b out p).2.2.1 = 0 → (decG f b out p).1 = [] ∧ (decG f b out p).2.1 = [] := by
  intro f
  induction f with
  | zero => intro b out p _; exact ⟨rfl, rfl⟩
  | succ f ih =>
    intro b out p h
    rcases chs_other b out.length with ⟨h0, _⟩ | ⟨h1, _⟩ | h2 | h3
    · rw [dec_stop (by omega) (by omega)]; exact ⟨rfl, rfl⟩
    · rw [dec_stop (by omega) (by omega)]; exact ⟨rfl, rfl⟩
    · rw [dec_chunk h2] at h ⊢
      exact ih _ _ _ h
    · obtain ⟨_, _, _, h5, hl, es⟩ := chs_three b out.length h3
      rw [dec_fin h3] at h
      simp only at h
      rw [es] at h
      simp only at h
      omega
theorem dec_bad : ∀ (f : Nat) (b out : List UInt8) (p : Nat), (decG f b out p).2.2.2 ≠ 0 → (decG f b out p).2.2.1 = 0 := by
  intro f
  induction f with
  | zero => intro b out p _; rfl
  | succ f ih =>
    intro b out p h
    rcases chs_other b out.length with ⟨h0, _⟩ | ⟨h1, _⟩ | h2 | h3
    · rw [dec_stop (by omega) (by omega)]
    · rw [dec_stop (by omega) (by omega)]
    · rw [dec_chunk h2] at h ⊢
      exact ih _ _ _ h
    · rw [dec_fin h3] at h; simp at h
/-- what is told lies within the bytes; of just these it is told, of one fewer more is needed -/
theorem dec_own : ∀ (f : Nat) (b out : List UInt8) (p : Nat), b.length < f → 0 < (decG f b out p).2.2.1 →
    ∃ j, (decG f b out p).2.2.1 = p + j ∧ 0 < j ∧ j ≤ b.length ∧ (∀ g, (b.take j).length < g → decG g (b.take j) out p = decG f b out p) ∧ (∀ g, (b.take (j - 1)).length < g → decG g (b.take (j - 1)) out p = ([], [], 0, 0)) := by
  intro f
  induction f with
  | zero => intro b out p h; omega
  | succ f ih =>
    intro b out p hf h
    rcases chs_other b out.length with ⟨h0, _⟩ | ⟨h1, _⟩ | h2 | h3
    · rw [dec_stop (by omega) (by omega)] at h; simp at h
    · rw [dec_stop (by omega) (by omega)] at h; simp at h
    · obtain ⟨s, _, _, _, hl, es⟩ := chs_two b out.length h2
      have hn : (stepC b out.length).n = lenL b + 1 + (s + 2) := by rw [es]
      rw [dec_chunk h2] at h ⊢
      obtain ⟨j, e1, j0, j1, j2, j3⟩ := ih _ _ _ (by rw [List.length_drop]; omega) h
      rw [List.length_drop] at j1
      have hs1 : stepC (b.take ((stepC b out.length).n + j)) out.length = stepC b out.length := chs_take2 b _ _ h2 (by omega)
      have hs2 : stepC (b.take ((stepC b out.length).n + j - 1)) out.length = stepC b out.length := chs_take2 b _ _ h2 (by omega)
      refine ⟨(stepC b out.length).n + j, by rw [e1]; omega, by omega, by omega, fun g hg => ?_, fun g hg => ?_⟩
      · obtain ⟨g, rfl⟩ : ∃ g', g = g' + 1 := ⟨g - 1, by omega⟩
        rw [dec_chunk (by rw [hs1]; exact h2), hs1, drop_take', Nat.add_sub_cancel_left]
        refine j2 g ?_
        rw [List.length_take] at hg ⊢
        rw [List.length_drop]
        omega
      · obtain ⟨g, rfl⟩ : ∃ g', g = g' + 1 := ⟨g - 1, by omega⟩
        rw [dec_chunk (by rw [hs2]; exact h2), hs2, drop_take', show (stepC b out.length).n + j - 1 - (stepC b out.length).n = j - 1 by omega]
        refine j3 g ?_
        rw [List.length_take] at hg ⊢
        rw [List.length_drop]
        omega
    · obtain ⟨_, _, _, h5, hl, es⟩ := chs_three b out.length h3
      have hn : (stepC b out.length).n = lenL b + 1 + (tailC (b.drop (lenL b + 1))).2.1 := by rw [es]
      rw [dec_fin h3] at h ⊢
      have hs1 : stepC (b.take (stepC b out.length).n) out.length = stepC b out.length := chs_take3 b _ _ h3 (Nat.le_refl _)
      have hs2 := chs_short b out.length h3
      refine ⟨(stepC b out.length).n, rfl, by omega, by omega, fun g hg => ?_, fun g hg => ?_⟩
      · obtain ⟨g, rfl⟩ : ∃ g', g = g' + 1 := ⟨g - 1, by omega⟩
        rw [dec_fin (by rw [hs1]; exact h3), hs1]
      · obtain ⟨g, rfl⟩ : ∃ g', g = g' + 1 := ⟨g - 1, by omega⟩
        rw [dec_stop (by rw [hs2]; simp [St.need]) (by rw [hs2]; simp [St.need]), hs2]
        rfl
end Go.Proofs.YtmikgpmnffdnnaaGreatDoor
namespace Go.Proofs.YtmikgpmnffdnnaaGreatDoor
open Go.RowKit
def hexB (v : Nat) : UInt8 := if v < 10 then UInt8.ofNat (48 + v) else UInt8.ofNat (87 + v)
def hexL : Nat → Nat → List UInt8
  | 0, _ => []
  | f + 1, v => if v = 0 then [] else hexL f (v / 16) ++ [hexB (v % 16)]
/-- a number below 2^32 in hexadecimal digits; 0: none -/
def hexOf (v : Nat) : List UInt8 := hexL 8 v
def encC : Nat → List UInt8 → Nat → List UInt8
  | 0, _, _ => []
  | f + 1, d, s => if d = [] then [] else hexOf (d.take s).length ++ 13 :: 10 :: (d.take s ++ 13 :: 10 :: encC f (d.drop s) s)
def lastC (t : List UInt8) : List UInt8 := 48 :: 13 :: 10 :: (t ++ [13, 10])
def encOf (d : List UInt8) (s : Int) (fs : FL) : List UInt8 × Int :=
  if s < 1 ∨ 65536 < s then ([], 70) else if 65536 < d.length then ([], 71) else if (printP fs).2 ≠ 0 then ([], (printP fs).2)
  else if 8192 < (printP fs).1.length + 2 then ([], 51) else (encC (d.length + 1) d s.toNat ++ lastC (printP fs).1, 0)
theorem hexB_facts : ∀ v : Fin 16, isHex (hexB v.val) = true ∧ (hexI ((hexB v.val).toNat : Int)).toNat = v.val ∧ no10 (hexB v.val) = true := by decide
theorem hexB_at (v : Nat) (h : v < 16) : isHex (hexB v) = true ∧ (hexI ((hexB v).toNat : Int)).toNat = v ∧ no10 (hexB v) = true := hexB_facts ⟨v, h⟩
theorem hexS_snoc (l : List UInt8) (c : UInt8) : hexS (l ++ [c]) = hexS l * 16 + (hexI (c.toNat : Int)).toNat := by unfold hexS; rw [List.foldl_append]; rfl
theorem hexL_facts : ∀ (f v : Nat), v < 16 ^ f → hexS (hexL f v) = v ∧ (hexL f v).length ≤ f ∧ (∀ c ∈ hexL f v, isHex c = true ∧ no10 c = true) ∧ (0 < v → 0 < (hexL f v).length) := by
  intro f
  induction f with
  | zero =>
    intro v h
    have : v = 0 := by simpa using h
    subst this
    exact ⟨rfl, Nat.le_refl _, fun c hc => by simp [hexL] at hc, fun h => by omega⟩
  | succ f ih =>
    intro v h
    by_cases h0 : v = 0
    · subst h0
      simp [hexL, hexS]
    · have h1 : v / 16 < 16 ^ f := by rw [Nat.div_lt_iff_lt_mul (by decide)]; rw [Nat.pow_succ] at h; exact h
      obtain ⟨i1, i2, i3, _⟩ := ih (v / 16) h1
      have hb := hexB_at (v % 16) (Nat.mod_lt _ (by decide))
      have e : hexL (f + 1) v = hexL f (v / 16) ++ [hexB (v % 16)] := by rw [hexL, if_neg h0]
      rw [e]
      refine ⟨?_, ?_, ?_, ?_⟩
      · rw [hexS_snoc, i1, hb.2.1]; omega
      · rw [List.length_append]; simp; omega
      · intro c hc
        rcases List.mem_append.1 hc with hc | hc
        · exact i3 c hc
        · simp at hc; subst hc; exact ⟨hb.1, hb.2.2⟩
      · intro _; simp
theorem hexOf_facts (v : Nat) (h : v ≤ 65536) : hexS (hexOf v) = v ∧ (hexOf v).length ≤ 8 ∧ (∀ c ∈ hexOf v, isHex c = true ∧ no10 c = true) ∧ (0 < v → 0 < (hexOf v).length) := hexL_facts 8 v (Nat.lt_of_le_of_lt h (by decide))
theorem while_all' {p : UInt8 → Bool} {a b : List UInt8} (h : ∀ c ∈ a, p c = true) : (a ++ b).takeWhile p = a ++ b.takeWhile p ∧ (a ++ b).dropWhile p = b.dropWhile p := by
  induction a with
  | nil => exact ⟨rfl, rfl⟩
  | cons c r ih =>
    have h1 := h c (by simp)
    obtain ⟨i1, i2⟩ := ih (fun c hc => h c (by simp [hc]))
    rw [List.cons_append, List.takeWhile_cons, List.dropWhile_cons, h1, if_pos rfl, if_pos rfl, i1, i2]
    exact ⟨rfl, rfl⟩
theorem sizeC_hex {l : List UInt8} (h1 : 0 < l.length) (h2 : l.length ≤ 8) (h3 : ∀ c ∈ l, isHex c = true) : sizeC l = (hexS l : Int) := by
  have e := while_all' (b := []) h3
  rw [List.append_nil] at e
  simp only [List.takeWhile_nil, List.dropWhile_nil, List.append_nil] at e
  unfold sizeC
  rw [e.1, e.2, if_neg]
  rintro (h | h | h)
  · omega
  · omega
  · cases h
/-- a size line that was written -/
theorem lineC_hex {l r : List UInt8} (h1 : 0 < l.length) (h2 : l.length ≤ 8) (h3 : ∀ c ∈ l, isHex c = true ∧ no10 c = true) : lineC (l ++ 13 :: 10 :: r) = (hexS l, l.length + 2, 0) := by
  have e : (l ++ 13 :: 10 :: r).takeWhile no10 = l ++ [13] := by
    rw [(while_all' (b := 13 :: 10 :: r) (fun c hc => (h3 c hc).2)).1]
    rfl
  have hk : lenL (l ++ 13 :: 10 :: r) = l.length + 1 := by unfold lenL; rw [e]; simp
  have hd : (l ++ 13 :: 10 :: r).getD (l.length + 1 - 1) 0 = 13 := by
    rw [Nat.add_sub_cancel, List.getD_eq_getElem?_getD, List.getElem?_append_right (Nat.le_refl _)]
    simp
  have ht : (l ++ 13 :: 10 :: r).take (l.length + 1 - 1) = l := by
    rw [Nat.add_sub_cancel, take_app _ (Nat.le_refl _), List.take_of_length_le (Nat.le_refl _)]
  have hs := sizeC_hex h1 h2 (fun c hc => (h3 c hc).1)
  unfold lineC
  rw [hk, hd, ht, hs, if_neg (by simp), if_neg]
  · simp
  · rintro (h | h | h | h)
    · omega
    · omega
    · exact h rfl
    · omega
theorem chs_enc {d more : List UInt8} {k : Nat} (h0 : 0 < d.length) (hk : k + d.length ≤ 65536) :
    stepC (hexOf d.length ++ 13 :: 10 :: (d ++ 13 :: 10 :: more)) k = ⟨2, d, [], (hexOf d.length).length + 2 + (d.length + 2), 0⟩ := by
  obtain ⟨h1, h2, h3, h4⟩ := hexOf_facts d.length (by omega)
  have e := lineC_hex (r := d ++ 13 :: 10 :: more) (h4 h0) h2 h3
  rw [h1] at e
  have ed : (hexOf d.length ++ 13 :: 10 :: (d ++ 13 :: 10 :: more)).drop ((hexOf d.length).length + 2) = d ++ 13 :: 10 :: more := by
    rw [List.drop_append]; simp
  rw [chs_line e (by omega), if_neg (by omega), ed]
  unfold dataC
  have e2 : (d ++ 13 :: 10 :: more).drop d.length = 13 :: 10 :: more := by simp
  have e3 : (d ++ 13 :: 10 :: more).take d.length = d := by simp
  rw [if_neg (by omega), if_neg (by rw [List.length_append, List.length_cons, List.length_cons]; omega), e2, e3, if_neg (by rw [(pair_iff _).2 ⟨more, rfl⟩]; decide)]
/-- where the trailers end -/
theorem tail_enc {fs : FL} (rest : List UInt8) (h : (printP fs).2 = 0) (hc : (printP fs).1.length + 2 ≤ 8192) : tailC ((printP fs).1 ++ 13 :: 10 :: rest) = (fs, (printP fs).1.length + 2, 0) := by
  have hr := parse_printP fs h
  obtain ⟨e0, hg⟩ := printP_parts fs h
  rw [e0] at hc hr ⊢
  cases fs with
  | nil =>
    have : pairB (printOf [] ++ 13 :: 10 :: rest) = true := (pair_iff _).2 ⟨rest, rfl⟩
    unfold tailC
    rw [if_pos this]
    rfl
  | cons f r =>
    have hg2 : goodF f = true ∧ r.all goodF = true := by
      rw [List.all_cons, Bool.and_eq_true] at hg; exact hg
    obtain ⟨hcl, c, t, ec, hce⟩ := good_clean hg2.1
    have ep : printOf (f :: r) = (f.1 ++ 58 :: 32 :: f.2) ++ 13 :: 10 :: printOf r := by
      unfold printOf
      rw [List.map_cons, List.flatten_cons]
      unfold lineB
      simp
    have ei : Lib.index (printOf (f :: r) ++ 13 :: 10 :: rest) E4 = (((f.1 ++ 58 :: 32 :: f.2).length + (printOf r).length : Nat) : Int) := by
      rw [ep]
      have := idx_head r (f.1 ++ 58 :: 32 :: f.2) rest hcl hg2.2
      rw [← this]
      simp
    have el : (printOf (f :: r)).length = (f.1 ++ 58 :: 32 :: f.2).length + (printOf r).length + 2 := by
      rw [ep, List.length_append, List.length_cons, List.length_cons]; omega
    have hnp : ¬ pairB (printOf (f :: r) ++ 13 :: 10 :: rest) = true := by
      intro e
      obtain ⟨t2, e2⟩ := (pair_iff _).1 e
      rw [ep, ec] at e2
      simp only [List.cons_append, List.cons.injEq] at e2
      rw [e2.1] at hce
      exact absurd hce (by decide)
    have ee : endOf (printOf (f :: r) ++ 13 :: 10 :: rest) 0 = ((printOf (f :: r)).length + 2, 0) := by
      rw [end_some _ 0 _ (by rw [List.drop_zero]; exact ei), if_neg (by omega)]
      congr 1
      omega
    unfold tailC
    rw [if_neg hnp, ee]
    simp only [Nat.add_sub_cancel]
    rw [if_neg (by omega), take_app _ (Nat.le_refl _), List.take_of_length_le (Nat.le_refl _), hr]
    simp
theorem chs_last {fs : FL} (rest : List UInt8) (k : Nat) (h : (printP fs).2 = 0) (hc : (printP fs).1.length + 2 ≤ 8192) :
    stepC (lastC (printP fs).1 ++ rest) k = ⟨3, [], fs, (lastC (printP fs).1).length, 0⟩ := by
  have e : lineC ([48] ++ 13 :: 10 :: ((printP fs).1 ++ 13 :: 10 :: rest)) = (0, 3, 0) := lineC_hex (by decide) (by decide) (by decide)
  have el : lastC (printP fs).1 ++ rest = [48] ++ 13 :: 10 :: ((printP fs).1 ++ 13 :: 10 :: rest) := by unfold lastC; simp
  have ed : ([48] ++ 13 :: 10 :: ((printP fs).1 ++ 13 :: 10 :: rest)).drop 3 = (printP fs).1 ++ 13 :: 10 :: rest := rfl
  have en : (lastC (printP fs).1).length = 3 + ((printP fs).1.length + 2) := by unfold lastC; simp; omega
  rw [el, chs_line e (by decide), if_pos rfl, ed, tail_enc rest h hc, en]
  unfold finC
  simp
theorem enc_next {f s : Nat} {d : List UInt8} (h : d ≠ []) : encC (f + 1) d s = hexOf (d.take s).length ++ 13 :: 10 :: (d.take s ++ 13 :: 10 :: encC f (d.drop s) s) := by rw [encC, if_neg h]
/-- what is written is read -/
theorem dec_enc {fs : FL} (rest : List UInt8) (s : Nat) (hs : 0 < s) (h : (printP fs).2 = 0) (hc : (printP fs).1.length + 2 ≤ 8192) : ∀ (f : Nat) (d out : List UInt8) (p g : Nat), d.length < f → out.length + d.length ≤ 65536 →
    ((encC f d s ++ lastC (printP fs).1) ++ rest).length < g → decG g ((encC f d s ++ lastC (printP fs).1) ++ rest) out p = (out ++ d, fs, p + (encC f d s ++ lastC (printP fs).1).length, 0) := by
  intro f
  induction f with
  | zero => intro d out p g h; omega
  | succ f ih =>
    intro d out p g hf hk hg
    obtain ⟨g, rfl⟩ : ∃ g', g = g' + 1 := ⟨g - 1, by omega⟩
    by_cases hd : d = []
    · subst hd
      have e : encC (f + 1) [] s = [] := by rw [encC, if_pos rfl]
      rw [e, List.nil_append] at hg ⊢
      have hst := chs_last rest out.length h hc
      rw [dec_fin (by rw [hst]), hst, List.append_nil]
    · have hd0 : 0 < d.length := List.length_pos_iff.2 hd
      have ht0 : 0 < (d.take s).length := by rw [List.length_take]; omega
      have htl : (d.take s).length ≤ d.length := by rw [List.length_take]; omega
      have e : (encC (f + 1) d s ++ lastC (printP fs).1) ++ rest = hexOf (d.take s).length ++ 13 :: 10 :: (d.take s ++ 13 :: 10 :: ((encC f (d.drop s) s ++ lastC (printP fs).1) ++ rest)) := by
        rw [enc_next hd]; simp
      have hst := chs_enc (d := d.take s) (more := (encC f (d.drop s) s ++ lastC (printP fs).1) ++ rest) (k := out.length) ht0 (by omega)
      have ed : (hexOf (d.take s).length ++ 13 :: 10 :: (d.take s ++ 13 :: 10 :: ((encC f (d.drop s) s ++ lastC (printP fs).1) ++ rest))).drop ((hexOf (d.take s).length).length + 2 + ((d.take s).length + 2)) = (encC f (d.drop s) s ++ lastC (printP fs).1) ++ rest := by
        have e1 : hexOf (d.take s).length ++ 13 :: 10 :: (d.take s ++ 13 :: 10 :: ((encC f (d.drop s) s ++ lastC (printP fs).1) ++ rest)) = (hexOf (d.take s).length ++ [13, 10] ++ d.take s ++ [13, 10]) ++ ((encC f (d.drop s) s ++ lastC (printP fs).1) ++ rest) := by simp
        rw [e1, List.drop_append]
        have e2 : (hexOf (d.take s).length ++ [13, 10] ++ d.take s ++ [13, 10]).length = (hexOf (d.take s).length).length + 2 + ((d.take s).length + 2) := by simp only [List.length_append, List.length_cons, List.length_nil]; omega
        rw [← e2, List.drop_length, Nat.sub_self, List.drop_zero, List.nil_append]
      have elen : ((encC (f + 1) d s ++ lastC (printP fs).1) ++ rest).length = (hexOf (d.take s).length).length + 2 + ((d.take s).length + 2) + ((encC f (d.drop s) s ++ lastC (printP fs).1) ++ rest).length := by
        rw [e]; simp only [List.length_append, List.length_cons]; omega
      have elen2 : (encC (f + 1) d s ++ lastC (printP fs).1).length = (hexOf (d.take s).length).length + 2 + ((d.take s).length + 2) + (encC f (d.drop s) s ++ lastC (printP fs).1).length := by
        have h1 : ((encC (f + 1) d s ++ lastC (printP fs).1) ++ rest).length = (encC (f + 1) d s ++ lastC (printP fs).1).length + rest.length := List.length_append
        have h2 : ((encC f (d.drop s) s ++ lastC (printP fs).1) ++ rest).length = (encC f (d.drop s) s ++ lastC (printP fs).1).length + rest.length := List.length_append
        omega
      rw [elen] at hg
      rw [elen2, e, dec_chunk (by rw [hst]), hst]
      simp only
      rw [ed, ih (d.drop s) (out ++ d.take s) _ g (by rw [List.length_drop]; omega) (by rw [List.length_append, List.length_drop, List.length_take]; omega) (by omega)]
      rw [List.append_assoc, List.take_append_drop, Nat.add_assoc]
theorem enc_round {d : List UInt8} {s : Int} {fs : FL} {a : List UInt8} (h : encOf d s fs = (a, 0)) (rest : List UInt8) : decOf (a ++ rest) = (d, fs, a.length, 0) := by
  unfold encOf at h
  split at h
  · simp at h
  · rename_i h1
    split at h
    · simp at h
    · rename_i h2
      split at h
      · rename_i h3; simp only [Prod.mk.injEq] at h; exact absurd h.2 h3
      · rename_i h3
        split at h
        · simp at h
        · rename_i h4
          simp only [Prod.mk.injEq, and_true] at h
          subst h
          have := dec_enc (fs := fs) rest s.toNat (by omega) (by simpa using h3) (by omega) (d.length + 1) d [] 0 (((encC (d.length + 1) d s.toNat ++ lastC (printP fs).1) ++ rest).length + 1) (by omega) (by simp; omega) (by omega)
          unfold decOf
          rw [this]
          simp
theorem enc_pos {d : List UInt8} {s : Int} {fs : FL} {a : List UInt8} (h : encOf d s fs = (a, 0)) : 5 ≤ a.length := by
  unfold encOf at h
  split at h
  · simp at h
  · split at h
    · simp at h
    · split at h
      · rename_i h3; simp only [Prod.mk.injEq] at h; exact absurd h.2 h3
      · split at h
        · simp at h
        · simp only [Prod.mk.injEq, and_true] at h
          subst h
          unfold lastC
          simp; omega
theorem enc_short {d : List UInt8} {s : Int} {fs : FL} {a : List UInt8} (h : encOf d s fs = (a, 0)) (rest : List UInt8) : decOf ((a ++ rest).take (a.length - 1)) = ([], [], 0, 0) := by
  have h1 := enc_round h rest
  have h2 := enc_pos h
  unfold decOf at h1
  obtain ⟨j, e1, j0, j1, _, j3⟩ := dec_own _ (a ++ rest) [] 0 (Nat.lt_succ_self _) (by rw [h1]; simp; omega)
  rw [h1] at e1
  simp only [Nat.zero_add] at e1
  subst e1
  exact j3 _ (Nat.lt_succ_self _)
theorem enc_bad {d : List UInt8} {s : Int} {fs : FL} (h : (encOf d s fs).2 ≠ 0) : (encOf d s fs).1 = [] := by
  unfold encOf at h ⊢
  split
  · rfl
  · split
    · rfl
    · split
      · rfl
      · split
        · rfl
        · rename_i h1 h2 h3 h4; rw [if_neg h1, if_neg h2, if_neg h3, if_neg h4] at h; simp at h
end Go.Proofs.YtmikgpmnffdnnaaGreatDoor
namespace Go.Proofs.YtmikgpmnffdnnaaGreatDoor
open Go.RowKit
theorem mem_while {p : UInt8 → Bool} : ∀ {l : List UInt8} {c : UInt8}, c ∈ l.takeWhile p → p c = true := by
  intro l
  induction l with
  | nil => intro c h; simp at h
  | cons x r ih =>
    intro c h
    rw [List.takeWhile_cons] at h
    split at h
    · rename_i hx
      rcases List.mem_cons.1 h with rfl | h
      · exact hx
      · exact ih h
    · simp at h
def noSemi (c : UInt8) : Bool := decide (c ≠ 59)
theorem noSemi_iff (c : UInt8) : noSemi c = false ↔ c = 59 := by unfold noSemi; simp
def digL (l : List UInt8) : List UInt8 := l.takeWhile noSemi
def extL (l : List UInt8) : List UInt8 := (l.dropWhile noSemi).drop 1
def goodZ (l : List UInt8) : Bool := decide (0 < (digL l).length) && ((digL l).all isHex && (decide ((digL l).length ≤ 8) && (extL l).all txt))
theorem hex_semi (c : UInt8) (h : isHex c = true) : noSemi c = true := by
  unfold noSemi
  rw [decide_eq_true_iff]
  intro e
  subst e
  exact absurd h (by decide)
theorem semi_rest (l : List UInt8) : l.dropWhile noSemi = [] ∨ ∃ r, l.dropWhile noSemi = 59 :: r := by
  induction l with
  | nil => exact .inl rfl
  | cons c r ih =>
    rw [List.dropWhile_cons]
    split
    · exact ih
    · rename_i h
      exact .inr ⟨r, by rw [(noSemi_iff c).1 (by simpa using h)]⟩
theorem size_good (l : List UInt8) (h : goodZ l = true) : sizeC l = (hexS (digL l) : Int) := by
  unfold goodZ at h
  simp only [Bool.and_eq_true, decide_eq_true_eq] at h
  obtain ⟨h1, h2, h3, h4⟩ := h
  have e := while_app2 noSemi l
  have hx : ∀ c ∈ l.takeWhile noSemi, isHex c = true := fun c hc => List.all_eq_true.1 h2 c hc
  have hb : ∀ c r, l.dropWhile noSemi = c :: r → isHex c = false := by
    intro c r hr
    rcases semi_rest l with h | ⟨r2, h⟩
    · rw [h] at hr; cases hr
    · rw [h] at hr; injection hr with h1 h2; subst h1; decide
  have k := while_app isHex (l.takeWhile noSemi) (l.dropWhile noSemi) hx hb
  rw [e] at k
  unfold sizeC
  rw [k.1, k.2, if_neg]
  · rfl
  · unfold digL at h1 h3
    rintro (q | q | q)
    · omega
    · omega
    · unfold extL at h4
      rcases semi_rest l with h | ⟨r, h⟩
      · rw [h] at q; cases q
      · rw [h] at q h4
        simp only [List.drop_succ_cons, List.drop_zero] at h4
        have q' : (decide ((59 : UInt8) = 59) && ((59 : UInt8) :: r).all txt) = false := q
        rw [List.all_cons, h4] at q'
        exact absurd q' (by decide)
theorem size_bad (l : List UInt8) (h : goodZ l = false) : sizeC l < 0 := by
  unfold sizeC
  rw [if_pos]
  · decide
  · apply Classical.byContradiction
    intro hn
    rw [not_or, not_or] at hn
    obtain ⟨n1, n2, n3⟩ := hn
    have n3' : extOk (l.dropWhile isHex) = true := by simpa using n3
    have e := while_app2 isHex l
    have hx : ∀ c ∈ l.takeWhile isHex, noSemi c = true := fun c hc => hex_semi c (mem_while hc)
    have hb : ∀ c r, l.dropWhile isHex = c :: r → noSemi c = false := by
      intro c r hr
      rw [hr] at n3'
      unfold extOk at n3'
      rw [Bool.and_eq_true] at n3'
      exact (noSemi_iff c).2 (by simpa using n3'.1)
    have k := while_app noSemi (l.takeWhile isHex) (l.dropWhile isHex) hx hb
    rw [e] at k
    have hg : goodZ l = true := by
      unfold goodZ digL extL
      rw [k.1, k.2]
      have a1 : (l.takeWhile isHex).all isHex = true := List.all_eq_true.2 (fun c hc => mem_while hc)
      rw [a1, decide_eq_true (by omega), decide_eq_true (by omega)]
      simp only [Bool.true_and]
      cases hd : l.dropWhile isHex with
      | nil => rfl
      | cons c r =>
        rw [hd] at n3'
        unfold extOk at n3'
        rw [Bool.and_eq_true, List.all_cons, Bool.and_eq_true] at n3'
        exact n3'.2.2
    rw [hg] at h
    cases h
theorem size_is (l : List UInt8) : goodZ l = decide (0 ≤ sizeC l) := by
  cases h : goodZ l with
  | true => rw [size_good l h]; simp
  | false => have := size_bad l h; simp; omega
theorem dig_len (l : List UInt8) : (digL l).length ≤ l.length := (List.takeWhile_sublist _).length_le
theorem ext_len (l : List UInt8) : (extL l).length ≤ l.length := by
  unfold extL; rw [List.length_drop]
  have := (List.dropWhile_sublist (p := noSemi) (l := l)).length_le
  omega
theorem hexI_le (c : UInt8) : (hexI (c.toNat : Int)).toNat ≤ 15 := by
  unfold hexI
  split
  · omega
  · split
    · omega
    · split <;> omega
theorem hexF_lt : ∀ (l : List UInt8) (a : Nat), l.foldl (fun a c => a * 16 + (hexI (c.toNat : Int)).toNat) a < (a + 1) * 16 ^ l.length := by
  intro l
  induction l with
  | nil => intro a; simp
  | cons c r ih =>
    intro a
    rw [List.foldl_cons, List.length_cons, Nat.pow_succ, Nat.mul_comm (16 ^ r.length) 16, ← Nat.mul_assoc]
    have hc := hexI_le c
    exact Nat.lt_of_lt_of_le (ih _) (Nat.mul_le_mul_right _ (by omega))
theorem hexS_lt (l : List UInt8) : hexS l < 16 ^ l.length := by
  have := hexF_lt l 0
  unfold hexS
  omega
/-! a line's end -/
theorem index10 (l : List UInt8) : Lib.indexByte l 10 = if lenL l = l.length then -1 else (lenL l : Int) := by
  induction l with
  | nil => rfl
  | cons c r ih =>
    unfold lenL at ih ⊢
    rw [Lib.indexByte, List.takeWhile_cons]
    by_cases h : c = 10
    · subst h
      rfl
    · have hn : no10 c = true := by unfold no10; simpa using h
      rw [if_neg (by simpa using h), hn, if_pos rfl, ih]
      simp only [List.length_cons]
      by_cases h2 : (r.takeWhile no10).length = r.length
      · rw [if_pos h2, if_pos (show ((-1 : Int) == -1) = true from rfl), if_pos (by omega)]
      · rw [if_neg h2, if_neg (fun e => by have := beq_iff_eq.1 e; omega), if_neg (by omega)]
        simp
theorem at10 (l : List UInt8) (h : lenL l < l.length) : l[lenL l] = 10 := by
  induction l with
  | nil => simp at h
  | cons c r ih =>
    unfold lenL at h ih ⊢
    by_cases hc : no10 c = true
    · have e : ((c :: r).takeWhile no10).length = (r.takeWhile no10).length + 1 := by rw [List.takeWhile_cons, if_pos hc]; rfl
      have h2 : (r.takeWhile no10).length < r.length := by rw [e] at h; simp at h; exact h
      have := ih h2
      rw [← this]
      simp only [e, List.getElem_cons_succ]
    · have e : ((c :: r).takeWhile no10).length = 0 := by rw [List.takeWhile_cons, if_neg hc]; rfl
      simp only [e, List.getElem_cons_zero]
      exact (no10_iff c).1 (by simpa using hc)
/-- the line with its 10 ends in the pair: a byte 13 stands ahead of the 10 -/
def endL (b : List UInt8) : Bool := decide (¬ lenL b = 0 ∧ b.getD (lenL b - 1) 0 = 13)
theorem suf_end (b : List UInt8) (h : lenL b < b.length) : Lib.hasSuffix (b.take (lenL b + 1)) [13, 10] = endL b := by
  have ht : b.take (lenL b + 1) = b.take (lenL b) ++ [10] := by rw [List.take_succ_eq_append_getElem h, at10 b h]
  unfold Lib.hasSuffix endL
  by_cases h0 : lenL b = 0
  · rw [ht, h0]
    simp
    decide
  · obtain ⟨k, hk⟩ : ∃ k, lenL b = k + 1 := ⟨lenL b - 1, by omega⟩
    rw [ht, hk]
    have hk2 : k < b.length := by omega
    rw [List.take_succ_eq_append_getElem hk2, List.append_assoc]
    have hd : b.getD (k + 1 - 1) 0 = b[k] := by rw [Nat.add_sub_cancel, List.getD_eq_getElem?_getD, List.getElem?_eq_getElem hk2]; rfl
    rw [hd]
    by_cases h13 : b[k] = 13
    · rw [h13, decide_eq_true ⟨by omega, rfl⟩, List.isSuffixOf_iff_suffix]
      exact ⟨_, rfl⟩
    · rw [decide_eq_false (fun x => h13 x.2)]
      apply Bool.eq_false_iff.2
      intro hs
      rw [List.isSuffixOf_iff_suffix] at hs
      obtain ⟨t, ht2⟩ := hs
      have e2 : t ++ [13] ++ [10] = b.take k ++ [b[k]] ++ [10] := by rw [List.append_assoc, List.append_assoc]; exact ht2
      have e3 := List.append_inj_left' e2 rfl
      have e4 := List.append_inj_right' e3 rfl
      injection e4 with e5
      exact h13 e5.symm
/-- the line without its end, where it has one -/
def lineL (b : List UInt8) : List UInt8 := if endL b = true then b.take (lenL b - 1) else b.take (lenL b + 1)
theorem trim_end (b : List UInt8) (h : lenL b < b.length) : Lib.trimSuffix (b.take (lenL b + 1)) [13, 10] = lineL b := by
  unfold Lib.trimSuffix lineL
  rw [suf_end b h]
  cases e : endL b with
  | true =>
    unfold endL at e
    have := of_decide_eq_true e
    rw [if_pos rfl, if_pos rfl, List.length_take, List.take_take]
    congr 1
    simp only [List.length_cons, List.length_nil]
    omega
  | false => rw [if_neg (by simp), if_neg (by simp)]
theorem lineL_len (b : List UInt8) : (lineL b).length ≤ lenL b + 1 := by
  unfold lineL
  split <;> (rw [List.length_take]; omega)
/-! the line by the program's tests -/
theorem line_no (b : List UInt8) (h : lenL b = b.length) (h2 : b.length < 200) : lineC b = (0, 0, 0) := by unfold lineC; rw [if_pos h, if_neg (by omega)]
theorem line_no2 (b : List UInt8) (h : lenL b = b.length) (h2 : 200 ≤ b.length) : lineC b = (0, 0, 70) := by unfold lineC; rw [if_pos h, if_pos h2]
theorem line_long (b : List UInt8) (h : lenL b < b.length) (h2 : 200 < lenL b + 1) : lineC b = (0, 0, 70) := by unfold lineC; rw [if_neg (by omega), if_pos (.inl h2)]
theorem line_bad (b : List UInt8) (h : lenL b < b.length) (h2 : (endL b && decide (0 ≤ sizeC (lineL b))) = false) : lineC b = (0, 0, 70) := by
  unfold lineC
  rw [if_neg (by omega), if_pos]
  by_cases h0 : lenL b = 0
  · exact .inr (.inl h0)
  · by_cases h1 : b.getD (lenL b - 1) 0 = 13
    · have e : endL b = true := decide_eq_true ⟨h0, h1⟩
      rw [e, Bool.true_and] at h2
      unfold lineL at h2
      rw [if_pos e] at h2
      have := of_decide_eq_false h2
      exact .inr (.inr (.inr (by omega)))
    · exact .inr (.inr (.inl h1))
theorem line_ok (b : List UInt8) (h : lenL b < b.length) (h2 : (endL b && decide (0 ≤ sizeC (lineL b))) = true) (h3 : lenL b + 1 ≤ 200) : lineC b = ((sizeC (lineL b)).toNat, lenL b + 1, 0) := by
  rw [Bool.and_eq_true] at h2
  have e := of_decide_eq_true h2.1
  have es := of_decide_eq_true h2.2
  unfold lineL at es ⊢
  rw [if_pos h2.1] at es ⊢
  unfold lineC
  rw [if_neg (by omega), if_neg]
  rintro (q | q | q | q)
  · omega
  · exact e.1 q
  · exact q e.2
  · omega
/-! what the decoder reads next -/
/-- nx: 0 a size line, 1 a chunk's data, 2 the trailers, 3 nothing; s the chunk's size; out, fs what was read; n how many bytes -/
def DS (b : List UInt8) (nx : Int) (s : Nat) (out : List UInt8) (fs : FL) (n : Nat) : Prop :=
  n ≤ b.length ∧ out.length ≤ 65536 ∧
  ((nx = 0 ∧ fs = [] ∧ ∃ f, (b.drop n).length < f ∧ decOf b = decG f (b.drop n) out n) ∨
   (nx = 1 ∧ fs = [] ∧ ∃ f m k, m + k = n ∧ s ≠ 0 ∧ lineC (b.drop m) = (s, k, 0) ∧ k ≠ 0 ∧ (b.drop m).length < f ∧ decOf b = decG f (b.drop m) out m) ∨
   (nx = 2 ∧ fs = [] ∧ ∃ f m k, m + k = n ∧ lineC (b.drop m) = (0, k, 0) ∧ k ≠ 0 ∧ (b.drop m).length < f ∧ decOf b = decG f (b.drop m) out m) ∨
   (nx = 3 ∧ decOf b = (out, fs, n, 0)))
theorem ds_start (b : List UInt8) : DS b 0 0 [] [] 0 := ⟨Nat.zero_le _, by simp, .inl ⟨rfl, rfl, b.length + 1, by simp, by rw [List.drop_zero]; rfl⟩⟩
theorem ds_nx {b : List UInt8} {nx : Int} {s : Nat} {out : List UInt8} {fs : FL} {n : Nat} (h : DS b nx s out fs n) : nx = 0 ∨ nx = 1 ∨ nx = 2 ∨ nx = 3 := by
  rcases h.2.2 with h | h | h | h
  · exact .inl h.1
  · exact .inr (.inl h.1)
  · exact .inr (.inr (.inl h.1))
  · exact .inr (.inr (.inr h.1))
theorem ds_end {b : List UInt8} {s : Nat} {out : List UInt8} {fs : FL} {n : Nat} (h : DS b 3 s out fs n) : decOf b = (out, fs, n, 0) := by
  rcases h.2.2 with h | h | h | h
  · exact absurd h.1 (by decide)
  · exact absurd h.1 (by decide)
  · exact absurd h.1 (by decide)
  · exact h.2
theorem ds_fs {b : List UInt8} {nx : Int} {s : Nat} {out : List UInt8} {fs : FL} {n : Nat} (h : DS b nx s out fs n) (h3 : nx ≠ 3) : fs = [] := by
  rcases h.2.2 with h | h | h | h
  · exact h.2.1
  · exact h.2.1
  · exact h.2.1
  · exact absurd h.1 h3
theorem drop_len {b : List UInt8} {m k n : Nat} (h : m + k = n) : (b.drop m).drop k = b.drop n := by rw [List.drop_drop, h]
/-- what comes behind a size line -/
def nxOf (s : Nat) : Int := if s = 0 then 2 else 1
theorem nxOf_pos {s : Nat} (h : s ≠ 0) : nxOf s = 1 := by unfold nxOf; rw [if_neg h]
theorem nxOf_ne (s : Nat) : nxOf s ≠ 3 := by unfold nxOf; split <;> decide
/-- a size line is read -/
theorem ds_size {b : List UInt8} {s : Nat} {out : List UInt8} {fs : FL} {n : Nat} (h : DS b 0 s out fs n) :
    ((lineC (b.drop n)).2.1 = 0 → decOf b = ([], [], 0, (lineC (b.drop n)).2.2)) ∧
    ((lineC (b.drop n)).2.1 ≠ 0 → DS b (nxOf (lineC (b.drop n)).1) (lineC (b.drop n)).1 out [] (n + (lineC (b.drop n)).2.1)) := by
  obtain ⟨hn, ho, h1 | h1 | h1 | h1⟩ := h
  · obtain ⟨_, _, f, hf, e⟩ := h1
    refine ⟨fun h0 => ?_, fun h0 => ?_⟩
    · obtain ⟨f, rfl⟩ : ∃ g, f = g + 1 := ⟨f - 1, by omega⟩
      rcases lineC_cases (b.drop n) with el | el | ⟨s, el, hlt, _⟩
      · rw [e, dec_stop (by rw [chs_none el]; simp [St.need]) (by rw [chs_none el]; simp [St.need]), chs_none el, el]; rfl
      · rw [e, dec_stop (by rw [chs_bad el]; simp [St.err]) (by rw [chs_bad el]; simp [St.err]), chs_bad el, el]; rfl
      · rw [el] at h0; simp at h0
    · rcases lineC_cases (b.drop n) with el | el | ⟨s, el, hlt, _⟩
      · rw [el] at h0; simp at h0
      · rw [el] at h0; simp at h0
      · rw [el]
        simp only
        rw [List.length_drop] at hlt
        refine ⟨by omega, ho, ?_⟩
        by_cases hs : s = 0
        · subst hs
          exact .inr (.inr (.inl ⟨rfl, rfl, f, n, _, rfl, el, by omega, hf, e⟩))
        · rw [nxOf_pos hs]
          exact .inr (.inl ⟨rfl, rfl, f, n, _, rfl, hs, el, by omega, hf, e⟩)
  · exact absurd h1.1 (by decide)
  · exact absurd h1.1 (by decide)
  · exact absurd h1.1 (by decide)
/-- a chunk's data are read -/
theorem ds_data {b : List UInt8} {s : Nat} {out : List UInt8} {fs : FL} {n : Nat} (h : DS b 1 s out fs n) :
    (65536 < out.length + s → decOf b = ([], [], 0, 71)) ∧
    (out.length + s ≤ 65536 → (b.drop n).length < s + 2 → decOf b = ([], [], 0, 0)) ∧
    (out.length + s ≤ 65536 → s + 2 ≤ (b.drop n).length → pairB ((b.drop n).drop s) = false → decOf b = ([], [], 0, 70)) ∧
    (out.length + s ≤ 65536 → s + 2 ≤ (b.drop n).length → pairB ((b.drop n).drop s) = true → DS b 0 s (out ++ (b.drop n).take s) [] (n + (s + 2))) := by
  obtain ⟨hn, ho, h1 | h1 | h1 | h1⟩ := h
  · exact absurd h1.1 (by decide)
  · obtain ⟨_, _, f, m, k, hmk, hs, el, hk, hf, e⟩ := h1
    have ed := drop_len (b := b) hmk
    have st : stepC (b.drop m) out.length = dataC (b.drop n) s k out.length := by rw [chs_line el hk, if_neg hs, ed]
    obtain ⟨f, rfl⟩ : ∃ g, f = g + 1 := ⟨f - 1, by omega⟩
    refine ⟨fun c1 => ?_, fun c1 c2 => ?_, fun c1 c2 c3 => ?_, fun c1 c2 c3 => ?_⟩
    · have hd : dataC (b.drop n) s k out.length = St.err 71 := by unfold dataC; rw [if_pos (by omega)]
      rw [e, dec_stop (by rw [st, hd]; simp [St.err]) (by rw [st, hd]; simp [St.err]), st, hd]; rfl
    · have hd : dataC (b.drop n) s k out.length = St.need := by unfold dataC; rw [if_neg (by omega), if_pos c2]
      rw [e, dec_stop (by rw [st, hd]; simp [St.need]) (by rw [st, hd]; simp [St.need]), st, hd]; rfl
    · have hd : dataC (b.drop n) s k out.length = St.err 70 := by unfold dataC; rw [if_neg (by omega), if_neg (by omega), if_pos c3]
      rw [e, dec_stop (by rw [st, hd]; simp [St.err]) (by rw [st, hd]; simp [St.err]), st, hd]; rfl
    · have hd : dataC (b.drop n) s k out.length = ⟨2, (b.drop n).take s, [], k + (s + 2), 0⟩ := by unfold dataC; rw [if_neg (by omega), if_neg (by omega), if_neg (by rw [c3]; simp)]
      have e2 := e
      rw [dec_chunk (by rw [st, hd]), st, hd] at e2
      simp only at e2
      rw [List.drop_drop, ← Nat.add_assoc m, hmk] at e2
      have c2' := c2
      rw [List.length_drop] at c2'
      refine ⟨by omega, by rw [List.length_append, List.length_take, List.length_drop]; omega, .inl ⟨rfl, rfl, f, ?_, e2⟩⟩
      rw [List.length_drop] at hf ⊢
      omega
  · exact absurd h1.1 (by decide)
  · exact absurd h1.1 (by decide)
/-- the trailers are read -/
theorem ds_tail {b : List UInt8} {s : Nat} {out : List UInt8} {fs : FL} {n : Nat} (h : DS b 2 s out fs n) :
    ((tailC (b.drop n)).2.1 = 0 → decOf b = ([], [], 0, (tailC (b.drop n)).2.2)) ∧
    ((tailC (b.drop n)).2.1 ≠ 0 → DS b 3 s out (tailC (b.drop n)).1 (n + (tailC (b.drop n)).2.1)) := by
  obtain ⟨hn, ho, h1 | h1 | h1 | h1⟩ := h
  · exact absurd h1.1 (by decide)
  · exact absurd h1.1 (by decide)
  · obtain ⟨_, _, f, m, k, hmk, el, hk, hf, e⟩ := h1
    have ed := drop_len (b := b) hmk
    have st : stepC (b.drop m) out.length = finC k (tailC (b.drop n)) := by rw [chs_line el hk, if_pos rfl, ed]
    obtain ⟨f, rfl⟩ : ∃ g, f = g + 1 := ⟨f - 1, by omega⟩
    rcases tail_need (b.drop n) with ht | ht | ⟨t1, t2, t3⟩
    · refine ⟨fun _ => ?_, fun h0 => by rw [ht] at h0; simp at h0⟩
      have hd : finC k (tailC (b.drop n)) = St.need := fin_need ht
      rw [e, dec_stop (by rw [st, hd]; simp [St.need]) (by rw [st, hd]; simp [St.need]), st, hd, ht]; rfl
    · have hz : (tailC (b.drop n)).2.1 = 0 := by
        unfold tailC at ht ⊢
        split
        · rename_i q; rw [if_pos q] at ht; simp at ht
        · rename_i q
          rw [if_neg q] at ht
          split
          · rfl
          · rename_i q2
            rw [if_neg q2] at ht
            split
            · rename_i q3; rw [if_pos q3] at ht; simp at ht
            · rfl
      refine ⟨fun _ => ?_, fun h0 => absurd hz h0⟩
      have hd : finC k (tailC (b.drop n)) = St.err (tailC (b.drop n)).2.2 := by unfold finC; rw [if_pos ht]
      rw [e, dec_stop (by rw [st, hd]; simp [St.err]) (by rw [st, hd]; simp [St.err]), st, hd]; rfl
    · refine ⟨fun h0 => by omega, fun _ => ?_⟩
      have hd : finC k (tailC (b.drop n)) = ⟨3, [], (tailC (b.drop n)).1, k + (tailC (b.drop n)).2.1, 0⟩ := by unfold finC; rw [if_neg (by omega), if_neg (by omega)]
      have e2 := e
      rw [dec_fin (by rw [st, hd]), st, hd] at e2
      simp only at e2
      rw [← Nat.add_assoc m, hmk] at e2
      rw [List.length_drop] at t2
      exact ⟨by omega, ho, .inr (.inr (.inr ⟨rfl, e2⟩))⟩
  · exact absurd h1.1 (by decide)
/-- the trailers by the program's way: their length first, then the lines ahead of the empty one -/
def tlenC (b : List UInt8) : Nat × Int := if pairB b = true then (2, 0) else endOf b 0
theorem tail_len0 (b : List UInt8) (h : (tlenC b).1 = 0) : tailC b = ([], 0, (tlenC b).2) := by
  unfold tlenC at h ⊢
  unfold tailC
  split
  · rename_i q; rw [if_pos q] at h; simp at h
  · rename_i q; rw [if_neg q] at h; rw [if_pos h]
theorem tail_len1 (b : List UInt8) (h : (tlenC b).1 ≠ 0) : (tlenC b).2 = 0 ∧ 2 ≤ (tlenC b).1 ∧ (tlenC b).1 ≤ b.length ∧ (tlenC b).1 ≤ 8192 ∧
    tailC b = (if (parseOf (b.take ((tlenC b).1 - 2))).2 = 0 then ((parseOf (b.take ((tlenC b).1 - 2))).1, (tlenC b).1, 0) else ([], 0, (parseOf (b.take ((tlenC b).1 - 2))).2)) := by
  unfold tlenC at h ⊢
  unfold tailC
  by_cases q : pairB b = true
  · rw [if_pos q, if_pos q]
    exact ⟨rfl, by simp, pair_len q, by simp, by simp [parseOf, parse_nil]⟩
  · rw [if_neg q] at h
    rw [if_neg q, if_neg q, if_neg h]
    obtain ⟨i, _, h4, h5, h6⟩ := end_len b h
    rw [h4]
    exact ⟨rfl, by simp, h6, h5, rfl⟩
end Go.Proofs.YtmikgpmnffdnnaaGreatDoor
namespace Go.Proofs.YtmikgpmnffdnnaaGreatDoor
open Go.RowKit
/-- what stands behind a head of n bytes: the body, the trailers, how many bytes the message takes, the error -/
def bodyM (b : List UInt8) (n : Nat) (k l : Int) : List UInt8 × FL × Nat × Int :=
  if k = 1 then (if ((b.length : Int) - (n : Int) < l) then ([], [], 0, 0) else ((b.drop n).take l.toNat, [], n + l.toNat, 0))
  else if k = 2 then (if (decOf (b.drop n)).2.2.2 ≠ 0 ∨ (decOf (b.drop n)).2.2.1 = 0 then ([], [], 0, (decOf (b.drop n)).2.2.2) else ((decOf (b.drop n)).1, (decOf (b.drop n)).2.1, n + (decOf (b.drop n)).2.2.1, 0))
  else ([], [], n, 0)
/-- a message, of its head and what stands behind it -/
def joinM {α : Type} (z r : α) (x : List UInt8 × FL × Nat × Int) : α × List UInt8 × FL × Nat × Int :=
  if x.2.2.2 ≠ 0 ∨ x.2.2.1 = 0 then (z, [], [], 0, x.2.2.2) else (r, x.1, x.2.1, x.2.2.1, 0)
def msgQ (b : List UInt8) : Rq × List UInt8 × FL × Nat × Int :=
  if (reqOf b).2.2 ≠ 0 ∨ (reqOf b).2.1 = 0 then (Rq.zero, [], [], 0, (reqOf b).2.2)
  else if (ruleOf (reqOf b).1.k (reqOf b).1.fs 0).2.2 ≠ 0 then (Rq.zero, [], [], 0, (ruleOf (reqOf b).1.k (reqOf b).1.fs 0).2.2)
  else joinM Rq.zero (reqOf b).1 (bodyM b (reqOf b).2.1 (ruleOf (reqOf b).1.k (reqOf b).1.fs 0).1 (ruleOf (reqOf b).1.k (reqOf b).1.fs 0).2.1)
theorem body_app (b m : List UInt8) (n : Nat) (k l : Int) (hn : n ≤ b.length) (h : (bodyM b n k l).2.2.2 ≠ 0 ∨ 0 < (bodyM b n k l).2.2.1) : bodyM (b ++ m) n k l = bodyM b n k l := by
  unfold bodyM at h ⊢
  by_cases h1 : k = 1
  · rw [if_pos h1] at h
    rw [if_pos h1, if_pos h1]
    by_cases h2 : (b.length : Int) - (n : Int) < l
    · rw [if_pos h2] at h; simp at h
    · rw [if_neg h2, if_neg (by rw [List.length_append]; omega), drop_app m hn, take_app m (by rw [List.length_drop]; omega)]
  · rw [if_neg h1] at h
    rw [if_neg h1, if_neg h1]
    by_cases h2 : k = 2
    · rw [if_pos h2] at h
      rw [if_pos h2, if_pos h2, drop_app m hn]
      have hd : (decOf (b.drop n)).2.2.2 ≠ 0 ∨ 0 < (decOf (b.drop n)).2.2.1 := by
        by_cases h3 : (decOf (b.drop n)).2.2.2 ≠ 0 ∨ (decOf (b.drop n)).2.2.1 = 0
        · rw [if_pos h3] at h
          rcases h with h | h
          · exact .inl h
          · simp at h
        · exact .inr (by omega)
      have e : decOf (b.drop n ++ m) = decOf (b.drop n) := dec_app _ _ _ _ _ _ (Nat.lt_succ_self _) (Nat.lt_succ_self _) hd
      rw [e]
    · rw [if_neg h2, if_neg h2]
theorem body_le (b : List UInt8) (n : Nat) (k l : Int) (hn : n ≤ b.length) (h : 0 < (bodyM b n k l).2.2.1) : n ≤ (bodyM b n k l).2.2.1 ∧ (bodyM b n k l).2.2.1 ≤ b.length ∧ (bodyM b n k l).2.2.2 = 0 := by
  unfold bodyM at h ⊢
  split
  · rename_i h1
    rw [if_pos h1] at h
    split
    · rename_i h2; rw [if_pos h2] at h; simp at h
    · exact ⟨by simp, by simp; omega, rfl⟩
  · rename_i h1
    rw [if_neg h1] at h
    split
    · rename_i h2
      rw [if_pos h2] at h
      split
      · rename_i h3; rw [if_pos h3] at h; simp at h
      · rename_i h3
        have h4 : 0 < (decOf (b.drop n)).2.2.1 := by omega
        obtain ⟨j, e1, _, j1, _, _⟩ := dec_own _ (b.drop n) [] 0 (Nat.lt_succ_self _) h4
        rw [List.length_drop] at j1
        have e2 : (decOf (b.drop n)).2.2.1 = j := by unfold decOf; rw [e1, Nat.zero_add]
        exact ⟨by simp, by simp only [e2]; omega, rfl⟩
    · exact ⟨Nat.le_refl _, hn, rfl⟩
theorem body_take (b : List UInt8) (n : Nat) (k l : Int) (hn : n ≤ b.length) (h : 0 < (bodyM b n k l).2.2.1) : bodyM (b.take (bodyM b n k l).2.2.1) n k l = bodyM b n k l := by
  obtain ⟨h1, h2, h3⟩ := body_le b n k l hn h
  have hb : b = b.take (bodyM b n k l).2.2.1 ++ b.drop (bodyM b n k l).2.2.1 := (List.take_append_drop _ b).symm
  have hl : (b.take (bodyM b n k l).2.2.1).length = (bodyM b n k l).2.2.1 := by rw [List.length_take]; omega
  have key : 0 < (bodyM (b.take (bodyM b n k l).2.2.1) n k l).2.2.1 := by
    obtain ⟨N, hN⟩ : ∃ N, N = (bodyM b n k l).2.2.1 := ⟨_, rfl⟩
    rw [← hN] at h h1 h2 hl ⊢
    unfold bodyM at hN ⊢
    by_cases k1 : k = 1
    · rw [if_pos k1] at hN ⊢
      by_cases h4 : (b.length : Int) - (n : Int) < l
      · rw [if_pos h4] at hN; simp at hN; omega
      · rw [if_neg h4] at hN
        simp only at hN
        rw [if_neg (by rw [hl]; omega)]
        simp only
        omega
    · rw [if_neg k1] at hN ⊢
      by_cases k2 : k = 2
      · rw [if_pos k2] at hN ⊢
        by_cases h4 : (decOf (b.drop n)).2.2.2 ≠ 0 ∨ (decOf (b.drop n)).2.2.1 = 0
        · rw [if_pos h4] at hN; simp at hN; omega
        · rw [if_neg h4] at hN
          simp only at hN
          have h5 : 0 < (decOf (b.drop n)).2.2.1 := by omega
          have h6 : (decOf (b.drop n)).2.2.2 = 0 := by
            apply Classical.byContradiction
            intro e; exact h4 (.inl e)
          obtain ⟨j, e1, _, j1, j2, _⟩ := dec_own _ (b.drop n) [] 0 (Nat.lt_succ_self _) h5
          have e2 : (decOf (b.drop n)).2.2.1 = j := by unfold decOf; rw [e1, Nat.zero_add]
          have e3 : (b.take N).drop n = (b.drop n).take j := by rw [drop_take']; congr 1; omega
          have e4 : decOf ((b.drop n).take j) = decOf (b.drop n) := j2 _ (Nat.lt_succ_self _)
          rw [e3, e4, if_neg h4]
          simp only
          omega
      · rw [if_neg k2] at hN ⊢
        simp only at hN ⊢
        omega
  have := body_app (b.take (bodyM b n k l).2.2.1) (b.drop (bodyM b n k l).2.2.1) n k l (by rw [hl]; exact h1) (.inr key)
  rw [← hb] at this
  exact this.symm
/-! requests -/
theorem msgQ_none {b : List UInt8} (h : (reqOf b).2.2 ≠ 0 ∨ (reqOf b).2.1 = 0) : msgQ b = (Rq.zero, [], [], 0, (reqOf b).2.2) := by unfold msgQ; rw [if_pos h]
theorem msgQ_rule {b : List UInt8} (h : ¬ ((reqOf b).2.2 ≠ 0 ∨ (reqOf b).2.1 = 0)) (h2 : (ruleOf (reqOf b).1.k (reqOf b).1.fs 0).2.2 ≠ 0) : msgQ b = (Rq.zero, [], [], 0, (ruleOf (reqOf b).1.k (reqOf b).1.fs 0).2.2) := by unfold msgQ; rw [if_neg h, if_pos h2]
theorem msgQ_body {b : List UInt8} (h : ¬ ((reqOf b).2.2 ≠ 0 ∨ (reqOf b).2.1 = 0)) (h2 : ¬ (ruleOf (reqOf b).1.k (reqOf b).1.fs 0).2.2 ≠ 0) : msgQ b = joinM Rq.zero (reqOf b).1 (bodyM b (reqOf b).2.1 (ruleOf (reqOf b).1.k (reqOf b).1.fs 0).1 (ruleOf (reqOf b).1.k (reqOf b).1.fs 0).2.1) := by unfold msgQ; rw [if_neg h, if_neg h2]
theorem join_told {α : Type} {z r : α} {x : List UInt8 × FL × Nat × Int} (h : (joinM z r x).2.2.2.2 ≠ 0 ∨ 0 < (joinM z r x).2.2.2.1) : x.2.2.2 ≠ 0 ∨ 0 < x.2.2.1 := by
  unfold joinM at h
  split at h
  · rename_i h1
    rcases h with h | h
    · exact .inl h
    · simp at h
  · rename_i h1
    exact .inr (by omega)
theorem msgQ_grow (b m : List UInt8) (h : (msgQ b).2.2.2.2 ≠ 0 ∨ 0 < (msgQ b).2.2.2.1) : msgQ (b ++ m) = msgQ b := by
  by_cases h1 : (reqOf b).2.2 ≠ 0 ∨ (reqOf b).2.1 = 0
  · rw [msgQ_none h1] at h
    have h2 : (reqOf b).2.2 ≠ 0 := by
      rcases h with h | h
      · exact h
      · simp at h
    have e := req_grow b m (.inl h2)
    rw [msgQ_none h1, msgQ_none (by rw [e]; exact h1), e]
  · have h0 : 0 < (reqOf b).2.1 := by omega
    have e := req_grow b m (.inr h0)
    by_cases h2 : (ruleOf (reqOf b).1.k (reqOf b).1.fs 0).2.2 ≠ 0
    · rw [msgQ_rule h1 h2, msgQ_rule (by rw [e]; exact h1) (by rw [e]; exact h2), e]
    · rw [msgQ_body h1 h2] at h ⊢
      rw [msgQ_body (by rw [e]; exact h1) (by rw [e]; exact h2), e, body_app b m _ _ _ (req_host b h0).2.1 (join_told h)]
theorem msgQ_own (b : List UInt8) (h : 0 < (msgQ b).2.2.2.1) : (msgQ b).2.2.2.1 ≤ b.length ∧ (msgQ b).2.2.2.2 = 0 ∧ msgQ (b.take (msgQ b).2.2.2.1) = msgQ b := by
  by_cases h1 : (reqOf b).2.2 ≠ 0 ∨ (reqOf b).2.1 = 0
  · rw [msgQ_none h1] at h; simp at h
  · have h0 : 0 < (reqOf b).2.1 := by omega
    by_cases h2 : (ruleOf (reqOf b).1.k (reqOf b).1.fs 0).2.2 ≠ 0
    · rw [msgQ_rule h1 h2] at h; simp at h
    · have hn := (req_host b h0).2.1
      have hm := msgQ_body h1 h2
      rw [hm] at h
      have hj := join_told (.inr h)
      have hx : 0 < (bodyM b (reqOf b).2.1 (ruleOf (reqOf b).1.k (reqOf b).1.fs 0).1 (ruleOf (reqOf b).1.k (reqOf b).1.fs 0).2.1).2.2.1 := by
        unfold joinM at h
        split at h
        · simp at h
        · exact h
      obtain ⟨b1, b2, b3⟩ := body_le b _ _ _ hn hx
      have ej : (msgQ b).2.2.2.1 = (bodyM b (reqOf b).2.1 (ruleOf (reqOf b).1.k (reqOf b).1.fs 0).1 (ruleOf (reqOf b).1.k (reqOf b).1.fs 0).2.1).2.2.1 ∧ (msgQ b).2.2.2.2 = 0 := by
        rw [hm]
        unfold joinM
        rw [if_neg (by omega)]
        exact ⟨rfl, rfl⟩
      refine ⟨by rw [ej.1]; exact b2, ej.2, ?_⟩
      rw [ej.1]
      have eb := body_take b _ _ _ hn hx
      generalize (bodyM b (reqOf b).2.1 (ruleOf (reqOf b).1.k (reqOf b).1.fs 0).1 (ruleOf (reqOf b).1.k (reqOf b).1.fs 0).2.1).2.2.1 = N at b1 b2 eb ⊢
      have er : reqOf (b.take N) = reqOf b := by
        have o := req_own b h0
        have e1 : b.take N = b.take (reqOf b).2.1 ++ (b.take N).drop (reqOf b).2.1 := by
          have := (List.take_append_drop (reqOf b).2.1 (b.take N)).symm
          rw [List.take_take, Nat.min_eq_left b1] at this
          exact this
        rw [e1, req_grow _ _ (.inr (by rw [o]; exact h0)), o]
      rw [hm, msgQ_body (by rw [er]; exact h1) (by rw [er]; exact h2), er, eb]
theorem msgQ_bad (b : List UInt8) (h : (msgQ b).2.2.2.2 ≠ 0 ∨ (msgQ b).2.2.2.1 = 0) : msgQ b = (Rq.zero, [], [], 0, (msgQ b).2.2.2.2) := by
  by_cases h1 : (reqOf b).2.2 ≠ 0 ∨ (reqOf b).2.1 = 0
  · rw [msgQ_none h1]
  · by_cases h2 : (ruleOf (reqOf b).1.k (reqOf b).1.fs 0).2.2 ≠ 0
    · rw [msgQ_rule h1 h2]
    · rw [msgQ_body h1 h2] at h ⊢
      unfold joinM at h ⊢
      split
      · rfl
      · rename_i h3
        rw [if_neg h3] at h
        simp at h
        omega
/-! responses -/
def cutE (ended : Bool) : Int := if ended = true then 80 else 0
def respM (b : List UInt8) (r : Rs) (n : Nat) (q : Int × Int × Int) (ended : Bool) : Rs × List UInt8 × FL × Nat × Int :=
  if q.2.2 ≠ 0 then (Rs.zero, [], [], 0, q.2.2)
  else if q.1 = 3 then (if 65536 < b.length - n then (Rs.zero, [], [], 0, 71) else if ended = true then (r, b.drop n, [], b.length, 0) else (Rs.zero, [], [], 0, 0))
  else if (bodyM b n q.1 q.2.1).2.2.2 ≠ 0 then (Rs.zero, [], [], 0, (bodyM b n q.1 q.2.1).2.2.2)
  else if (bodyM b n q.1 q.2.1).2.2.1 = 0 then (Rs.zero, [], [], 0, cutE ended)
  else (r, (bodyM b n q.1 q.2.1).1, (bodyM b n q.1 q.2.1).2.1, (bodyM b n q.1 q.2.1).2.2.1, 0)
def msgR (b m : List UInt8) (ended : Bool) : Rs × List UInt8 × FL × Nat × Int :=
  if (respOf b).2.2 ≠ 0 then (Rs.zero, [], [], 0, (respOf b).2.2)
  else if (respOf b).2.1 = 0 then (Rs.zero, [], [], 0, cutE ended)
  else respM b (respOf b).1 (respOf b).2.1 (fresOf (respOf b).1.s (respOf b).1.k (respOf b).1.fs m) ended
/-- what is told while more may come is told at the end; more is needed only where the end would cut it, or where it goes on to the close -/
theorem msgR_ends (b m : List UInt8) : ((msgR b m false).2.2.2.2 ≠ 0 ∧ msgR b m true = msgR b m false ∧ (msgR b m false).2.2.2.1 = 0) ∨ ((msgR b m false).2.2.2.2 = 0 ∧ 0 < (msgR b m false).2.2.2.1 ∧ msgR b m true = msgR b m false) ∨
    ((msgR b m false).2.2.2.2 = 0 ∧ (msgR b m false).2.2.2.1 = 0 ∧ (((msgR b m true).2.2.2.2 = 80 ∧ (msgR b m true).2.2.2.1 = 0) ∨ ((msgR b m true).2.2.2.2 = 0 ∧ (msgR b m true).2.2.2.1 = b.length))) := by
  unfold msgR
  by_cases h1 : (respOf b).2.2 ≠ 0
  · rw [if_pos h1, if_pos h1]; exact .inl ⟨h1, rfl, rfl⟩
  · rw [if_neg h1, if_neg h1]
    by_cases h2 : (respOf b).2.1 = 0
    · rw [if_pos h2, if_pos h2]; exact .inr (.inr ⟨rfl, rfl, .inl ⟨rfl, rfl⟩⟩)
    · rw [if_neg h2, if_neg h2]
      unfold respM
      generalize fresOf (respOf b).1.s (respOf b).1.k (respOf b).1.fs m = q
      by_cases h3 : q.2.2 ≠ 0
      · rw [if_pos h3, if_pos h3]; exact .inl ⟨h3, rfl, rfl⟩
      · rw [if_neg h3, if_neg h3]
        by_cases h4 : q.1 = 3
        · rw [if_pos h4, if_pos h4]
          by_cases h5 : 65536 < b.length - (respOf b).2.1
          · rw [if_pos h5, if_pos h5]; exact .inl ⟨by simp, rfl, rfl⟩
          · rw [if_neg h5, if_neg h5]; exact .inr (.inr ⟨rfl, rfl, .inr ⟨rfl, rfl⟩⟩)
        · rw [if_neg h4, if_neg h4]
          by_cases h5 : (bodyM b (respOf b).2.1 q.1 q.2.1).2.2.2 ≠ 0
          · rw [if_pos h5, if_pos h5]; exact .inl ⟨h5, rfl, rfl⟩
          · rw [if_neg h5, if_neg h5]
            by_cases h6 : (bodyM b (respOf b).2.1 q.1 q.2.1).2.2.1 = 0
            · rw [if_pos h6, if_pos h6]; exact .inr (.inr ⟨rfl, rfl, .inl ⟨rfl, rfl⟩⟩)
            · rw [if_neg h6, if_neg h6]; exact .inr (.inl ⟨rfl, by simp only; omega, rfl⟩)
end Go.Proofs.YtmikgpmnffdnnaaGreatDoor
namespace Go.Proofs.YtmikgpmnffdnnaaGreatDoor
open Go.RowKit
def nQ (b : List UInt8) : Nat := (msgQ b).2.2.2.1
def eQ (b : List UInt8) : Int := (msgQ b).2.2.2.2
/-- the box holds 'held' (er: the error that it answered, 0: none), the pieces 'left' have not come; 'rest' is what the whole still has -/
def PS (rest held : List UInt8) (er : Int) (left : List UInt8) : Prop := (er = 0 ∧ rest = held ++ left) ∨ (er ≠ 0 ∧ eQ rest = er)
theorem ps_start (b : List UInt8) : PS b [] 0 b := .inl ⟨rfl, rfl⟩
/-- a piece is put in -/
theorem ps_feed {rest held p left : List UInt8} (h : PS rest held 0 (p ++ left)) : PS rest (held ++ p) 0 left := by
  rcases h with ⟨_, h⟩ | ⟨h, _⟩
  · exact .inl ⟨rfl, by rw [h, List.append_assoc]⟩
  · exact absurd rfl h
/-- nothing is put in behind an error -/
theorem ps_bad {rest held held' left left' : List UInt8} {er : Int} (h : PS rest held er left) (he : er ≠ 0) : PS rest held' er left' := by
  rcases h with ⟨h, _⟩ | ⟨_, h⟩
  · exact absurd h he
  · exact .inr ⟨he, h⟩
theorem ps_err {rest held left : List UInt8} {er : Int} (h : PS rest held er left) (he : er ≠ 0) : eQ rest = er := by
  rcases h with ⟨h, _⟩ | ⟨_, h⟩
  · exact absurd h he
  · exact h
/-- a message is told: the whole tells the same, and goes on behind it -/
theorem ps_told {rest held left : List UInt8} (h : PS rest held 0 left) (hn : 0 < nQ held) : msgQ rest = msgQ held ∧ nQ held ≤ held.length ∧ PS (rest.drop (nQ held)) (held.drop (nQ held)) 0 left := by
  rcases h with ⟨_, h⟩ | ⟨h, _⟩
  · have e := msgQ_grow held left (.inr hn)
    have hl : nQ held ≤ held.length := (msgQ_own held hn).1
    refine ⟨by rw [h]; exact e, hl, .inl ⟨rfl, ?_⟩⟩
    rw [h, List.drop_append_of_le_length hl]
  · exact absurd rfl h
/-- an error is told: the whole tells it, too -/
theorem ps_told_bad {rest held left : List UInt8} (h : PS rest held 0 left) (he : eQ held ≠ 0) : PS rest held (eQ held) left ∧ eQ rest = eQ held := by
  rcases h with ⟨_, h⟩ | ⟨h, _⟩
  · have e : eQ rest = eQ held := by unfold eQ; rw [h, msgQ_grow held left (.inl he)]
    exact ⟨.inr ⟨he, e⟩, e⟩
  · exact absurd rfl h
/-- all pieces have come -/
theorem ps_end {rest held : List UInt8} (h : PS rest held 0 []) : rest = held := by
  rcases h with ⟨_, h⟩ | ⟨h, _⟩
  · rw [h, List.append_nil]
  · exact absurd rfl h
theorem nQ_bad {b : List UInt8} (h : eQ b ≠ 0) : nQ b = 0 := by unfold nQ; rw [msgQ_bad b (.inl h)]
end Go.Proofs.YtmikgpmnffdnnaaGreatDoor
