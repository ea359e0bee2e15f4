/- Plain: chunked bodies: how they are read, step by step; what is told of some bytes is told of them with more behind, and of just those that it took. -/
import Derived.Test.YtobkmepamgdccaaGreatDoorBf
namespace Go.Proofs.YtobkmepamgdccaaGreatDoor
open Go.RowKit
def hexI (c : Int) : Int := if 48 ≤ c ∧ c ≤ 57 then c - 48 else if 65 ≤ c ∧ c ≤ 70 then c - 55 else if 97 ≤ c ∧ c ≤ 102 then c - 87 else -1
def isHex (c : UInt8) : Bool := decide (0 ≤ hexI (c.toNat : Int))
def hexS (l : List UInt8) : Nat := l.foldl (fun a c => a * 16 + (hexI (c.toNat : Int)).toNat) 0
/-- behind the digits: nothing, or a semicolon and text -/
def extOk (l : List UInt8) : Bool := match l with
  | [] => true
  | c :: r => decide (c = 59) && (c :: r).all txt
/-- the size that a line tells; -1: none -/
def sizeC (l : List UInt8) : Int :=
  if (l.takeWhile isHex).length = 0 ∨ 8 < (l.takeWhile isHex).length ∨ extOk (l.dropWhile isHex) = false then -1 else (hexS (l.takeWhile isHex) : Int)
def no10 (c : UInt8) : Bool := decide (c ≠ 10)
/-- the first line's length without its 10 -/
def lenL (b : List UInt8) : Nat := (b.takeWhile no10).length
/-- the size line: the size, how many bytes it takes, the error -/
def lineC (b : List UInt8) : Nat × Nat × Int :=
  if lenL b = b.length then (if 200 ≤ b.length then (0, 0, 70) else (0, 0, 0))
  else if 200 < lenL b + 1 ∨ lenL b = 0 ∨ ¬ b.getD (lenL b - 1) 0 = 13 ∨ sizeC (b.take (lenL b - 1)) < 0 then (0, 0, 70)
  else ((sizeC (b.take (lenL b - 1))).toNat, lenL b + 1, 0)
/-- the trailers: the fields, how many bytes they take, the error -/
def tailC (b : List UInt8) : FL × Nat × Int :=
  if pairB b = true then ([], 2, 0)
  else if (endOf b 0).1 = 0 then ([], 0, (endOf b 0).2)
  else if (parseOf (b.take ((endOf b 0).1 - 2))).2 = 0 then ((parseOf (b.take ((endOf b 0).1 - 2))).1, (endOf b 0).1, 0)
  else ([], 0, (parseOf (b.take ((endOf b 0).1 - 2))).2)
/-- one step of the reading: 0 more is needed, 1 an error, 2 a chunk, 3 the end; the chunk's data, the trailers, how many bytes were taken, the error -/
structure St where
  o : Nat
  d : List UInt8
  fs : FL
  n : Nat
  e : Int
def St.need : St := ⟨0, [], [], 0, 0⟩
def St.err (e : Int) : St := ⟨1, [], [], 0, e⟩
def finC (n : Nat) (t : FL × Nat × Int) : St := if t.2.2 ≠ 0 then St.err t.2.2 else if t.2.1 = 0 then St.need else ⟨3, [], t.1, n + t.2.1, 0⟩
def dataC (b : List UInt8) (s n k : Nat) : St :=
  if 65536 < k + s then St.err 71 else if b.length < s + 2 then St.need else if pairB (b.drop s) = false then St.err 70 else ⟨2, b.take s, [], n + (s + 2), 0⟩
def stepC (b : List UInt8) (k : Nat) : St :=
  if (lineC b).2.2 ≠ 0 then St.err (lineC b).2.2
  else if (lineC b).2.1 = 0 then St.need
  else if (lineC b).1 = 0 then finC (lineC b).2.1 (tailC (b.drop (lineC b).2.1))
  else dataC (b.drop (lineC b).2.1) (lineC b).1 (lineC b).2.1 k
def decG : Nat → List UInt8 → List UInt8 → Nat → List UInt8 × FL × Nat × Int
  | 0, _, _, _ => ([], [], 0, 0)
  | f + 1, b, out, p =>
    if (stepC b out.length).o = 2 then decG f (b.drop (stepC b out.length).n) (out ++ (stepC b out.length).d) (p + (stepC b out.length).n)
    else if (stepC b out.length).o = 3 then (out, (stepC b out.length).fs, p + (stepC b out.length).n, 0)
    else ([], [], 0, (stepC b out.length).e)
def decOf (b : List UInt8) : List UInt8 × FL × Nat × Int := decG (b.length + 1) b [] 0
theorem dec_chunk {f : Nat} {b out : List UInt8} {p : Nat} (h : (stepC b out.length).o = 2) : decG (f + 1) b out p = decG f (b.drop (stepC b out.length).n) (out ++ (stepC b out.length).d) (p + (stepC b out.length).n) := by rw [decG, if_pos h]
theorem dec_fin {f : Nat} {b out : List UInt8} {p : Nat} (h : (stepC b out.length).o = 3) : decG (f + 1) b out p = (out, (stepC b out.length).fs, p + (stepC b out.length).n, 0) := by rw [decG, if_neg (by omega), if_pos h]
theorem dec_stop {f : Nat} {b out : List UInt8} {p : Nat} (h2 : (stepC b out.length).o ≠ 2) (h3 : (stepC b out.length).o ≠ 3) : decG (f + 1) b out p = ([], [], 0, (stepC b out.length).e) := by rw [decG, if_neg h2, if_neg h3]
/-! the line -/
theorem no10_iff (c : UInt8) : no10 c = false ↔ c = 10 := by unfold no10; simp
theorem lenL_le (b : List UInt8) : lenL b ≤ b.length := (List.takeWhile_sublist _).length_le
theorem lenL_lt {b : List UInt8} (h : lenL b ≠ b.length) : lenL b < b.length := Nat.lt_of_le_of_ne (lenL_le b) h
theorem lenL_app {b : List UInt8} (m : List UInt8) (h : lenL b < b.length) : lenL (b ++ m) = lenL b := by
  induction b with
  | nil => simp at h
  | cons c r ih =>
    unfold lenL at h ih ⊢
    rw [List.cons_append, List.takeWhile_cons, List.takeWhile_cons]
    rw [List.takeWhile_cons] at h
    split
    · rename_i hc
      rw [if_pos hc] at h
      simp only [List.length_cons] at h ⊢
      rw [ih (by omega)]
    · rfl
theorem lenL_ge (b m : List UInt8) (h : lenL b = b.length) : b.length ≤ lenL (b ++ m) := by
  induction b with
  | nil => simp
  | cons c r ih =>
    unfold lenL at h ih ⊢
    rw [List.cons_append, List.takeWhile_cons]
    rw [List.takeWhile_cons] at h
    split
    · rename_i hc
      rw [if_pos hc] at h
      simp only [List.length_cons] at h ⊢
      have := ih (by omega)
      omega
    · rename_i hc
      rw [if_neg hc] at h
      simp at h
theorem take_app {b : List UInt8} (m : List UInt8) {k : Nat} (h : k ≤ b.length) : (b ++ m).take k = b.take k := List.take_append_of_le_length h
theorem drop_app {b : List UInt8} (m : List UInt8) {k : Nat} (h : k ≤ b.length) : (b ++ m).drop k = b.drop k ++ m := List.drop_append_of_le_length h
theorem getD_app {b : List UInt8} (m : List UInt8) {k : Nat} (h : k < b.length) : (b ++ m).getD k 0 = b.getD k 0 := by
  rw [List.getD_eq_getElem?_getD, List.getD_eq_getElem?_getD, List.getElem?_append_left h]
theorem lineC_cases (b : List UInt8) : lineC b = (0, 0, 0) ∨ lineC b = (0, 0, 70) ∨ ∃ s, lineC b = (s, lenL b + 1, 0) ∧ lenL b < b.length ∧ lenL b + 1 ≤ 200 := by
  unfold lineC
  split
  · split
    · exact .inr (.inl rfl)
    · exact .inl rfl
  · rename_i h
    split
    · exact .inr (.inl rfl)
    · rename_i h2
      exact .inr (.inr ⟨_, rfl, lenL_lt h, by omega⟩)
theorem lineC_app (b m : List UInt8) (h : lineC b ≠ (0, 0, 0)) : lineC (b ++ m) = lineC b := by
  by_cases hk : lenL b = b.length
  · have e : lineC b = if 200 ≤ b.length then (0, 0, 70) else (0, 0, 0) := by unfold lineC; rw [if_pos hk]
    have h2 : 200 ≤ b.length := by
      rcases Nat.lt_or_ge b.length 200 with h3 | h3
      · rw [if_neg (by omega)] at e; exact absurd e h
      · exact h3
    rw [e, if_pos h2]
    have h4 := lenL_ge b m hk
    unfold lineC
    split
    · rw [if_pos (by rw [List.length_append]; omega)]
    · rw [if_pos (.inl (by omega))]
  · have hlt := lenL_lt hk
    have e1 := lenL_app m hlt
    unfold lineC
    rw [e1, if_neg hk, if_neg (by rw [List.length_append]; omega), take_app m (by omega)]
    by_cases h0 : lenL b = 0
    · rw [if_pos (.inr (.inl h0)), if_pos (.inr (.inl h0))]
    · rw [getD_app m (by omega)]
theorem lineC_take (b : List UInt8) (j : Nat) (h : lineC b ≠ (0, 0, 0)) (he : (lineC b).2.2 = 0) (hj : (lineC b).2.1 ≤ j) : lineC (b.take j) = lineC b := by
  rcases lineC_cases b with e | e | ⟨s, e, hlt, _⟩
  · exact absurd e h
  · rw [e] at he; simp at he
  · rw [e] at hj
    simp only at hj
    have hb : b = b.take j ++ b.drop j := (List.take_append_drop j b).symm
    have hne : lineC (b.take j) ≠ (0, 0, 0) := by
      intro e2
      have hl : lenL (b.take j) = (b.take j).length := by
        apply Classical.byContradiction
        intro hn
        unfold lineC at e2
        rw [if_neg hn] at e2
        split at e2
        · simp at e2
        · simp at e2
      have h5 := lenL_ge (b.take j) (b.drop j) hl
      rw [← hb] at h5
      rw [List.length_take] at h5
      omega
    have := lineC_app (b.take j) (b.drop j) hne
    rw [← hb] at this
    exact this.symm
/-! the trailers -/
theorem pair_app {b m : List UInt8} (h : pairB b = true) : pairB (b ++ m) = true := pre_app _ _ _ h
theorem pair_cut {b m : List UInt8} (h : pairB (b ++ m) = true) (hl : 2 ≤ b.length) : pairB b = true := pre_cut _ _ _ h hl
theorem pair_len {b : List UInt8} (h : pairB b = true) : 2 ≤ b.length := pre_len _ _ h
theorem end_len (b : List UInt8) (h : (endOf b 0).1 ≠ 0) : ∃ i : Nat, Lib.index b E4 = i ∧ endOf b 0 = (i + 4, 0) ∧ i + 4 ≤ 8192 ∧ i + 4 ≤ b.length := by
  obtain ⟨i, h1, h2, h3, h4⟩ := end_facts b 0 h
  rw [List.drop_zero] at h1
  exact ⟨i, h1, by rw [h2]; simp, by omega, by omega⟩
theorem tail_need (b : List UInt8) : (tailC b = ([], 0, 0)) ∨ (tailC b).2.2 ≠ 0 ∨ (0 < (tailC b).2.1 ∧ (tailC b).2.1 ≤ b.length ∧ (tailC b).2.2 = 0) := by
  unfold tailC
  split
  · rename_i h
    exact .inr (.inr ⟨by simp, pair_len h, rfl⟩)
  · split
    · rename_i h1 h2
      rcases end_zero b 0 h2 with h3 | h3
      · rw [h3]; exact .inl rfl
      · rw [h3]; exact .inr (.inl (by simp))
    · rename_i h1 h2
      obtain ⟨i, _, h4, h5, h6⟩ := end_len b h2
      split
      · refine .inr (.inr ?_)
        rw [h4]
        exact ⟨by simp, by simpa using h6, rfl⟩
      · rename_i h7
        exact .inr (.inl h7)
theorem tail_app (b m : List UInt8) (h : tailC b ≠ ([], 0, 0)) : tailC (b ++ m) = tailC b := by
  by_cases hp : pairB b = true
  · unfold tailC
    rw [if_pos hp, if_pos (pair_app hp)]
  · have hl : 2 ≤ b.length := by
      rcases Nat.lt_or_ge b.length 2 with h2 | h2
      · exfalso
        apply h
        have e0 : (endOf b 0).1 = 0 := by
          apply Classical.byContradiction
          intro hn
          obtain ⟨i, _, _, _, h6⟩ := end_len b hn
          omega
        have e1 : (endOf b 0).2 = 0 := by
          unfold endOf at e0 ⊢
          split
          · rw [if_neg (by omega)]
          · rename_i h7
            rcases index_cases (b.drop 0) E4 with h8 | ⟨i, h8⟩
            · exact absurd h8 h7
            · have := index_is _ _ _ h8
              have := occ_len _ _ _ (by decide) this.2.1
              rw [List.drop_zero] at this
              simp [E4] at this
              omega
        unfold tailC
        rw [if_neg hp, if_pos e0, e1]
      · exact h2
    have hp2 : ¬ pairB (b ++ m) = true := fun e => hp (pair_cut e hl)
    by_cases hn : Lib.index (b.drop 0) E4 = -1
    · have h8 : 8192 ≤ b.length := by
        rcases Nat.lt_or_ge b.length 8192 with h3 | h3
        · exfalso
          apply h
          have e := end_none b 0 hn
          rw [if_neg (by omega)] at e
          unfold tailC
          rw [if_neg hp, e]
          rfl
        · exact h3
      have e1 := end_none b 0 hn
      rw [if_pos h8] at e1
      have e2 := end_over b m 0 0 (by omega) (Nat.le_refl _) hn h8
      unfold tailC
      rw [if_neg hp, if_neg hp2, e1, e2, if_pos rfl, if_pos rfl]
    · have e2 := end_app b m 0 (by omega) hn
      unfold tailC
      rw [if_neg hp, if_neg hp2, e2]
      by_cases hz : (endOf b 0).1 = 0
      · rw [if_pos hz, if_pos hz]
      · obtain ⟨i, _, h4, h5, h6⟩ := end_len b hz
        rw [if_neg hz, if_neg hz, take_app m (by rw [h4]; simp; omega)]
theorem tail_take (b : List UInt8) (j : Nat) (h0 : (tailC b).2.2 = 0) (h1 : 0 < (tailC b).2.1) (hj : (tailC b).2.1 ≤ j) : tailC (b.take j) = tailC b := by
  have hb : b = b.take j ++ b.drop j := (List.take_append_drop j b).symm
  have hne : tailC (b.take j) ≠ ([], 0, 0) := by
    intro e
    by_cases hp : pairB b = true
    · have h2 : tailC b = ([], 2, 0) := by unfold tailC; rw [if_pos hp]
      rw [h2] at hj
      simp only at hj
      have hl := pair_len hp
      have hp2 : pairB (b.take j) = true := by
        rw [hb] at hp
        exact pair_cut hp (by rw [List.length_take]; omega)
      unfold tailC at e
      rw [if_pos hp2] at e
      simp at e
    · have hz : (endOf b 0).1 ≠ 0 := by
        intro hz
        unfold tailC at h1
        rw [if_neg hp, if_pos hz] at h1
        simp at h1
      obtain ⟨i, h3, h4, h5, h6⟩ := end_len b hz
      have hn : (tailC b).2.1 = i + 4 := by
        unfold tailC at h0 h1 ⊢
        rw [if_neg hp, if_neg hz] at h0 h1 ⊢
        split
        · rw [h4]
        · rename_i h7; rw [if_neg h7] at h1; simp at h1
      rw [hn] at hj
      have h7 : Lib.index (b.take j) E4 = i := index_take b E4 (by decide) i j h3 (by simp [E4]; omega)
      have h8 : endOf (b.take j) 0 = (i + 4, 0) := by
        rw [end_some (b.take j) 0 i (by rw [List.drop_zero]; exact h7), if_neg (by omega)]
        simp
      have hp2 : ¬ pairB (b.take j) = true := fun e2 => hp (by rw [hb]; exact pair_app e2)
      have hpe : (parseOf (b.take (i + 2))).2 = 0 := by
        unfold tailC at h0
        rw [if_neg hp, if_neg hz, h4] at h0
        simp only at h0
        have e4 : i + 4 - 2 = i + 2 := by omega
        rw [e4] at h0
        split at h0
        · assumption
        · exact h0
      have e5 : (b.take j).take (i + 2) = b.take (i + 2) := by rw [List.take_take]; congr 1; omega
      unfold tailC at e
      rw [if_neg hp2, h8] at e
      simp only at e
      rw [if_neg (by omega), show i + 4 - 2 = i + 2 by omega, e5, if_pos hpe] at e
      simp at e
  have := tail_app (b.take j) (b.drop j) hne
  rw [← hb] at this
  exact this.symm
end Go.Proofs.YtobkmepamgdccaaGreatDoor
