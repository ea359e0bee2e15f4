/- A head's first line, and a whole head, in plain words. -/
import Derived.Test.YtbbaajlabpjnlaaDoorFdQ
import Derived.Test.YtbbaajlabpjnlaaDoorHdA
namespace Go.Proofs.YtbbaajlabpjnlaaDoor
open Go.RowKit
def noBl (c : UInt8) : Bool := decide (c ≠ 32)
theorem noBl_iff (c : UInt8) : noBl c = false ↔ c = 32 := by unfold noBl; simp
def word (l : List UInt8) : List UInt8 := l.takeWhile noBl
def past (l : List UInt8) : List UInt8 := (l.dropWhile noBl).drop 1
def visI (c : Int) : Bool := decide (33 ≤ c ∧ c ≤ 126)
def digI (c : Int) : Bool := decide (48 ≤ c ∧ c ≤ 57)
def vis (c : UInt8) : Bool := visI (c.toNat : Int)
def dig (c : UInt8) : Bool := digI (c.toNat : Int)
def goodT (l : List UInt8) : Bool := !l.isEmpty && l.all vis
def P5 : List UInt8 := [72, 84, 84, 80, 47]
def V10 : List UInt8 := [72, 84, 84, 80, 47, 49, 46, 48]
def V11 : List UInt8 := [72, 84, 84, 80, 47, 49, 46, 49]
def isVer (l : List UInt8) : Bool := P5.isPrefixOf l && (decide (l.length = 8) && (dig (l.getD 5 0) && (decide (l.getD 6 0 = 46) && dig (l.getD 7 0))))
def minOf (l : List UInt8) : Int × Int := if l = V10 then (0, 0) else if l = V11 then (1, 0) else (0, 52)
theorem word_len (l : List UInt8) : (word l).length ≤ l.length := (List.takeWhile_sublist _).length_le
theorem past_len (l : List UInt8) : (past l).length ≤ l.length := by
  have := (List.dropWhile_sublist noBl (l := l)).length_le
  unfold past; rw [List.length_drop]; omega
theorem cut_blank (l : List UInt8) : Lib.cut l [32] = (word l, past l, ! l.all noBl) := cut_one noBl 32 noBl_iff l
theorem ver_facts {l : List UInt8} (h : isVer l = true) : l.length = 8 ∧ P5.isPrefixOf l = true := by
  unfold isVer at h
  simp only [Bool.and_eq_true, decide_eq_true_eq] at h
  exact ⟨h.2.1, h.1⟩
theorem min_facts (l : List UInt8) : ((minOf l).2 = 0 ∧ ((minOf l).1 = 0 ∨ (minOf l).1 = 1)) ∨ ((minOf l).2 = 52 ∧ (minOf l).1 = 0) := by
  unfold minOf
  split
  · exact .inl ⟨rfl, .inl rfl⟩
  · split
    · exact .inl ⟨rfl, .inr rfl⟩
    · exact .inr ⟨rfl, rfl⟩
structure Rq where
  m : List UInt8
  t : List UInt8
  k : Int
  fs : FL
structure Rs where
  s : Int
  r : List UInt8
  k : Int
  fs : FL
def Rq.zero : Rq := ⟨[], [], 0, []⟩
def Rs.zero : Rs := ⟨0, [], 0, []⟩
/-- a request's first line -/
def lineQ (l : List UInt8) : Rq × Int :=
  if (isTok (word l) && (goodT (word (past l)) && isVer (past (past l)))) = false then (Rq.zero, 50)
  else if (minOf (past (past l))).2 = 0 then (⟨word l, word (past l), (minOf (past (past l))).1, []⟩, 0) else (Rq.zero, 52)
def num3 (l : List UInt8) : Int := ((l.getD 0 0).toNat : Int) * 100 + ((l.getD 1 0).toNat : Int) * 10 + ((l.getD 2 0).toNat : Int) - 5328
def goodS (n : Int) : Bool := decide (100 ≤ n ∧ n ≤ 599)
/-- a response's first line -/
def lineR (l : List UInt8) : Rs × Int :=
  if (isVer (word l) && (decide ((word (past l)).length = 3) && ((word (past l)).all dig && (past (past l)).all txt))) = false then (Rs.zero, 50)
  else if (minOf (word l)).2 = 0 then (if goodS (num3 (word (past l))) = true then (⟨num3 (word (past l)), past (past l), (minOf (word l)).1, []⟩, 0) else (Rs.zero, 53)) else (Rs.zero, 52)
theorem lineQ_bad (l : List UInt8) (h : (lineQ l).2 ≠ 0) : (lineQ l).1 = Rq.zero := by
  unfold lineQ at h ⊢
  split
  · rfl
  · split
    · rename_i h1 h2; rw [if_neg h1, if_pos h2] at h; exact absurd rfl h
    · rfl
theorem lineR_bad (l : List UInt8) (h : (lineR l).2 ≠ 0) : (lineR l).1 = Rs.zero := by
  unfold lineR at h ⊢
  split
  · rfl
  · split
    · split
      · rename_i h1 h2 h3; rw [if_neg h1, if_pos h2, if_pos h3] at h; exact absurd rfl h
      · rfl
    · rfl
def headH (bs : List UInt8) (p n : Nat) : List UInt8 := (bs.take (n - 2)).drop p
def lineH (h : List UInt8) : List UInt8 := h.take (Lib.index h E2).toNat
def blkH (h : List UInt8) : List UInt8 := h.drop ((Lib.index h E2).toNat + 2)
def hostN : List UInt8 := [72, 111, 115, 116]
def hostL : List UInt8 := [104, 111, 115, 116]
theorem host_same (fs : FL) : valsOf fs hostL = valsOf fs hostN := by
  unfold valsOf
  rw [show lows hostL = lows hostN from by decide]
def hostsOf (fs : FL) : Nat := (valsOf fs hostN).length
def hostBad (fs : FL) (k : Int) : Bool := decide (1 < hostsOf fs ∨ (hostsOf fs = 0 ∧ k = 1))
/-- a request, of its first line, its fields and its length -/
def reqG (q : Rq × Int) (f : FL × Int) (n : Nat) : Rq × Nat × Int :=
  if q.2 ≠ 0 then (Rq.zero, 0, q.2) else if f.2 ≠ 0 then (Rq.zero, 0, f.2) else if hostBad f.1 q.1.k = true then (Rq.zero, 0, 40) else (⟨q.1.m, q.1.t, q.1.k, f.1⟩, n, 0)
def reqOf (bs : List UInt8) : Rq × Nat × Int :=
  if (endOf bs (leadOf bs)).1 = 0 then (Rq.zero, 0, (endOf bs (leadOf bs)).2)
  else reqG (lineQ (lineH (headH bs (leadOf bs) (endOf bs (leadOf bs)).1))) (parseOf (blkH (headH bs (leadOf bs) (endOf bs (leadOf bs)).1))) (endOf bs (leadOf bs)).1
def respG (q : Rs × Int) (f : FL × Int) (n : Nat) : Rs × Nat × Int :=
  if q.2 ≠ 0 then (Rs.zero, 0, q.2) else if f.2 ≠ 0 then (Rs.zero, 0, f.2) else (⟨q.1.s, q.1.r, q.1.k, f.1⟩, n, 0)
def respOf (bs : List UInt8) : Rs × Nat × Int :=
  if (endOf bs 0).1 = 0 then (Rs.zero, 0, (endOf bs 0).2)
  else respG (lineR (lineH (headH bs 0 (endOf bs 0).1))) (parseOf (blkH (headH bs 0 (endOf bs 0).1))) (endOf bs 0).1
/-- what the end says -/
theorem end_facts (bs : List UInt8) (p : Nat) (h : (endOf bs p).1 ≠ 0) : ∃ i : Nat, Lib.index (bs.drop p) E4 = i ∧ endOf bs p = (p + i + 4, 0) ∧ p + i + 4 ≤ 8192 ∧ p + i + 4 ≤ bs.length := by
  rcases index_cases (bs.drop p) E4 with h1 | ⟨i, h1⟩
  · rw [end_none _ _ h1] at h; split at h <;> exact absurd rfl h
  · have h2 := end_some bs p i h1
    by_cases hc : 8192 < p + i + 4
    · rw [h2, if_pos hc] at h; exact absurd rfl h
    · rw [if_neg hc] at h2
      have h3 := occ_len _ _ _ (by decide) (index_is _ _ _ h1).2.1
      rw [List.length_drop] at h3
      have : E4.length = 4 := rfl
      exact ⟨i, h1, h2, by omega, by omega⟩
theorem end_zero (bs : List UInt8) (p : Nat) (h : (endOf bs p).1 = 0) : (endOf bs p).2 = 0 ∨ (endOf bs p).2 = 51 := by
  rcases index_cases (bs.drop p) E4 with h1 | ⟨i, h1⟩
  · rw [end_none _ _ h1]; split
    · exact .inr rfl
    · exact .inl rfl
  · rw [end_some _ _ _ h1] at h ⊢
    split
    · exact .inr rfl
    · rename_i hc; rw [if_neg hc] at h; simp at h
/-- in what stands ahead of the head's last two bytes a line's end is found -/
theorem headH_index (bs : List UInt8) (p i : Nat) (h : Lib.index (bs.drop p) E4 = i) (hl : p + i + 4 ≤ bs.length) : ∃ j : Nat, Lib.index (headH bs p (p + i + 4)) E2 = j ∧ j ≤ i ∧ (headH bs p (p + i + 4)).length = i + 2 := by
  have hlen : (headH bs p (p + i + 4)).length = i + 2 := by
    unfold headH; rw [List.length_drop, List.length_take]; omega
  have ho := (index_is _ _ _ h).2.1
  have e : headH bs p (p + i + 4) = (bs.drop p).take (i + 2) := by
    unfold headH
    rw [List.drop_take]
    congr 1
    omega
  have h2 : Lib.occAt (headH bs p (p + i + 4)) E2 i = true := by
    rw [e]
    unfold Lib.occAt at ho ⊢
    rw [List.drop_take]
    rw [List.isPrefixOf_iff_prefix] at ho ⊢
    obtain ⟨t, ht⟩ := ho
    rw [← ht, show i + 2 - i = 2 by omega]
    exact ⟨[], rfl⟩
  obtain ⟨j, hj, hji⟩ := index_some_of _ _ _ (by decide) h2
  exact ⟨j, hj, hji, hlen⟩
theorem req_none (bs : List UInt8) (h : (endOf bs (leadOf bs)).1 = 0) : reqOf bs = (Rq.zero, 0, (endOf bs (leadOf bs)).2) := by unfold reqOf; rw [if_pos h]
theorem resp_none (bs : List UInt8) (h : (endOf bs 0).1 = 0) : respOf bs = (Rs.zero, 0, (endOf bs 0).2) := by unfold respOf; rw [if_pos h]
theorem req_some (bs : List UInt8) (n : Nat) (hn : n ≠ 0) (h : endOf bs (leadOf bs) = (n, 0)) : reqOf bs = reqG (lineQ (lineH (headH bs (leadOf bs) n))) (parseOf (blkH (headH bs (leadOf bs) n))) n := by unfold reqOf; rw [h, if_neg hn]
theorem resp_some (bs : List UInt8) (n : Nat) (hn : n ≠ 0) (h : endOf bs 0 = (n, 0)) : respOf bs = respG (lineR (lineH (headH bs 0 n))) (parseOf (blkH (headH bs 0 n))) n := by unfold respOf; rw [h, if_neg hn]
theorem headH_app (b m : List UInt8) (p n : Nat) (hn : n ≤ b.length) : headH (b ++ m) p n = headH b p n := by
  unfold headH; rw [List.take_append_of_le_length (by omega)]
theorem headH_take (b : List UInt8) (p n : Nat) : headH (b.take n) p n = headH b p n := by
  unfold headH; rw [List.take_take, Nat.min_eq_left (by omega)]
theorem reqG_facts (q : Rq × Int) (f : FL × Int) (n : Nat) : ((reqG q f n).2.2 = 0 ∧ (reqG q f n).2.1 = n ∧ (reqG q f n).1 = ⟨q.1.m, q.1.t, q.1.k, f.1⟩ ∧ q.2 = 0 ∧ f.2 = 0 ∧ hostBad f.1 q.1.k = false) ∨ ((reqG q f n).2.2 ≠ 0 ∧ reqG q f n = (Rq.zero, 0, (reqG q f n).2.2)) := by
  unfold reqG
  split
  · right; exact ⟨by assumption, rfl⟩
  · split
    · right; exact ⟨by assumption, rfl⟩
    · split
      · right; exact ⟨by simp, rfl⟩
      · left
        rename_i h1 h2 h3
        exact ⟨rfl, rfl, rfl, by simpa using h1, by simpa using h2, by simpa using h3⟩
theorem respG_facts (q : Rs × Int) (f : FL × Int) (n : Nat) : ((respG q f n).2.2 = 0 ∧ (respG q f n).2.1 = n) ∨ ((respG q f n).2.2 ≠ 0 ∧ respG q f n = (Rs.zero, 0, (respG q f n).2.2)) := by
  unfold respG
  split
  · right; exact ⟨by assumption, rfl⟩
  · split
    · right; exact ⟨by assumption, rfl⟩
    · left; exact ⟨rfl, rfl⟩
end Go.Proofs.YtbbaajlabpjnlaaDoor
