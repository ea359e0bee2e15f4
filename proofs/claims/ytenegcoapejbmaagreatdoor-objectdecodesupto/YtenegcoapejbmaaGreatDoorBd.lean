/- Where a pattern first stands in a text, in plain words: with more behind, and ahead of the end; pairs ahead; the head's end. A head's first line, and a whole head, in plain words. The bodies of the library's functions that are met here are those that the kit's contracts were proved of: the tables of numbers, checked body by body. The contracts of digit, visible, textByte, every, goodTarget, isVersion, minorOf. The contracts of isVersion and leadingEnds. The contract of split. A block of four cells that may be written; strings.Cut at a blank; the contract of requestLine. -/
import Derived.Test.YtenegcoapejbmaaGreatDoorBa
import Derived.Lib.IndexMore
import Derived.Test.YtenegcoapejbmaaGreatDoorBb
import Derived.Shelf.Bytes.SlSmallAll
import Derived.Shelf.Bytes.SlIndexWhole
import Derived.Shelf.Small.Wraps
import Derived.Test.YtenegcoapejbmaaGreatDoorProg
namespace Go.Proofs.YtenegcoapejbmaaGreatDoor
open Go.RowKit
def E2 : List UInt8 := [13, 10]
def E4 : List UInt8 := [13, 10, 13, 10]
theorem pre_app (p l m : List UInt8) (h : p.isPrefixOf l = true) : p.isPrefixOf (l ++ m) = true := by
  rw [List.isPrefixOf_iff_prefix] at h ⊢
  obtain ⟨t, rfl⟩ := h
  exact ⟨t ++ m, by rw [List.append_assoc]⟩
theorem pre_cut (p l m : List UInt8) (h : p.isPrefixOf (l ++ m) = true) (hl : p.length ≤ l.length) : p.isPrefixOf l = true := by
  rw [List.isPrefixOf_iff_prefix] at h ⊢
  exact List.prefix_of_prefix_length_le h (List.prefix_append l m) hl
theorem pre_len (p l : List UInt8) (h : p.isPrefixOf l = true) : p.length ≤ l.length := by
  rw [List.isPrefixOf_iff_prefix] at h
  exact h.length_le
theorem occ_app (l m p : List UInt8) (j : Nat) (hj : j ≤ l.length) (h : Lib.occAt l p j = true) : Lib.occAt (l ++ m) p j = true := by
  unfold Lib.occAt at *
  rw [List.drop_append_of_le_length hj]
  exact pre_app _ _ _ h
theorem occ_cut (l m p : List UInt8) (j : Nat) (h : Lib.occAt (l ++ m) p j = true) (hj : j + p.length ≤ l.length) : Lib.occAt l p j = true := by
  unfold Lib.occAt at *
  rw [List.drop_append_of_le_length (by omega)] at h
  exact pre_cut _ _ _ h (by rw [List.length_drop]; omega)
theorem occ_len (l p : List UInt8) (j : Nat) (hp : p ≠ []) (h : Lib.occAt l p j = true) : j + p.length ≤ l.length := by
  unfold Lib.occAt at h
  have := pre_len _ _ h
  rw [List.length_drop] at this
  have : 0 < p.length := List.length_pos_iff.2 hp
  omega
theorem index_app (l m p : List UInt8) (hp : p ≠ []) (i : Nat) (h : Lib.index l p = i) : Lib.index (l ++ m) p = i := by
  rcases Lib.index_spec l p with ⟨h1, _⟩ | ⟨k, h1, h2, h3, h4⟩
  · omega
  · obtain rfl : k = i := by omega
    have hk := occ_len _ _ _ hp h3
    refine Lib.index_first (by rw [List.length_append]; omega) (occ_app _ _ _ _ h2 h3) (fun j hj => ?_)
    cases e : Lib.occAt (l ++ m) p j with
    | false => rfl
    | true => have := occ_cut l m p j e (by omega); rw [h4 j hj] at this; cases this
theorem index_none_of (l p : List UInt8) (h : Lib.index l p = -1) (j : Nat) (hp : p ≠ []) : Lib.occAt l p j = false := by
  rcases Lib.index_spec l p with ⟨_, h2⟩ | ⟨k, h1, _⟩
  · by_cases hj : j ≤ l.length
    · exact h2 j hj
    · cases e : Lib.occAt l p j with
      | false => rfl
      | true => have := occ_len _ _ _ hp e; omega
  · omega
theorem index_app_none (l m p : List UInt8) (hp : p ≠ []) (h : Lib.index l p = -1) (i : Nat) (hi : Lib.index (l ++ m) p = i) : l.length < i + p.length := by
  rcases Lib.index_spec (l ++ m) p with ⟨h1, _⟩ | ⟨k, h1, _, h3, _⟩
  · omega
  · obtain rfl : k = i := by omega
    rcases Nat.lt_or_ge l.length (k + p.length) with h' | h'
    · exact h'
    · have := occ_cut l m p k h3 (by omega); rw [index_none_of l p h k hp] at this; cases this
theorem index_some_of (l p : List UInt8) (j : Nat) (hp : p ≠ []) (h : Lib.occAt l p j = true) : ∃ i : Nat, Lib.index l p = i ∧ i ≤ j := by
  rcases Lib.index_spec l p with ⟨_, h2⟩ | ⟨k, h1, _, _, h4⟩
  · have := occ_len _ _ _ hp h
    rw [h2 j (by omega)] at h; cases h
  · refine ⟨k, h1, ?_⟩
    rcases Nat.lt_or_ge j k with h' | h'
    · rw [h4 j h'] at h; cases h
    · exact h'
theorem index_is (l p : List UInt8) (i : Nat) (h : Lib.index l p = i) : i ≤ l.length ∧ Lib.occAt l p i = true ∧ ∀ j, j < i → Lib.occAt l p j = false := by
  rcases Lib.index_spec l p with ⟨h1, _⟩ | ⟨k, h1, h2, h3, h4⟩
  · omega
  · obtain rfl : k = i := by omega
    exact ⟨h2, h3, h4⟩
theorem index_cases (l p : List UInt8) : Lib.index l p = -1 ∨ ∃ i : Nat, Lib.index l p = i := by
  rcases Lib.index_spec l p with ⟨h1, _⟩ | ⟨k, h1, _⟩
  · exact .inl h1
  · exact .inr ⟨k, h1⟩
/-- how many bytes the pairs ahead take -/
def leadOf : List UInt8 → Nat
  | a :: b :: t => if a = 13 ∧ b = 10 then leadOf t + 2 else 0
  | _ => 0
def pairB (l : List UInt8) : Bool := E2.isPrefixOf l
theorem pair_iff (l : List UInt8) : pairB l = true ↔ ∃ t, l = 13 :: 10 :: t := by
  unfold pairB E2
  rw [List.isPrefixOf_iff_prefix]
  constructor
  · rintro ⟨t, rfl⟩; exact ⟨t, rfl⟩
  · rintro ⟨t, rfl⟩; exact ⟨t, rfl⟩
theorem lead_yes (l : List UInt8) (h : pairB l = true) : leadOf l = leadOf (l.drop 2) + 2 := by
  obtain ⟨t, rfl⟩ := (pair_iff l).1 h
  rw [leadOf]; simp
theorem lead_no (l : List UInt8) (h : pairB l = false) : leadOf l = 0 := by
  match l with
  | [] => rfl
  | [a] => rfl
  | a :: b :: t =>
    rw [leadOf, if_neg]
    rintro ⟨rfl, rfl⟩
    have := (pair_iff (13 :: 10 :: t)).2 ⟨t, rfl⟩
    rw [h] at this; cases this
theorem lead_le : ∀ (n : Nat) (l : List UInt8), l.length ≤ n → leadOf l ≤ l.length := by
  intro n
  induction n with
  | zero => intro l h; obtain rfl : l = [] := List.eq_nil_of_length_eq_zero (by omega); simp [leadOf]
  | succ n ih =>
    intro l h
    cases hp : pairB l with
    | false => rw [lead_no l hp]; omega
    | true =>
      rw [lead_yes l hp]
      obtain ⟨t, rfl⟩ := (pair_iff l).1 hp
      simp at h ⊢
      exact ih t (by omega)
theorem lead_bound (l : List UInt8) : leadOf l ≤ l.length := lead_le _ l (Nat.le_refl _)
theorem lead_end : ∀ (n : Nat) (l : List UInt8), l.length ≤ n → pairB (l.drop (leadOf l)) = false := by
  intro n
  induction n with
  | zero => intro l h; obtain rfl : l = [] := List.eq_nil_of_length_eq_zero (by omega); rfl
  | succ n ih =>
    intro l h
    cases hp : pairB l with
    | false => rw [lead_no l hp]; exact hp
    | true =>
      rw [lead_yes l hp]
      obtain ⟨t, rfl⟩ := (pair_iff l).1 hp
      have := ih t (by simp at h; omega)
      simpa using this
theorem lead_app : ∀ (n : Nat) (l m : List UInt8), l.length ≤ n → leadOf l + 2 ≤ l.length → leadOf (l ++ m) = leadOf l := by
  intro n
  induction n with
  | zero => intro l m h h2; omega
  | succ n ih =>
    intro l m h h2
    cases hp : pairB l with
    | false =>
      rw [lead_no l hp]
      apply lead_no
      cases e : pairB (l ++ m) with
      | false => rfl
      | true =>
        have := pre_cut E2 l m e (by show 2 ≤ l.length; omega)
        rw [show E2.isPrefixOf l = pairB l from rfl, hp] at this; cases this
    | true =>
      rw [lead_yes l hp] at h2 ⊢
      obtain ⟨t, rfl⟩ := (pair_iff l).1 hp
      simp at h h2 ⊢
      have e : pairB (13 :: 10 :: (t ++ m)) = true := (pair_iff _).2 ⟨_, rfl⟩
      rw [lead_yes _ e]
      simp
      exact ih t m (by omega) (by omega)
theorem lead_more : ∀ (n : Nat) (l m : List UInt8), l.length ≤ n → leadOf l ≤ leadOf (l ++ m) := by
  intro n
  induction n with
  | zero => intro l m h; obtain rfl : l = [] := List.eq_nil_of_length_eq_zero (by omega); simp [leadOf]
  | succ n ih =>
    intro l m h
    cases hp : pairB l with
    | false => rw [lead_no l hp]; omega
    | true =>
      obtain ⟨t, rfl⟩ := (pair_iff l).1 hp
      have e : pairB (13 :: 10 :: (t ++ m)) = true := (pair_iff _).2 ⟨_, rfl⟩
      rw [lead_yes _ hp, show (13 :: 10 :: t) ++ m = 13 :: 10 :: (t ++ m) from rfl, lead_yes _ e]
      simp at h ⊢
      exact ih t m (by omega)
/-- where the head ends, counted from the beginning, the pairs of p bytes passed over; 0 and 0: it isn't there yet -/
def endOf (bs : List UInt8) (p : Nat) : Nat × Int :=
  if Lib.index (bs.drop p) E4 = -1 then (if 8192 ≤ bs.length then (0, 51) else (0, 0))
  else if 8192 < p + (Lib.index (bs.drop p) E4).toNat + 4 then (0, 51) else (p + (Lib.index (bs.drop p) E4).toNat + 4, 0)
theorem end_none (bs : List UInt8) (p : Nat) (h : Lib.index (bs.drop p) E4 = -1) : endOf bs p = if 8192 ≤ bs.length then (0, 51) else (0, 0) := by unfold endOf; rw [if_pos h]
theorem end_some (bs : List UInt8) (p i : Nat) (h : Lib.index (bs.drop p) E4 = i) : endOf bs p = if 8192 < p + i + 4 then (0, 51) else (p + i + 4, 0) := by
  unfold endOf; rw [if_neg (by omega), h, Int.toNat_natCast]
/-- what is told of an end is told with more behind -/
theorem end_app (b m : List UInt8) (p : Nat) (hp : p ≤ b.length) (hd : Lib.index (b.drop p) E4 ≠ -1) : endOf (b ++ m) p = endOf b p := by
  rcases index_cases (b.drop p) E4 with h1 | ⟨i, h1⟩
  · exact absurd h1 hd
  · rw [end_some b p i h1, end_some (b ++ m) p i]
    rw [List.drop_append_of_le_length hp]
    exact index_app _ _ _ (by decide) _ h1
theorem end_over (b m : List UInt8) (p q : Nat) (hp : p ≤ b.length) (hq : p ≤ q) (h : Lib.index (b.drop p) E4 = -1) (hl : 8192 ≤ b.length) : endOf (b ++ m) q = (0, 51) := by
  rcases index_cases ((b ++ m).drop q) E4 with h1 | ⟨i, h1⟩
  · rw [end_none _ _ h1, if_pos (by rw [List.length_append]; omega)]
  · rw [end_some _ _ _ h1, if_pos]
    have h2 := (index_is _ _ _ h1).2.1
    have h3 : Lib.occAt (b.drop p ++ m) E4 (q - p + i) = true := by
      unfold Lib.occAt at h2 ⊢
      rw [← List.drop_append_of_le_length hp, List.drop_drop]
      rw [List.drop_drop] at h2
      rwa [show p + (q - p + i) = q + i by omega]
    rcases Nat.lt_or_ge 8192 (q + i + 4) with h' | h'
    · exact h'
    · have := occ_cut (b.drop p) m E4 (q - p + i) h3 (by rw [List.length_drop]; show _ + 4 ≤ _; omega)
      rw [index_none_of _ _ h _ (by decide)] at this; cases this
end Go.Proofs.YtenegcoapejbmaaGreatDoor
namespace Go.Proofs.YtenegcoapejbmaaGreatDoor
open Go.RowKit
def noBl (c : UInt8) : Bool := decide (c ≠ 32)
theorem noBl_iff (c : UInt8) : noBl c = false ↔ c = 32 := by unfold noBl; simp
def word (l : List UInt8) : List UInt8 := l.takeWhile noBl
def past (l : List UInt8) : List UInt8 := (l.dropWhile noBl).drop 1
def visI (c : Int) : Bool := decide (33 ≤ c ∧ c ≤ 126)
def digI (c : Int) : Bool := decide (48 ≤ c ∧ c ≤ 57)
def vis (c : UInt8) : Bool := visI (c.toNat : Int)
def dig (c : UInt8) : Bool := digI (c.toNat : Int)
def goodT (l : List UInt8) : Bool := !l.isEmpty && l.all vis
def P5 : List UInt8 := [72, 84, 84, 80, 47]
def V10 : List UInt8 := [72, 84, 84, 80, 47, 49, 46, 48]
def V11 : List UInt8 := [72, 84, 84, 80, 47, 49, 46, 49]
def isVer (l : List UInt8) : Bool := P5.isPrefixOf l && (decide (l.length = 8) && (dig (l.getD 5 0) && (decide (l.getD 6 0 = 46) && dig (l.getD 7 0))))
def minOf (l : List UInt8) : Int × Int := if l = V10 then (0, 0) else if l = V11 then (1, 0) else (0, 52)
theorem word_len (l : List UInt8) : (word l).length ≤ l.length := (List.takeWhile_sublist _).length_le
theorem past_len (l : List UInt8) : (past l).length ≤ l.length := by
  have := (List.dropWhile_sublist noBl (l := l)).length_le
  unfold past; rw [List.length_drop]; omega
theorem cut_blank (l : List UInt8) : Lib.cut l [32] = (word l, past l, ! l.all noBl) := cut_one noBl 32 noBl_iff l
theorem ver_facts {l : List UInt8} (h : isVer l = true) : l.length = 8 ∧ P5.isPrefixOf l = true := by
  unfold isVer at h
  simp only [Bool.and_eq_true, decide_eq_true_eq] at h
  exact ⟨h.2.1, h.1⟩
theorem min_facts (l : List UInt8) : ((minOf l).2 = 0 ∧ ((minOf l).1 = 0 ∨ (minOf l).1 = 1)) ∨ ((minOf l).2 = 52 ∧ (minOf l).1 = 0) := by
  unfold minOf
  split
  · exact .inl ⟨rfl, .inl rfl⟩
  · split
    · exact .inl ⟨rfl, .inr rfl⟩
    · exact .inr ⟨rfl, rfl⟩
structure Rq where
  m : List UInt8
  t : List UInt8
  k : Int
  fs : FL
structure Rs where
  s : Int
  r : List UInt8
  k : Int
  fs : FL
def Rq.zero : Rq := ⟨[], [], 0, []⟩
def Rs.zero : Rs := ⟨0, [], 0, []⟩
/-- a request's first line -/
def lineQ (l : List UInt8) : Rq × Int :=
  if (isTok (word l) && (goodT (word (past l)) && isVer (past (past l)))) = false then (Rq.zero, 50)
  else if (minOf (past (past l))).2 = 0 then (⟨word l, word (past l), (minOf (past (past l))).1, []⟩, 0) else (Rq.zero, 52)
def num3 (l : List UInt8) : Int := ((l.getD 0 0).toNat : Int) * 100 + ((l.getD 1 0).toNat : Int) * 10 + ((l.getD 2 0).toNat : Int) - 5328
def goodS (n : Int) : Bool := decide (100 ≤ n ∧ n ≤ 599)
/-- a response's first line -/
def lineR (l : List UInt8) : Rs × Int :=
  if (isVer (word l) && (decide ((word (past l)).length = 3) && ((word (past l)).all dig && (past (past l)).all txt))) = false then (Rs.zero, 50)
  else if (minOf (word l)).2 = 0 then (if goodS (num3 (word (past l))) = true then (⟨num3 (word (past l)), past (past l), (minOf (word l)).1, []⟩, 0) else (Rs.zero, 53)) else (Rs.zero, 52)
theorem lineQ_bad (l : List UInt8) (h : (lineQ l).2 ≠ 0) : (lineQ l).1 = Rq.zero := by
  unfold lineQ at h ⊢
  split
  · rfl
  · split
    · rename_i h1 h2; rw [if_neg h1, if_pos h2] at h; exact absurd rfl h
    · rfl
theorem lineR_bad (l : List UInt8) (h : (lineR l).2 ≠ 0) : (lineR l).1 = Rs.zero := by
  unfold lineR at h ⊢
  split
  · rfl
  · split
    · split
      · rename_i h1 h2 h3; rw [if_neg h1, if_pos h2, if_pos h3] at h; exact absurd rfl h
      · rfl
    · rfl
def headH (bs : List UInt8) (p n : Nat) : List UInt8 := (bs.take (n - 2)).drop p
def lineH (h : List UInt8) : List UInt8 := h.take (Lib.index h E2).toNat
def blkH (h : List UInt8) : List UInt8 := h.drop ((Lib.index h E2).toNat + 2)
def hostN : List UInt8 := [72, 111, 115, 116]
def hostL : List UInt8 := [104, 111, 115, 116]
theorem host_same (fs : FL) : valsOf fs hostL = valsOf fs hostN := by
  unfold valsOf
  rw [show lows hostL = lows hostN from by decide]
def hostsOf (fs : FL) : Nat := (valsOf fs hostN).length
def hostBad (fs : FL) (k : Int) : Bool := decide (1 < hostsOf fs ∨ (hostsOf fs = 0 ∧ k = 1))
/-- a request, of its first line, its fields and its length -/
def reqG (q : Rq × Int) (f : FL × Int) (n : Nat) : Rq × Nat × Int :=
  if q.2 ≠ 0 then (Rq.zero, 0, q.2) else if f.2 ≠ 0 then (Rq.zero, 0, f.2) else if hostBad f.1 q.1.k = true then (Rq.zero, 0, 40) else (⟨q.1.m, q.1.t, q.1.k, f.1⟩, n, 0)
def reqOf (bs : List UInt8) : Rq × Nat × Int :=
  if (endOf bs (leadOf bs)).1 = 0 then (Rq.zero, 0, (endOf bs (leadOf bs)).2)
  else reqG (lineQ (lineH (headH bs (leadOf bs) (endOf bs (leadOf bs)).1))) (parseOf (blkH (headH bs (leadOf bs) (endOf bs (leadOf bs)).1))) (endOf bs (leadOf bs)).1
def respG (q : Rs × Int) (f : FL × Int) (n : Nat) : Rs × Nat × Int :=
  if q.2 ≠ 0 then (Rs.zero, 0, q.2) else if f.2 ≠ 0 then (Rs.zero, 0, f.2) else (⟨q.1.s, q.1.r, q.1.k, f.1⟩, n, 0)
def respOf (bs : List UInt8) : Rs × Nat × Int :=
  if (endOf bs 0).1 = 0 then (Rs.zero, 0, (endOf bs 0).2)
  else respG (lineR (lineH (headH bs 0 (endOf bs 0).1))) (parseOf (blkH (headH bs 0 (endOf bs 0).1))) (endOf bs 0).1
/-- what the end says -/
theorem end_facts (bs : List UInt8) (p : Nat) (h : (endOf bs p).1 ≠ 0) : ∃ i : Nat, Lib.index (bs.drop p) E4 = i ∧ endOf bs p = (p + i + 4, 0) ∧ p + i + 4 ≤ 8192 ∧ p + i + 4 ≤ bs.length := by
  rcases index_cases (bs.drop p) E4 with h1 | ⟨i, h1⟩
  · rw [end_none _ _ h1] at h; split at h <;> exact absurd rfl h
  · have h2 := end_some bs p i h1
    by_cases hc : 8192 < p + i + 4
    · rw [h2, if_pos hc] at h; exact absurd rfl h
    · rw [if_neg hc] at h2
      have h3 := occ_len _ _ _ (by decide) (index_is _ _ _ h1).2.1
      rw [List.length_drop] at h3
      have : E4.length = 4 := rfl
      exact ⟨i, h1, h2, by omega, by omega⟩
theorem end_zero (bs : List UInt8) (p : Nat) (h : (endOf bs p).1 = 0) : (endOf bs p).2 = 0 ∨ (endOf bs p).2 = 51 := by
  rcases index_cases (bs.drop p) E4 with h1 | ⟨i, h1⟩
  · rw [end_none _ _ h1]; split
    · exact .inr rfl
    · exact .inl rfl
  · rw [end_some _ _ _ h1] at h ⊢
    split
    · exact .inr rfl
    · rename_i hc; rw [if_neg hc] at h; simp at h
/-- in what stands ahead of the head's last two bytes a line's end is found -/
theorem headH_index (bs : List UInt8) (p i : Nat) (h : Lib.index (bs.drop p) E4 = i) (hl : p + i + 4 ≤ bs.length) : ∃ j : Nat, Lib.index (headH bs p (p + i + 4)) E2 = j ∧ j ≤ i ∧ (headH bs p (p + i + 4)).length = i + 2 := by
  have hlen : (headH bs p (p + i + 4)).length = i + 2 := by
    unfold headH; rw [List.length_drop, List.length_take]; omega
  have ho := (index_is _ _ _ h).2.1
  have e : headH bs p (p + i + 4) = (bs.drop p).take (i + 2) := by
    unfold headH
    rw [List.drop_take]
    congr 1
    omega
  have h2 : Lib.occAt (headH bs p (p + i + 4)) E2 i = true := by
    rw [e]
    unfold Lib.occAt at ho ⊢
    rw [List.drop_take]
    rw [List.isPrefixOf_iff_prefix] at ho ⊢
    obtain ⟨t, ht⟩ := ho
    rw [← ht, show i + 2 - i = 2 by omega]
    exact ⟨[], rfl⟩
  obtain ⟨j, hj, hji⟩ := index_some_of _ _ _ (by decide) h2
  exact ⟨j, hj, hji, hlen⟩
theorem req_none (bs : List UInt8) (h : (endOf bs (leadOf bs)).1 = 0) : reqOf bs = (Rq.zero, 0, (endOf bs (leadOf bs)).2) := by unfold reqOf; rw [if_pos h]
theorem resp_none (bs : List UInt8) (h : (endOf bs 0).1 = 0) : respOf bs = (Rs.zero, 0, (endOf bs 0).2) := by unfold respOf; rw [if_pos h]
theorem req_some (bs : List UInt8) (n : Nat) (hn : n ≠ 0) (h : endOf bs (leadOf bs) = (n, 0)) : reqOf bs = reqG (lineQ (lineH (headH bs (leadOf bs) n))) (parseOf (blkH (headH bs (leadOf bs) n))) n := by unfold reqOf; rw [h, if_neg hn]
theorem resp_some (bs : List UInt8) (n : Nat) (hn : n ≠ 0) (h : endOf bs 0 = (n, 0)) : respOf bs = respG (lineR (lineH (headH bs 0 n))) (parseOf (blkH (headH bs 0 n))) n := by unfold respOf; rw [h, if_neg hn]
theorem headH_app (b m : List UInt8) (p n : Nat) (hn : n ≤ b.length) : headH (b ++ m) p n = headH b p n := by
  unfold headH; rw [List.take_append_of_le_length (by omega)]
theorem headH_take (b : List UInt8) (p n : Nat) : headH (b.take n) p n = headH b p n := by
  unfold headH; rw [List.take_take, Nat.min_eq_left (by omega)]
theorem reqG_facts (q : Rq × Int) (f : FL × Int) (n : Nat) : ((reqG q f n).2.2 = 0 ∧ (reqG q f n).2.1 = n ∧ (reqG q f n).1 = ⟨q.1.m, q.1.t, q.1.k, f.1⟩ ∧ q.2 = 0 ∧ f.2 = 0 ∧ hostBad f.1 q.1.k = false) ∨ ((reqG q f n).2.2 ≠ 0 ∧ reqG q f n = (Rq.zero, 0, (reqG q f n).2.2)) := by
  unfold reqG
  split
  · right; exact ⟨by assumption, rfl⟩
  · split
    · right; exact ⟨by assumption, rfl⟩
    · split
      · right; exact ⟨by simp, rfl⟩
      · left
        rename_i h1 h2 h3
        exact ⟨rfl, rfl, rfl, by simpa using h1, by simpa using h2, by simpa using h3⟩
theorem respG_facts (q : Rs × Int) (f : FL × Int) (n : Nat) : ((respG q f n).2.2 = 0 ∧ (respG q f n).2.1 = n) ∨ ((respG q f n).2.2 ≠ 0 ∧ respG q f n = (Rs.zero, 0, (respG q f n).2.2)) := by
  unfold respG
  split
  · right; exact ⟨by assumption, rfl⟩
  · split
    · right; exact ⟨by assumption, rfl⟩
    · left; exact ⟨rfl, rfl⟩
end Go.Proofs.YtenegcoapejbmaaGreatDoor
namespace Go.Proofs
open Go.Shelf
def Tryz.lays185_ren : Go.Shelf.Ren := ⟨fun | 185 => 57 | 187 => 73 | 115 => 13 | 253 => 74 | 224 => 75 | 254 => 76 | 255 => 91 | 291 => 92 | n => n, fun | 37 => 22 | 3 => 3 | 4 => 4 | 0 => 0 | 5 => 5 | 46 => 74 | 9 => 9 | 146 => 108 | 51 => 68 | n => n, fun | 1 => 0 | n => n⟩
theorem Tryz.lays185 : Go.Proofs.Lays.n185 Tryz.prog Tryz.lays185_ren := {
  mixed := by kernel_rfl
  f115 := Tryz.func13.trans (congrArg some (by kernel_rfl))
  f185 := Tryz.func57.trans (congrArg some (by kernel_rfl))
  f187 := Tryz.func73.trans (congrArg some (by kernel_rfl))
  f224 := Tryz.func75.trans (congrArg some (by kernel_rfl))
  f253 := Tryz.func74.trans (congrArg some (by kernel_rfl))
  f254 := Tryz.func76.trans (congrArg some (by kernel_rfl))
  f255 := Tryz.func91.trans (congrArg some (by kernel_rfl))
  f291 := Tryz.func92.trans (congrArg some (by kernel_rfl))
  t0 := Tryz.underlying0
  a0 := Tryz.isAgg0
  z0 := Tryz.sizeOf0
  v0 := Tryz.zeroValue0
  t3 := Tryz.underlying3
  a3 := Tryz.isAgg3
  z3 := Tryz.sizeOf3
  v3 := Tryz.zeroValue3
  t4 := Tryz.underlying4
  a4 := Tryz.isAgg4
  z4 := Tryz.sizeOf4
  v4 := Tryz.zeroValue4
  t5 := Tryz.underlying5
  a5 := Tryz.isAgg5
  z5 := Tryz.sizeOf5
  v5 := Tryz.zeroValue5
  t9 := Tryz.underlying9
  a9 := Tryz.isAgg9
  z9 := Tryz.sizeOf9
  v9 := Tryz.zeroValue9
  t37 := Tryz.underlying22
  a37 := Tryz.isAgg22
  z37 := Tryz.sizeOf22
  v37 := Tryz.zeroValue22
  t46 := Tryz.underlying74
  a46 := Tryz.isAgg74
  z46 := Tryz.sizeOf74
  v46 := Tryz.zeroValue74
  t51 := Tryz.underlying68
  a51 := Tryz.isAgg68
  z51 := Tryz.sizeOf68
  v51 := Tryz.zeroValue68
  t146 := Tryz.underlying108
  a146 := Tryz.isAgg108
  z146 := Tryz.sizeOf108
  v146 := Tryz.zeroValue108
  g1 := by kernel_rfl }
def Tryz.lays103_ren : Go.Shelf.Ren := ⟨fun | 103 => 78 | 210 => 94 | 206 => 122 | n => n, fun | 9 => 9 | 4 => 4 | 24 => 97 | 3 => 3 | n => n, fun | n => n⟩
theorem Tryz.lays103 : Go.Proofs.Lays.n103 Tryz.prog Tryz.lays103_ren := {
  mixed := by kernel_rfl
  f103 := Tryz.func78.trans (congrArg some (by kernel_rfl))
  f206 := Tryz.func122.trans (congrArg some (by kernel_rfl))
  f210 := Tryz.func94.trans (congrArg some (by kernel_rfl))
  t3 := Tryz.underlying3
  a3 := Tryz.isAgg3
  z3 := Tryz.sizeOf3
  v3 := Tryz.zeroValue3
  t4 := Tryz.underlying4
  a4 := Tryz.isAgg4
  z4 := Tryz.sizeOf4
  v4 := Tryz.zeroValue4
  t9 := Tryz.underlying9
  a9 := Tryz.isAgg9
  z9 := Tryz.sizeOf9
  v9 := Tryz.zeroValue9
  t24 := Tryz.underlying97
  a24 := Tryz.isAgg97
  z24 := Tryz.sizeOf97
  v24 := Tryz.zeroValue97 }
end Go.Proofs
namespace Go.Proofs.YtenegcoapejbmaaGreatDoor
open Go.RowKit
theorem digTok (c : Int) (h0 : 0 ≤ c) (h1 : c ≤ 255) (w : World) :
    Calls Tryz.prog 61 #[.int .u8 c] w fun e w' => e = .returned (.bool (digI c)) ∧ w' = w := by
  by_cases a1 : 48 ≤ c
  · by_cases a2 : c ≤ 57
    · have H : Hid (digI c = true) := by unfold Hid digI; simp; omega
      go_enter Tryz.func61, Tryz.ntmps61
      go_wp2
      go_ret
      rw [H.out]
      exact ⟨rfl, rfl⟩
    · have b2 : decide (c ≤ 57) = false := by simpa using a2
      have H : Hid (digI c = false) := by unfold Hid digI; simp; omega
      go_enter Tryz.func61, Tryz.ntmps61
      go_wp2
      go_ret
      rw [H.out]
      exact ⟨rfl, rfl⟩
  · have b2 : decide (48 ≤ c) = false := by simpa using a1
    have H : Hid (digI c = false) := by unfold Hid digI; simp; omega
    go_enter Tryz.func61, Tryz.ntmps61
    go_wp2
    go_ret
    rw [H.out]
    exact ⟨rfl, rfl⟩
set_option maxHeartbeats 400000 in
theorem textTok (c : Int) (h0 : 0 ≤ c) (h1 : c ≤ 255) (w : World) :
    Calls Tryz.prog 42 #[.int .u8 c] w fun e w' => e = .returned (.bool (txtI c)) ∧ w' = w := by
  by_cases a1 : c = 9
  · subst a1
    have H : Hid (txtI 9 = true) := rfl
    go_enter Tryz.func42, Tryz.ntmps42
    go_wp2
    go_ret
    rw [H.out]
    exact ⟨rfl, rfl⟩
  · by_cases a2 : 32 ≤ c
    · by_cases a3 : c = 127
      · subst a3
        have H : Hid (txtI 127 = false) := rfl
        go_enter Tryz.func42, Tryz.ntmps42
        go_wp2
        go_ret
        rw [H.out]
        exact ⟨rfl, rfl⟩
      · have b1 : (c == 9) = false := by simpa using a1
        have b2 : (c != 127) = true := by simpa using a3
        have H : Hid (txtI c = true) := by unfold Hid txtI; simp; omega
        go_enter Tryz.func42, Tryz.ntmps42
        go_wp2
        go_ret
        rw [H.out]
        exact ⟨rfl, rfl⟩
    · have b1 : (c == 9) = false := by simpa using a1
      have b2 : decide (32 ≤ c) = false := by simpa using a2
      have H : Hid (txtI c = false) := by unfold Hid txtI; simp; omega
      go_enter Tryz.func42, Tryz.ntmps42
      go_wp2
      go_ret
      rw [H.out]
      exact ⟨rfl, rfl⟩
theorem ev_step (g : UInt8 → Bool) (s : ByteArray) (k : Nat) (h : k < s.size) (hc : g s[k] = true) (ha : (s.data.toList.take k).all g = true) : (s.data.toList.take (k + 1)).all g = true := by
  rw [take_snoc s k h, List.all_append, ha]; simp [hc]
theorem ev_bad (g : UInt8 → Bool) (s : ByteArray) (k : Nat) (h : k < s.size) (hc : g s[k] = false) : s.data.toList.all g = false := by
  rw [List.all_eq_false]
  exact ⟨s[k], by rw [show s[k] = s.data.toList[k]'(by simpa using h) from rfl]; exact List.getElem_mem _, by simp [hc]⟩
theorem ev_end (g : UInt8 → Bool) (s : ByteArray) (k : Nat) (h : s.size ≤ k) (ha : (s.data.toList.take k).all g = true) : s.data.toList.all g = true := by
  rw [take_all s k h] at ha; exact ha
set_option maxHeartbeats 1000000 in
theorem everyTxt (s : ByteArray) (w : World) (hs : s.size ≤ 140737488351232) :
    Calls Tryz.prog 41 #[.string s, .func (.func 42) #[] #[]] w fun e w' => e = .returned (.bool (s.data.toList.all txt)) ∧ w' = w := by
  obtain ⟨r, hr⟩ : ∃ r, r = s.data.toList.all txt := ⟨_, rfl⟩
  rw [← hr]
  have HR := hide' hr
  clear hr
  go_enter Tryz.func41, Tryz.ntmps41
  go_wp2_with fail
  go_loop [8] (fun i => ∃ k : Nat, k ≤ s.size ∧ i = .int .i64 k ∧ Hid ((s.data.toList.take k).all txt = true)) (fun i => s.size - (intOf i).toNat)
  case atStart => exact ⟨0, by omega, rfl, by unfold Hid; simp⟩
  case round =>
    obtain ⟨k, hk, rfl, ha⟩ := hrel
    by_cases hlt : k < s.size
    · have hb := byte_lt s[k]
      cases ht : txtI (s[k].toNat : Int) with
      | true =>
        have A := hide' (ev_step txt s k hlt ht ha.out)
        go_wp2_with (go_at_call 42; refine (textTok _ (by omega) (by omega) _).mono ?_; rintro e w' ⟨rfl, rfl⟩)
        go_round
        case rel => exact ⟨k + 1, by omega, by go_num, A⟩
        case measure => simp [intOf]; omega
      | false =>
        have F := hide' (ev_bad txt s k hlt ht)
        go_wp2_with (go_at_call 42; refine (textTok _ (by omega) (by omega) _).mono ?_; rintro e w' ⟨rfl, rfl⟩)
        go_ret
        rw [HR.out, F.out]
        exact ⟨rfl, rfl⟩
    · have F := hide' (ev_end txt s k (by omega) ha.out)
      go_wp2_with fail
      go_ret
      rw [HR.out, F.out]
      exact ⟨rfl, rfl⟩
set_option maxHeartbeats 1000000 in
theorem everyDig (s : ByteArray) (w : World) (hs : s.size ≤ 140737488351232) :
    Calls Tryz.prog 41 #[.string s, .func (.func 61) #[] #[]] w fun e w' => e = .returned (.bool (s.data.toList.all dig)) ∧ w' = w := by
  obtain ⟨r, hr⟩ : ∃ r, r = s.data.toList.all dig := ⟨_, rfl⟩
  rw [← hr]
  have HR := hide' hr
  clear hr
  go_enter Tryz.func41, Tryz.ntmps41
  go_wp2_with fail
  go_loop [8] (fun i => ∃ k : Nat, k ≤ s.size ∧ i = .int .i64 k ∧ Hid ((s.data.toList.take k).all dig = true)) (fun i => s.size - (intOf i).toNat)
  case atStart => exact ⟨0, by omega, rfl, by unfold Hid; simp⟩
  case round =>
    obtain ⟨k, hk, rfl, ha⟩ := hrel
    by_cases hlt : k < s.size
    · have hb := byte_lt s[k]
      cases ht : digI (s[k].toNat : Int) with
      | true =>
        have A := hide' (ev_step dig s k hlt ht ha.out)
        go_wp2_with (go_at_call 61; refine (digTok _ (by omega) (by omega) _).mono ?_; rintro e w' ⟨rfl, rfl⟩)
        go_round
        case rel => exact ⟨k + 1, by omega, by go_num, A⟩
        case measure => simp [intOf]; omega
      | false =>
        have F := hide' (ev_bad dig s k hlt ht)
        go_wp2_with (go_at_call 61; refine (digTok _ (by omega) (by omega) _).mono ?_; rintro e w' ⟨rfl, rfl⟩)
        go_ret
        rw [HR.out, F.out]
        exact ⟨rfl, rfl⟩
    · have F := hide' (ev_end dig s k (by omega) ha.out)
      go_wp2_with fail
      go_ret
      rw [HR.out, F.out]
      exact ⟨rfl, rfl⟩
theorem ba_ne (s : ByteArray) (l : List UInt8) (h : ¬ s.data.toList = l) : (s.toList == l) = false ∧ (s.toList == (⟨l.toArray⟩ : ByteArray).toList) = false := by
  rw [Lib.toList_data, Lib.toList_data]; exact ⟨by simpa using h, by simpa using h⟩
theorem ba_mk {s : ByteArray} {l : List UInt8} (h : s.data.toList = l) : s = ⟨l.toArray⟩ := by cases s; simp at h; simp [← h]
set_option maxHeartbeats 400000 in
theorem minorTok (s : ByteArray) (w : World) :
    Calls Tryz.prog 62 #[.string s] w fun e w' => e = .returned (.tuple #[.int .i64 (minOf s.data.toList).1, .int .i64 (minOf s.data.toList).2]) ∧ w' = w := by
  by_cases h0 : s.data.toList = V10
  · obtain rfl := ba_mk h0
    have R : Hid (minOf (⟨V10.toArray⟩ : ByteArray).data.toList = (0, 0)) := by unfold Hid; decide
    rw [R.out]
    unfold V10
    clear h0 R
    go_enter Tryz.func62, Tryz.ntmps62
    go_wp2
    go_ret2
    exact ⟨rfl, rfl⟩
  · have n0 := ba_ne s V10 h0
    unfold V10 at n0
    obtain ⟨n1, n2⟩ := n0
    by_cases h1 : s.data.toList = V11
    · obtain rfl := ba_mk h1
      have R : Hid (minOf (⟨V11.toArray⟩ : ByteArray).data.toList = (1, 0)) := by unfold Hid; decide
      rw [R.out]
      unfold V11
      clear h0 h1 R n1 n2
      go_enter Tryz.func62, Tryz.ntmps62
      go_wp2
      go_ret2
      exact ⟨rfl, rfl⟩
    · have n3 := ba_ne s V11 h1
      unfold V11 at n3
      obtain ⟨n3, n4⟩ := n3
      have R : Hid (minOf s.data.toList = (0, 52)) := by unfold Hid minOf; rw [if_neg h0, if_neg h1]
      rw [R.out]
      clear h0 h1 R
      go_enter Tryz.func62, Tryz.ntmps62
      go_wp2
      go_ret2
      exact ⟨rfl, rfl⟩
end Go.Proofs.YtenegcoapejbmaaGreatDoor
namespace Go.Proofs.YtenegcoapejbmaaGreatDoor
open Go.RowKit
theorem three_of (l : List UInt8) (h : l.length = 3) : ∃ a b c, l = [a, b, c] := by
  match l, h with
  | [a, b, c], _ => exact ⟨a, b, c, rfl⟩
theorem pre5 (l : List UInt8) (h : P5.isPrefixOf l = true) : l = P5 ++ l.drop 5 := by
  rw [List.isPrefixOf_iff_prefix] at h
  obtain ⟨t, rfl⟩ := h
  rfl
theorem isVer_three (l : List UInt8) (h : P5.isPrefixOf l = true) (a b c : UInt8) (e : l.drop 5 = [a, b, c]) : isVer l = (digI (a.toNat : Int) && (decide ((b.toNat : Int) = 46) && digI (c.toNat : Int))) := by
  have hl := pre5 l h
  rw [e] at hl
  subst hl
  have hb : decide (b = 46) = decide ((b.toNat : Int) = 46) := by
    by_cases h : b = 46
    · subst h; rfl
    · rw [decide_eq_false h, decide_eq_false]
      intro h2
      exact h (UInt8.toNat_inj.1 (by show b.toNat = 46; omega))
  show (true && (true && (dig a && (decide (b = 46) && dig c)))) = _
  rw [hb]; rfl
theorem isVer_long (l : List UInt8) (h : P5.isPrefixOf l = true) (e : ¬ (l.drop 5).length = 3) : isVer l = false := by
  have hl := congrArg List.length (pre5 l h)
  rw [List.length_append, show P5.length = 5 from rfl] at hl
  unfold isVer
  rw [decide_eq_false (by omega : ¬ l.length = 8)]
  simp
theorem isVer_not (l : List UInt8) (h : P5.isPrefixOf l = false) : isVer l = false := by unfold isVer; rw [h]; rfl
set_option maxRecDepth 20000 in
set_option maxHeartbeats 1000000 in
theorem isVersionTok (s : ByteArray) (w : World) :
    Calls Tryz.prog 60 #[.string s] w fun e w' => e = .returned (.bool (isVer s.data.toList)) ∧ w' = w := by
  have c := Any.strings_CutPrefix Tryz.lays103 s ⟨#[72, 84, 84, 80, 47]⟩ w
  rw [show (⟨#[72, 84, 84, 80, 47]⟩ : ByteArray).data.toList = P5 from rfl] at c
  unfold Lib.trimPrefix Lib.hasPrefix at c
  cases hp : P5.isPrefixOf s.data.toList with
  | false =>
    have R := hide' (isVer_not _ hp)
    rw [R.out]
    rw [hp, if_neg (by simp)] at c
    have C := hide' c
    clear c hp R
    go_enter Tryz.func60, Tryz.ntmps60
    go_wp2_with fail
    refine C.out.mono ?_
    rintro e w1 ⟨rfl, rfl⟩
    go_wp2_with fail
    go_ret
    exact ⟨rfl, rfl⟩
  | true =>
    rw [hp, if_pos rfl, show P5.length = 5 from rfl] at c
    have hdl : (s.data.toList.drop 5).length ≤ s.size := by rw [List.length_drop]; simp
    by_cases h3 : (s.data.toList.drop 5).length = 3
    · obtain ⟨x, y, z, e⟩ := three_of _ h3
      have R := hide' (isVer_three _ hp x y z e)
      rw [R.out]
      rw [e] at c
      have C := hide' c
      clear c hp R h3 e hdl
      have b0 := byte_lt x
      have b1 := byte_lt y
      have b2 := byte_lt z
      cases d0 : digI (x.toNat : Int) with
      | false =>
        have d0' : digI (((⟨#[x, y, z]⟩ : ByteArray)[0]'(by show 0 < 3; decide)).toNat : Int) = false := d0
        go_enter Tryz.func60, Tryz.ntmps60
        go_wp2_with fail
        refine C.out.mono ?_
        rintro e w1 ⟨rfl, rfl⟩
        go_wp2_with (go_at_call 61; refine (digTok _ (byte_lt _).1 (byte_lt _).2 _).mono ?_; rintro e w' ⟨rfl, rfl⟩)
        go_ret
        exact ⟨rfl, rfl⟩
      | true =>
        by_cases hy : (y.toNat : Int) = 46
        · rw [decide_eq_true hy, Bool.true_and, Bool.true_and]
          have hy2 : y = 46 := UInt8.toNat_inj.1 (by show y.toNat = 46; omega)
          subst hy2
          clear hy
          have d0' : digI (((⟨#[x, 46, z]⟩ : ByteArray)[0]'(by show 0 < 3; decide)).toNat : Int) = true := d0
          cases d2 : digI (z.toNat : Int) with
          | true =>
            have d2' : digI (((⟨#[x, 46, z]⟩ : ByteArray)[2]'(by show 2 < 3; decide)).toNat : Int) = true := d2
            go_enter Tryz.func60, Tryz.ntmps60
            go_wp2_with fail
            refine C.out.mono ?_
            rintro e w1 ⟨rfl, rfl⟩
            go_wp2_with (go_at_call 61; refine (digTok _ (byte_lt _).1 (byte_lt _).2 _).mono ?_; rintro e w' ⟨rfl, rfl⟩)
            go_ret
            exact ⟨rfl, rfl⟩
          | false =>
            have d2' : digI (((⟨#[x, 46, z]⟩ : ByteArray)[2]'(by show 2 < 3; decide)).toNat : Int) = false := d2
            go_enter Tryz.func60, Tryz.ntmps60
            go_wp2_with fail
            refine C.out.mono ?_
            rintro e w1 ⟨rfl, rfl⟩
            go_wp2_with (go_at_call 61; refine (digTok _ (byte_lt _).1 (byte_lt _).2 _).mono ?_; rintro e w' ⟨rfl, rfl⟩)
            go_ret
            exact ⟨rfl, rfl⟩
        · rw [decide_eq_false hy, Bool.false_and, Bool.and_false]
          have hy2 : ((y.toNat : Int) == 46) = false := by simpa using hy
          have hy3 : (y.toNat == 46) = false := by simp; omega
          have d0' : digI (((⟨#[x, y, z]⟩ : ByteArray)[0]'(by show 0 < 3; decide)).toNat : Int) = true := d0
          have y1 : (((((⟨#[x, y, z]⟩ : ByteArray)[1]'(by show 1 < 3; decide)).toNat : Int)) == 46) = false := hy2
          have y2 : ((((⟨#[x, y, z]⟩ : ByteArray)[1]'(by show 1 < 3; decide)).toNat) == 46) = false := hy3
          clear hy
          go_enter Tryz.func60, Tryz.ntmps60
          go_wp2_with fail
          refine C.out.mono ?_
          rintro e w1 ⟨rfl, rfl⟩
          go_wp2_with (go_at_call 61; refine (digTok _ (byte_lt _).1 (byte_lt _).2 _).mono ?_; rintro e w' ⟨rfl, rfl⟩)
          go_ret
          exact ⟨rfl, rfl⟩
    · have R := hide' (isVer_long _ hp h3)
      rw [R.out]
      generalize s.data.toList.drop 5 = t at c h3 hdl
      have hz : ((((⟨t.toArray⟩ : ByteArray).size : Nat) : Int) == 3) = false := by rw [size_l]; simp; omega
      have hz2 : (((t.length : Nat) : Int) == 3) = false := by simp; omega
      have C := hide' c
      clear c hp R h3
      go_enter Tryz.func60, Tryz.ntmps60
      go_wp2_with fail
      refine C.out.mono ?_
      rintro e w1 ⟨rfl, rfl⟩
      go_wp2_with fail
      go_ret
      exact ⟨rfl, rfl⟩
theorem from_run (ao : Option Addr) (n cap i : Nat) (hi : i ≤ n) (_hc : n ≤ cap) (w : World) : Sem.run Tryz.prog (Instr.slice 22 (.slice ao n cap) (some (.int .i64 i)) none none) w = .ok (Lib.fromV ao n cap i) w := by
  have he : Tryz.prog.elem 22 = 5 := by kernel_rfl
  have h := run_slice_l (P := Tryz.prog) w 22 ao n cap (by rw [he]; exact Tryz.underlying22) .i64 i (by omega) (by omega)
  rw [he, Tryz.sizeOf5] at h
  simp only [Result.andThen, Int.toNat_natCast, sliced] at h
  rw [h]
  unfold Lib.fromV
  by_cases hz : cap = i
  · simp [hz]
  · simp [hz]
theorem two_in (W : World) : Lib.BytesIn (W.alloc (.cells #[.int .u8 13, .int .u8 10] 5 (2, 3))) (some ⟨W.heap.size, 0, none⟩) 2 [13, 10] := fun _ => ⟨W.heap.size, 0, rfl, fun i hi => by
    match i, hi with
    | 0, _ => simp [World.cell?_alloc_mark]
    | 1, _ => simp [World.cell?_alloc_mark]⟩
end Go.Proofs.YtenegcoapejbmaaGreatDoor
namespace Go.Proofs.YtenegcoapejbmaaGreatDoor
open Go.RowKit
theorem mark4 (W : World) : Sem.run Tryz.prog (convert 22 22 (.slice (some ⟨W.heap.size, 0, none⟩) 4 4)) (W.alloc (.cells #[.int .u8 13, .int .u8 10, .int .u8 13, .int .u8 10] 5)) = .ok (.slice (some ⟨W.heap.size, 0, none⟩) 4 4) (W.alloc (.cells #[.int .u8 13, .int .u8 10, .int .u8 13, .int .u8 10] 5 (4, 5))) :=
  Lib.run_convert_bytes_const W 22 5 #[.int .u8 13, .int .u8 10, .int .u8 13, .int .u8 10] 4 4 Tryz.underlying22 Tryz.underlying5
theorem four_cells (W : World) : ∀ i, i < 4 → (W.alloc (.cells #[.int .u8 13, .int .u8 10, .int .u8 13, .int .u8 10] 5 (4, 5))).cell? ((⟨W.heap.size, 0, none⟩ : Addr).add i) = some (.int .u8 (([13, 10, 13, 10] : List Int).getD i 0)) := by
  intro i hi
  rw [Go.WideShapes.add_plain]
  match i, hi with
  | 0, _ => simp [World.cell?_alloc_mark]
  | 1, _ => simp [World.cell?_alloc_mark]
  | 2, _ => simp [World.cell?_alloc_mark]
  | 3, _ => simp [World.cell?_alloc_mark]
theorem indexB (ao : Option Addr) (cap : Nat) (bs : List UInt8) (W : World) (hv : HoldsB W (.slice ao bs.length cap) bs) (M : MaxV W) (hs : bs.length < 4294967281) :
    Calls Tryz.prog 57 #[.slice ao bs.length cap, .slice (some ⟨W.heap.size, 0, none⟩) 4 4] (W.alloc (.cells #[.int .u8 13, .int .u8 10, .int .u8 13, .int .u8 10] 5 (4, 5))) fun e w' => e = .returned (.int .i64 (Lib.index bs E4)) ∧ Below W.heap.size W w' := by
  have bA := below_alloc' W (.cells #[.int .u8 13, .int .u8 10, .int .u8 13, .int .u8 10] 5 (4, 5))
  obtain ⟨m, hm⟩ := maxV_below M bA
  have h1 := in_of_holdsB (holdsB_mono hv bA)
  obtain ⟨ao', cap', e, h0, hcp, _⟩ := hv
  simp only [Value.slice.injEq] at e
  obtain ⟨rfl, _, rfl⟩ := e
  cases ao with
  | none =>
    obtain rfl := h0 rfl
    have : bs = [] := List.eq_nil_of_length_eq_zero (by omega)
    subst this
    refine (Any.bytes_Index_nil Tryz.lays185 (some ⟨W.heap.size, 0, none⟩) 4 4 _ (by decide) (fun h => absurd h (by decide))).mono ?_
    rintro e w' ⟨rfl, rfl⟩
    exact ⟨rfl, bA⟩
  | some a =>
    refine (Any.bytes_Index_at Tryz.lays185 a ⟨W.heap.size, 0, none⟩ bs.length cap 4 4 (bs.map fun b => (b.toNat : Int)) [13, 10, 13, 10] m _ (by simp) rfl (byte_range bs) (by decide) ?_ (four_cells W) hcp hs (by decide) hm).mono ?_
    · intro i hi
      obtain ⟨b, off, e, hc⟩ := h1 (by omega)
      simp only [Option.some.injEq] at e
      subst e
      rw [Go.WideShapes.add_plain]
      exact hc i hi
    · rintro e w' ⟨rfl, q, rfl⟩
      rw [bytesOf_map', show Lib.bytesOf [13, 10, 13, 10] = E4 from rfl]
      exact ⟨rfl, bt' bA (below_drewN _ q)⟩
theorem cutp_at (b off n cap k : Nat) (e : Int) (m : Nat) (hm : e = m) (hk : k ≤ m) (he : m ≤ n) (hkn : k < n) (hc : n ≤ cap) (w : World) : Sem.run Tryz.prog (Instr.slice 22 (.slice (some ⟨b, off, none⟩) n cap) (some (.int .i64 k)) (some (.int .i64 e)) none) w = .ok (.slice (some ⟨b, off + k, none⟩) (m - k) (cap - k)) w := by
  subst hm
  have hel : Tryz.prog.elem 22 = 5 := by kernel_rfl
  have h := run_slice_lh (P := Tryz.prog) w 22 (some ⟨b, off, none⟩) n cap (by rw [hel]; exact Tryz.underlying22) .i64 .i64 k m (by omega) (by omega) (by omega)
  rw [hel, Tryz.sizeOf5] at h
  simp only [Result.andThen, Int.toNat_natCast, sliced] at h
  rw [h]
  have : ¬ cap = k := by omega
  simp [Addr.add, this]
set_option maxRecDepth 20000 in
set_option maxHeartbeats 1000000 in
theorem splitNone (v : Value) (bs : List UInt8) (p : Nat) (w : World) (hv : HoldsB w v bs) (M : MaxV w) (hp : p ≤ bs.length) (hs : bs.length < 4294967281) (h : (endOf bs p).1 = 0) :
    Calls Tryz.prog 47 #[v, .int .i64 (p : Int)] w fun e w' => e = .returned (.tuple #[.string ⟨#[]⟩, .slice none 0 0, .int .i64 0, .int .i64 (endOf bs p).2]) ∧ Below w.heap.size w w' := by
  have HV := hide' hv
  obtain ⟨ao, cap, rfl, h0, hcp, _⟩ := hv
  obtain ⟨n, hn⟩ : ∃ n, n = bs.length := ⟨_, rfl⟩
  have HS := holdsB_suf HV.out p hp
  obtain ⟨a2, c2, e2, _⟩ := HS
  have HS' := holdsB_suf HV.out p hp
  rw [e2] at HS'
  have sl := fun W => from_run ao bs.length cap p hp hcp W
  rw [e2] at sl
  have cI := indexB a2 c2 (bs.drop p) w HS' M (by rw [List.length_drop]; omega)
  have kc := mark4 w
  have hdl : (bs.drop p).length = n - p := by rw [List.length_drop, hn]
  rw [hdl] at sl cI
  rcases index_cases (bs.drop p) E4 with hi | ⟨i, hi⟩
  · have en := end_none bs p hi
    rw [hi] at cI
    have C := hide' cI
    rw [← hn] at hp hs hcp en sl ⊢
    clear cI h HV HS' e2 h0 hdl hn hi M
    by_cases hl : 8192 ≤ n
    · rw [if_pos hl] at en
      have t1 : decide ((n : Int) < 8192) = false := by simp; omega
      rw [en]
      clear en
      go_enter Tryz.func47, Tryz.ntmps47
      go_wp2_with fail
      refine C.out.mono ?_
      clear kc sl
      rintro e w1 ⟨rfl, b1⟩
      have B1 := hide' b1
      clear b1
      go_wp2_with fail
      exact bodyPost_ret (v := .tuple #[.string ⟨#[]⟩, .slice none 0 0, .int .i64 0, .int .i64 51]) (by simp [results, Tryz.results47, go_sem]) rfl ⟨rfl, B1.out⟩
    · rw [if_neg hl] at en
      have t1 : decide ((n : Int) < 8192) = true := by simp; omega
      rw [en]
      clear en
      go_enter Tryz.func47, Tryz.ntmps47
      go_wp2_with fail
      refine C.out.mono ?_
      clear kc sl
      rintro e w1 ⟨rfl, b1⟩
      have B1 := hide' b1
      clear b1
      go_wp2_with fail
      exact bodyPost_ret (v := .tuple #[.string ⟨#[]⟩, .slice none 0 0, .int .i64 0, .int .i64 0]) (by simp [results, Tryz.results47, go_sem]) rfl ⟨rfl, B1.out⟩
  · have en := end_some bs p i hi
    have hro := occ_len _ _ _ (by decide) (index_is _ _ _ hi).2.1
    rw [hdl, show E4.length = 4 from rfl] at hro
    rw [hi] at cI
    have C := hide' cI
    by_cases hl : 8192 < p + i + 4
    · rw [if_pos hl] at en
      rw [en, ← hn]
      rw [← hn] at hp hs hcp sl
      clear cI h HV HS' e2 h0 hdl hn hi M en
      have t2 : decide ((8192 : Int) < (p : Int) + (i : Int) + 4) = true := by simp; omega
      have t3 : (8192 : Int) < (p : Int) + (i : Int) + 4 := by omega
      go_enter Tryz.func47, Tryz.ntmps47
      go_wp2_with fail
      refine C.out.mono ?_
      clear kc sl
      rintro e w1 ⟨rfl, b1⟩
      have B1 := hide' b1
      clear b1
      go_wp2_with fail
      exact bodyPost_ret (v := .tuple #[.string ⟨#[]⟩, .slice none 0 0, .int .i64 0, .int .i64 51]) (by simp [results, Tryz.results47, go_sem]) rfl ⟨rfl, B1.out⟩
    · rw [en, if_neg hl] at h
      simp at h
set_option maxRecDepth 20000 in
set_option maxHeartbeats 1000000 in
theorem splitSome (v : Value) (bs : List UInt8) (p i : Nat) (w : World) (hv : HoldsB w v bs) (M : MaxV w) (hs : bs.length < 4294967281) (hi : Lib.index (bs.drop p) E4 = i) (hc : p + i + 4 ≤ 8192) (hl : p + i + 4 ≤ bs.length) :
    Calls Tryz.prog 47 #[v, .int .i64 (p : Int)] w fun e w' => ∃ bv, e = .returned (.tuple #[.string ⟨(lineH (headH bs p (p + i + 4))).toArray⟩, bv, .int .i64 ((p + i + 4 : Nat) : Int), .int .i64 0]) ∧ HoldsB w' bv (blkH (headH bs p (p + i + 4))) ∧ Below w.heap.size w w' := by
  have HV := hide' hv
  obtain ⟨ao, cap, rfl, h0, hcp, hcell⟩ := hv
  obtain ⟨b, off, rfl, hlt, _⟩ := hcell (fun e => by rw [e] at hl; simp at hl)
  clear hcell
  obtain ⟨n, hn⟩ : ∃ n, n = bs.length := ⟨_, rfl⟩
  have hp : p ≤ bs.length := by omega
  have e2 : Lib.fromV (some ⟨b, off, none⟩) bs.length cap p = .slice (some ⟨b, off + p, none⟩) (bs.length - p) (cap - p) := by
    unfold Lib.fromV
    rw [if_neg (by omega)]
    simp [Addr.add]
  have HS' := holdsB_suf HV.out p hp
  rw [e2] at HS'
  have sl := fun W => from_run (some ⟨b, off, none⟩) bs.length cap p hp hcp W
  rw [e2] at sl
  have hdl : (bs.drop p).length = n - p := by rw [List.length_drop, hn]
  rw [← List.length_drop] at HS'
  have cI := indexB (some ⟨b, off + p, none⟩) (cap - p) (bs.drop p) w HS' M (by rw [hdl]; omega)
  have kc := mark4 w
  rw [hi, hdl] at cI
  obtain ⟨j, hj, hji, hhl⟩ := headH_index bs p i hi hl
  have eh : headH bs p (p + i + 4) = (bs.drop p).take (i + 2) := by
    unfold headH
    rw [List.drop_take]
    congr 1
    omega
  have HH := holdsB_pre HS' (i + 2) (by rw [hdl]; omega)
  rw [← eh] at HH
  have EL : Hid (lineH (headH bs p (p + i + 4)) = (headH bs p (p + i + 4)).take j) := by unfold Hid lineH; rw [hj, Int.toNat_natCast]
  have EB : Hid (blkH (headH bs p (p + i + 4)) = (headH bs p (p + i + 4)).drop (j + 2)) := by unfold Hid blkH; rw [hj, Int.toNat_natCast]
  rw [EL.out, EB.out]
  obtain ⟨H, hH⟩ : ∃ H, H = headH bs p (p + i + 4) := ⟨_, rfl⟩
  rw [← hH] at HH hj hhl ⊢
  clear hH eh EL EB
  have s2 := fun W (e : Int) (he : e = ((p + i + 2 : Nat) : Int)) => cutp_at b off bs.length cap p e (p + i + 2) he (by omega) (by omega) (by omega) hcp W
  rw [show p + i + 2 - p = i + 2 by omega] at s2
  rw [← hhl] at HH
  have cC := fun W (hb : Below w.heap.size w W) => cutB (some ⟨b, off + p, none⟩) (cap - p) H W (holdsB_mono HH hb) (maxV_below M hb) (by rw [hhl]; omega)
  rw [show ([13, 10] : List UInt8) = E2 from rfl, hj, hhl] at cC
  unfold Lib.cutV at cC
  rw [if_pos (by omega), Int.toNat_natCast] at cC
  have HL := holdsB_pre HH j (by omega)
  have hjl : (H.take j).length = j := by rw [List.length_take]; omega
  have CV := fun W (hb : Below w.heap.size w W) => conv_holdsB W (some ⟨b, off + p, none⟩) (cap - p) (H.take j) (by rw [hjl]; exact holdsB_mono HL hb)
  rw [hjl] at CV
  have HB := holdsB_suf HH (j + 2) (by omega)
  rw [hhl] at HB
  obtain ⟨vb, hvb⟩ : ∃ vb, vb = Lib.fromV (some ⟨b, off + p, none⟩) (i + 2) (cap - p) (j + 2) := ⟨_, rfl⟩
  rw [← hvb] at cC HB
  have CI := hide' cI
  have CC := hide' cC
  have CVH := hide' CV
  have HBH := hide' HB
  have S2 := s2
  rw [← hn] at hl hs hp hcp sl S2 ⊢
  have t2 : decide ((8192 : Int) < (p : Int) + (i : Int) + 4) = false := by simp; omega
  have bp : p < 4294967281 := by omega
  have bi : i < 4294967281 := by omega
  have s3 := fun W => S2 W ((p : Int) + (i : Int) + 4 - 2) (by omega)
  have s4 := fun W => S2 W ((p : Int) + (i : Int) + 2) (by omega)
  have HC := hide' hc
  have HL2 := hide' hl
  clear cI cC CV HB s2 S2 HV HS' e2 h0 hn hi M HH hj hhl hjl HL hvb hdl hc hl hji
  generalize H.take j = ll at CVH ⊢
  generalize H.drop (j + 2) = bb at HBH ⊢
  go_enter Tryz.func47, Tryz.ntmps47
  go_wp2_with fail
  refine CI.out.mono ?_
  clear kc
  rintro e w1 ⟨rfl, b1⟩
  have B1 := hide' b1
  have kc2 := mark2 w1
  clear b1
  go_wp2_with fail
  refine (CC.out w1 B1.out).mono ?_
  clear kc2
  rintro e w2 ⟨rfl, b2⟩
  have B2 := hide' (bt' B1.out b2)
  have cv := CVH.out w2 B2.out
  clear b2
  go_wp2_with fail
  exact bodyPost_ret (v := .tuple #[.string ⟨ll.toArray⟩, vb, .int .i64 ((p : Int) + (i : Int) + 4), .int .i64 0]) (by simp [results, Tryz.results47, go_sem]) rfl ⟨vb, by simp, holdsB_mono HBH.out B2.out, B2.out⟩
end Go.Proofs.YtenegcoapejbmaaGreatDoor
namespace Go.Proofs.YtenegcoapejbmaaGreatDoor
open Go.RowKit
theorem cutBlank (s : ByteArray) (hs : s.size < 4294967281) (w : World) (M : MaxV w) :
    Calls Tryz.prog 59 #[.string s, .string ⟨#[32]⟩] w fun e w' => e = .returned (.tuple #[.string ⟨(word s.data.toList).toArray⟩, .string ⟨(past s.data.toList).toArray⟩, .bool (! s.data.toList.all noBl)]) ∧ Below w.heap.size w w' := by
  obtain ⟨m, hm⟩ := M
  refine (Any.strings_Cut Tryz.lays145 s ⟨#[32]⟩ m w hs hm).mono ?_
  rintro e w' ⟨rfl, n, rfl⟩
  refine ⟨?_, below_drewN w n⟩
  rw [show (⟨#[32]⟩ : ByteArray).data.toList = [32] from rfl, cut_blank]
/-- a request as the model holds it, its fields being lv -/
def rqV (r : Rq) (lv : Value) : Value := .agg #[.string ⟨r.m.toArray⟩, .string ⟨r.t.toArray⟩, .int .i64 r.k, lv]
def lineQV (q : Rq × Int) : Value := .tuple #[rqV q.1 (.slice none 0 0), .int .i64 q.2]
theorem lineQ_tok (l : List UInt8) (h : isTok (word l) = false) : lineQ l = (Rq.zero, 50) := by unfold lineQ; rw [h]; rfl
theorem lineQ_tgt (l : List UInt8) (h : goodT (word (past l)) = false) : lineQ l = (Rq.zero, 50) := by unfold lineQ; rw [h, Bool.false_and, Bool.and_false]; rfl
theorem lineQ_ver (l : List UInt8) (h : isVer (past (past l)) = false) : lineQ l = (Rq.zero, 50) := by unfold lineQ; rw [h, Bool.and_false, Bool.and_false]; rfl
theorem lineQ_all (l : List UInt8) (h1 : isTok (word l) = true) (h2 : goodT (word (past l)) = true) (h3 : isVer (past (past l)) = true) : lineQ l = if (minOf (past (past l))).2 = 0 then (⟨word l, word (past l), (minOf (past (past l))).1, []⟩, 0) else (Rq.zero, 52) := by unfold lineQ; rw [h1, h2, h3]; rfl
end Go.Proofs.YtenegcoapejbmaaGreatDoor
