/- The contracts of trimmed, Clone, Trim and of the document's Trim. -/
import Derived.Test.YtikokjclhpgocaaPlain
import Derived.Test.YtikokjclhpgocaaRows
import Derived.Test.YtikokjclhpgocaaShelf
import Derived.Test.YtikokjclhpgocaaCln
import Derived.Laws.DeepStrings4
namespace Go.Proofs.Ytikokjclhpgocaa
open Go.RowKit
def trimT (l : List UInt8) : List UInt8 := Lib.trimS l [32, 9]
def blankI (c : Int) : Bool := decide (c = 32 ∨ c = 9)
theorem blank_is (c : UInt8) : ([32, 9] : List UInt8).contains c = blankI (c.toNat : Int) := by
  have : ∀ n : Nat, n < 256 → ([32, 9] : List UInt8).contains (UInt8.ofNat n) = blankI ((UInt8.ofNat n).toNat : Int) := by decide +kernel
  have h := this c.toNat c.toNat_lt
  rwa [UInt8.ofNat_toNat] at h
theorem dropWhile_len (p : UInt8 → Bool) (l : List UInt8) : (l.dropWhile p).length ≤ l.length := (List.dropWhile_sublist p).length_le
theorem trimT_len (l : List UInt8) : (trimT l).length ≤ l.length := by
  unfold trimT Lib.trimS Lib.trimLeftS Lib.trimRightS
  have h1 := dropWhile_len (fun x => ([32, 9] : List UInt8).contains x) l.reverse
  have h2 := dropWhile_len (fun x => ([32, 9] : List UInt8).contains x) (List.dropWhile (fun x => ([32, 9] : List UInt8).contains x) l.reverse).reverse
  rw [List.length_reverse] at h1 h2
  exact Nat.le_trans h2 h1
def left (s : ByteArray) (f : Nat) : Prop := ∀ j (hj : j < s.size), j < f → blankI (s[j].toNat : Int) = true
def right (s : ByteArray) (t : Nat) : Prop := ∀ j (hj : j < s.size), t ≤ j → blankI (s[j].toNat : Int) = true
theorem get_list (s : ByteArray) (j : Nat) (b : UInt8) (h : s.data.toList[j]? = some b) : ∃ hj : j < s.size, s[j] = b := by
  obtain ⟨hj, e⟩ := List.getElem?_eq_some_iff.1 h
  exact ⟨by simpa using hj, e⟩
theorem trim_is (s : ByteArray) (f t : Nat) (hft : f ≤ t) (ht : t ≤ s.size) (hl : left s f) (hf : ∀ h : f < s.size, blankI (s[f].toNat : Int) = false) (hr : right s t) (hn : ∀ (_ : f < t) (h : t - 1 < s.size), blankI (s[t - 1].toNat : Int) = false) : trimT s.data.toList = (s.data.toList.drop f).take (t - f) := by
  have hlen : s.data.toList.length = s.size := by simp
  unfold trimT Lib.trimS
  by_cases e : f = s.size
  · have h0 : Lib.trimRightS s.data.toList [32, 9] = s.data.toList.take 0 := by
      refine Lib.trimRightS_take _ _ 0 (Nat.zero_le _) (fun j b _ hb => ?_) (fun b h _ => absurd h (Nat.lt_irrefl _))
      obtain ⟨hj, rfl⟩ := get_list s j b hb
      rw [blank_is]; exact hl j hj (by omega)
    rw [h0, List.take_zero, Lib.trimLeftS_nil, List.drop_of_length_le (by omega), List.take_nil]
  · have hlt : f < s.size := by omega
    have hne : f < t := by
      rcases Nat.lt_or_ge f t with h | h
      · exact h
      · have := hr f hlt h; rw [hf hlt] at this; exact absurd this (by decide)
    have h0 : Lib.trimRightS s.data.toList [32, 9] = s.data.toList.take t := by
      refine Lib.trimRightS_take _ _ t (by omega) (fun j b hj hb => ?_) (fun b _ hb => ?_)
      · obtain ⟨hj', rfl⟩ := get_list s j b hb
        rw [blank_is]; exact hr j hj' hj
      · obtain ⟨hj', rfl⟩ := get_list s _ b hb
        rw [blank_is]; exact hn hne hj'
    have h1 : Lib.trimLeftS (s.data.toList.take t) [32, 9] = (s.data.toList.take t).drop f := by
      refine Lib.trimLeftS_drop _ _ f (by rw [List.length_take]; omega) (fun j b hj hb => ?_) (fun b hb => ?_)
      · rw [List.getElem?_take_of_lt (by omega)] at hb
        obtain ⟨hj', rfl⟩ := get_list s j b hb
        rw [blank_is]; exact hl j hj' hj
      · rw [List.getElem?_take_of_lt hne] at hb
        obtain ⟨hj', rfl⟩ := get_list s f b hb
        rw [blank_is]; exact hf hlt
    rw [h0, h1, List.drop_take]
end Go.Proofs.Ytikokjclhpgocaa
