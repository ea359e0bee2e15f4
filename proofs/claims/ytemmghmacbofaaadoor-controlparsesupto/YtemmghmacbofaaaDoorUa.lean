/- The contract of tok.Unquote: it returns what unqS says. -/
import Derived.Test.YtemmghmacbofaaaDoorTxt
import Derived.Test.YtemmghmacbofaaaDoorUnq
namespace Go.Proofs.YtemmghmacbofaaaDoor
open Go.RowKit
/-- the loop of tok.Unquote: i is the next byte's place -/
def RelT (s : ByteArray) (i : Nat) (o : List UInt8) : Prop := 1 ≤ i ∧ i + 1 ≤ s.size ∧ RelU (inner s) (i - 1) o
theorem relT_start (s : ByteArray) (h : 2 ≤ s.size) : RelT s 1 [] := ⟨Nat.le_refl _, h, relU_start _⟩
theorem relT_len {s : ByteArray} {i : Nat} {o : List UInt8} (h : RelT s i o) : o.length ≤ i := by have := h.2.2.2.1; omega
section
variable {s : ByteArray} {i : Nat} {o : List UInt8}
theorem relT_at (h1 : 1 ≤ i) (hs : i + 1 < s.size) : ∃ hk : i - 1 < (inner s).length, (inner s)[i - 1] = s[i] := by
  have hl := inner_len s (by omega)
  refine ⟨by omega, ?_⟩
  rw [inner_at s (by omega) (i - 1) (by omega)]
  congr 1; omega
theorem relT_plain (h : RelT s i o) (hs : i + 1 < s.size) (h1 : ¬ (s[i].toNat : Int) = 92) (h2 : ¬ (s[i].toNat : Int) = 34) (h3 : txtI (s[i].toNat : Int) = true) : RelT s (i + 1) (o ++ [s[i]]) := by
  obtain ⟨a, b, c⟩ := h
  obtain ⟨hk, e⟩ := relT_at a hs
  rw [← e] at h1 h2 h3 ⊢
  have := relU_plain c hk h1 h2 h3
  exact ⟨by omega, by omega, by rw [show i + 1 - 1 = i - 1 + 1 by omega]; exact this⟩
theorem relT_esc (h : RelT s i o) (hs : i + 2 < s.size) (h1 : (s[i].toNat : Int) = 92) (h3 : txtI (s[i + 1].toNat : Int) = true) : RelT s (i + 2) (o ++ [s[i + 1]]) := by
  obtain ⟨a, b, c⟩ := h
  obtain ⟨hk, e⟩ := relT_at a (by omega : i + 1 < s.size)
  obtain ⟨hk2, e2⟩ := relT_at (s := s) (i := i + 1) (by omega) hs
  have e3 : (inner s)[i - 1 + 1]'(by omega) = s[i + 1] := by rw [← e2]; congr 1; omega
  rw [← e] at h1
  rw [← e3] at h3 ⊢
  have := relU_esc c (by omega) h1 h3
  exact ⟨by omega, by omega, by rw [show i + 2 - 1 = i - 1 + 2 by omega]; exact this⟩
theorem relT_quote (h : RelT s i o) (hs : i + 1 < s.size) (h2 : (s[i].toNat : Int) = 34) : unqR (inner s) = ([], 11) := by
  obtain ⟨a, b, c⟩ := h
  obtain ⟨hk, e⟩ := relT_at a hs
  rw [← e] at h2
  exact unqR_none (relU_quote c hk h2)
theorem relT_bad (h : RelT s i o) (hs : i + 1 < s.size) (h1 : ¬ (s[i].toNat : Int) = 92) (h2 : ¬ (s[i].toNat : Int) = 34) (h3 : txtI (s[i].toNat : Int) = false) : unqR (inner s) = ([], 11) := by
  obtain ⟨a, b, c⟩ := h
  obtain ⟨hk, e⟩ := relT_at a hs
  rw [← e] at h1 h2 h3
  exact unqR_none (relU_bad c hk h1 h2 h3)
theorem relT_end (h : RelT s i o) (hs : i + 2 = s.size) (h1 : (s[i].toNat : Int) = 92) : unqR (inner s) = ([], 11) := by
  obtain ⟨a, b, c⟩ := h
  have hl := inner_len s (by omega)
  obtain ⟨hk, e⟩ := relT_at a (by omega : i + 1 < s.size)
  rw [← e] at h1
  exact unqR_none (relU_end c (by omega) h1)
theorem relT_escbad (h : RelT s i o) (hs : i + 2 < s.size) (h1 : (s[i].toNat : Int) = 92) (h3 : txtI (s[i + 1].toNat : Int) = false) : unqR (inner s) = ([], 11) := by
  obtain ⟨a, b, c⟩ := h
  obtain ⟨hk, e⟩ := relT_at a (by omega : i + 1 < s.size)
  obtain ⟨hk2, e2⟩ := relT_at (s := s) (i := i + 1) (by omega) hs
  have e3 : (inner s)[i - 1 + 1]'(by omega) = s[i + 1] := by rw [← e2]; congr 1; omega
  rw [← e] at h1
  rw [← e3] at h3
  exact unqR_none (relU_escbad c (by omega) h1 h3)
theorem relT_done (h : RelT s i o) (hs : i + 1 = s.size) : unqR (inner s) = (o, 0) := by
  obtain ⟨a, b, c⟩ := h
  have hl := inner_len s (by omega)
  exact unqR_some (relU_done c (by omega))
end
theorem unqS_not {s : ByteArray} (h : framed s = false) : unqS s = ([], 11) := by unfold unqS; rw [h]; rfl
theorem unqS_is {s : ByteArray} (h : framed s = true) : unqS s = unqR (inner s) := by unfold unqS; rw [h]; rfl
theorem framed_short {s : ByteArray} (h : s.size < 2) : framed s = false := by unfold framed; rw [dif_neg (by omega)]
theorem framed_long {s : ByteArray} (h : 2 ≤ s.size) : framed s = decide ((s[0].toNat : Int) = 34 ∧ (s[s.size - 1].toNat : Int) = 34) := by unfold framed; rw [dif_pos h]
end Go.Proofs.YtemmghmacbofaaaDoor
