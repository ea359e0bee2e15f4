/- The contracts of pieces and of the document's Pieces. -/
import Derived.Test.YtikokjclhpgocaaPcs
import Derived.Test.YtikokjclhpgocaaOwnS
import Derived.Test.YtikokjclhpgocaaTrimR
namespace Go.Proofs.Ytikokjclhpgocaa
open Go.RowKit
set_option maxRecDepth 20000
theorem list_get (s : ByteArray) (i : Nat) (h : i < s.size) : ∃ hk : i < s.data.toList.length, s.data.toList[i] = s[i] := ⟨by simpa using h, rfl⟩
theorem len_list (s : ByteArray) : s.data.toList.length = s.size := by simp
theorem seg_size (s : ByteArray) (i f : Nat) : (⟨((s.data.toList.drop f).take (i - f)).toArray⟩ : ByteArray).size ≤ s.size := by
  show ((s.data.toList.drop f).take (i - f)).toArray.size ≤ s.size
  rw [List.size_toArray, ← len_list s]; exact seg_len _ _ _
theorem cut_from (s : ByteArray) (f : Nat) (hf : f ≤ s.size) (w : World) :
    Sem.run Try.prog (Instr.slice 9 (.string s) (some (.int .i64 f)) none none) w = .ok (.string ⟨(s.data.toList.drop f).toArray⟩) w := by
  rw [run_slice_string_from_if w 9 s .i64 f Try.underlying9, if_pos ⟨by omega, by omega⟩]
  congr 2
  have : (s.extract f s.size).data.toList = s.data.toList.drop f := by
    have h : s.size = s.data.toList.length := by simp
    simp [ByteArray.data_extract, List.extract_eq_take_drop]
    exact List.take_of_length_le (by simp)
  simp only [Int.toNat_natCast]
  rw [← this]
section
variable {c : Int} {s : ByteArray} {i f : Nat} {q : Bool} {out : List (List UInt8)}
theorem relB_quote (h : RelP c s.data.toList i f q out) (hi : i < s.size) (h34 : (s[i].toNat : Int) = 34) : RelP c s.data.toList (i + 1) f (!q) out := by
  obtain ⟨hk, e⟩ := list_get s i hi
  exact relP_quote h hk (by rw [e]; exact h34)
theorem relB_esc (h : RelP c s.data.toList i f true out) (hi : i < s.size) (h92 : (s[i].toNat : Int) = 92) : RelP c s.data.toList (i + 2) f true out := by
  obtain ⟨hk, e⟩ := list_get s i hi
  exact relP_esc h hk (by rw [e]; exact h92)
theorem relB_cut (h : RelP c s.data.toList i f false out) (hi : i < s.size) (h34 : ¬ (s[i].toNat : Int) = 34) (hc : (s[i].toNat : Int) = c) : RelP c s.data.toList (i + 1) (i + 1) false (out ++ [(s.data.toList.drop f).take (i - f)]) := by
  obtain ⟨hk, e⟩ := list_get s i hi
  exact relP_cut h hk (by rw [e]; exact h34) (by rw [e]; exact hc)
theorem relB_plain (h : RelP c s.data.toList i f q out) (hi : i < s.size) (h34 : ¬ (s[i].toNat : Int) = 34) (h92 : ¬ (q = true ∧ (s[i].toNat : Int) = 92)) (hc : ¬ (q = false ∧ (s[i].toNat : Int) = c)) : RelP c s.data.toList (i + 1) f q out := by
  obtain ⟨hk, e⟩ := list_get s i hi
  exact relP_plain h hk (by rw [e]; exact h34) (by rw [e]; exact h92) (by rw [e]; exact hc)
end
end Go.Proofs.Ytikokjclhpgocaa
