/- The contracts of Trim and of the document's Trim. -/
import Derived.Test.YtikokjclhpgocaaTrim
namespace Go.Proofs.Ytikokjclhpgocaa
open Go.RowKit
set_option maxRecDepth 20000
theorem size_trimT (s : ByteArray) : (⟨(trimT s.data.toList).toArray⟩ : ByteArray).size ≤ s.size := by
  have := trimT_len s.data.toList
  have e : s.data.toList.length = s.size := by simp
  rw [e] at this
  show (trimT s.data.toList).toArray.size ≤ s.size
  rw [List.size_toArray]
  exact this
theorem cut_is (s : ByteArray) (f t : Nat) (hft : f ≤ t) (ht : t ≤ s.size) (w : World) :
    Sem.run Try.prog (Instr.slice 9 (.string s) (some (.int .i64 f)) (some (.int .i64 t)) none) w = .ok (.string ⟨((s.data.toList.drop f).take (t - f)).toArray⟩) w := by
  rw [run_slice_string (h := Try.underlying9)]
  · congr 2
    have : (s.extract f t).data.toList = (s.data.toList.drop f).take (t - f) := by simp [ByteArray.data_extract, List.extract_eq_take_drop]
    simp only [Int.toNat_natCast]
    rw [← this]
  · omega
  · omega
  · omega
end Go.Proofs.Ytikokjclhpgocaa
