/- What a table's functions lean on: an empty map, a made row of texts. -/
import Derived.Test.YtikkmnclcbanfaaLrM
import Derived.OwnWalk
namespace Go.Proofs.Ytikkmnclcbanfaa
open Go.RowKit Go.Maps Go.WideMaps
theorem tbn_empty {W : World} {m : Nat} (h : W.heap[m]? = some (.map #[] 0)) : Tbn W m [] := by
  obtain ⟨es, clock, hh, F, hn, hD⟩ := World.ownsMap_made (H := Unit) W Try.prog 9 pel
  rw [heap_alloc_new] at hh
  cases hh
  exact ⟨#[], 0, h, F, hn, hD⟩
theorem makeT (w : World) (n : Nat) (hn : n ≤ 1000000) : (Instr.makeSlice 36 (.int .i64 0) (.int .i64 (n : Int))).run Try.prog w = .ok (.slice (some ⟨w.heap.size, 0, none⟩) 0 n) (w.alloc (.cells (madeCells #[.string ⟨#[]⟩] n) 9)) := by
  obtain ⟨i0, hi, hz0, hz1, hz2⟩ := info_parts Try.info9
  have h := run_make (P := Try.prog) w 36 9 i0 (.string ⟨#[]⟩) Try.underlying36 hi hz0 .i64 .i64 0 n (by omega) (by omega) (by rw [hz2]; omega) (by omega)
  rw [hz1] at h
  rw [show (Value.string ⟨#[]⟩).cells = #[Value.string ⟨#[]⟩] from rfl] at h
  simpa using h
theorem own_madeT (w : World) (n : Nat) (hn : n ≤ 1000000) : OwnS w (.slice (some ⟨w.heap.size, 0, none⟩) 0 n) [] (w.alloc (.cells (madeCells #[.string ⟨#[]⟩] n) 9)) :=
  ⟨World.ownsRow_made w _ n (Nat.le_refl _) (by unfold maxLen; omega) (by rw [size_madeCells]; omega), (Below.refl _ _).alloc (Nat.le_refl _) _⟩
end Go.Proofs.Ytikkmnclcbanfaa
