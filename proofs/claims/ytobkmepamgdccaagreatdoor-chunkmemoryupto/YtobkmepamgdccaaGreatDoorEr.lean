/- The library's two errors of numbers, as the row lists them; lower. -/
import Derived.Test.YtobkmepamgdccaaGreatDoorBa
import Derived.Test.YtobkmepamgdccaaGreatDoorRows
import Derived.Lib.ConvBytes
import Derived.Stop.LaidErr
import Derived.MakeChecks
namespace Go.Proofs.YtobkmepamgdccaaGreatDoor
open Go.RowKit
theorem lowC (c : Int) (w : World) : Calls Tryz.prog 83 #[.int .u8 c] w fun e w' => e = .returned (.int .u8 (bits .or .u8 c 32)) ∧ w' = w := by
  go_enter Tryz.func83, Tryz.ntmps83
  go_wp2
  go_ret
  exact ⟨rfl, rfl⟩
/-- the library's two errors are errors -/
def Er (w : World) : Prop := (∃ tp p, w.cell? ⟨2, 0, none⟩ = some (.iface tp p)) ∧ (∃ tp p, w.cell? ⟨3, 0, none⟩ = some (.iface tp p))
theorem er_lt {w : World} {g : Nat} {v : Value} (h : w.cell? ⟨g, 0, none⟩ = some v) : g < w.heap.size := by
  rcases Nat.lt_or_ge g w.heap.size with h1 | h1
  · exact h1
  · unfold World.cell? at h
    rw [Array.getElem?_eq_none h1] at h
    simp at h
theorem er_below {w w' : World} (h : Er w) (hb : Below w.heap.size w w') : Er w' := by
  obtain ⟨⟨t1, p1, h1⟩, t2, p2, h2⟩ := h
  exact ⟨⟨t1, p1, by rw [hb.cell (p := ⟨2, 0, none⟩) (er_lt h1)]; exact h1⟩, t2, p2, by rw [hb.cell (p := ⟨3, 0, none⟩) (er_lt h2)]; exact h2⟩
end Go.Proofs.YtobkmepamgdccaaGreatDoor
