/- What a row lists of the library's two errors is what the road of number reads. -/
import Derived.Test.YtobkmepamgdccaaGreatDoorEr
import Derived.Stop.LaidErr
import Derived.MakeChecks
namespace Go.Proofs.YtobkmepamgdccaaGreatDoor
open Go.RowKit
theorem laid_drop {P : Program} {W : World} : ∀ (k : Nat) {l : List (String × DataW Unit)}, laidMet P l W → laidMet P (l.drop k) W := by
  intro k
  induction k with
  | zero => intro l h; simpa using h
  | succ k ih =>
    intro l h
    cases l with
    | nil => simpa using h
    | cons x r => rw [List.drop_succ_cons]; exact ih h.tail
theorem star_eq : "*" ++ "errors.errorString" = "*errors.errorString" := by decide
theorem star_row (u : TypeId) (h : Tryz.prog.typeName? 3 u = some "*errors.errorString") : u = 133 :=
  typeName_ptr_named (nm := "errors.errorString") (by rw [star_eq]; kernel_rfl) (by kernel_rfl) (by decide) u (by rw [star_eq]; exact h)
theorem sent_of {W : World} {l r : List (String × DataW Unit)} (h : laidMet Tryz.prog l W) {n : String} {g : Nat} {text : List UInt8} (k : Nat) (e : l.drop k = (n, .iface "*errors.errorString" (.ptr (.agg [.lit (.string text)]))) :: r)
    (hg : Tryz.prog.globalNamed n = some g) (ht : (Tryz.prog.globals[g]?).map (·.type) = some 76) : ∃ tp p, W.cell? ⟨g, 0, none⟩ = some (.iface tp p) := by
  have h' := laid_drop k h
  rw [e] at h'
  obtain ⟨a, s, hv, _⟩ := laid_sentinel h' hg ht Tryz.underlying76 star_row Tryz.underlying133 Tryz.underlying135 rfl rfl Tryz.underlying9 (by kernel_rfl) (by kernel_rfl)
  exact ⟨_, _, by simpa using World.var?_cell hg hv 0⟩
end Go.Proofs.YtobkmepamgdccaaGreatDoor
