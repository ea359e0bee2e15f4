/- How much a list that came in holds; where its cells lie. -/
import Derived.Test.YtikokjclhpgocaaGen
import Derived.Deep.SlicePairs
import Derived.SliceStrings
import Derived.SizedLaws
import Derived.ChangeOld
import Derived.OpenShut
import Derived.ChangeSlices
namespace Go.Proofs.Ytikokjclhpgocaa
open Go.ChangeShapes Go.WideShapes Go.ChangeAt Go.RowKit
/-- how many letters and values fields hold -/
def bulkF : FL → Nat
  | [] => 0
  | f :: r => f.1.length + f.2.length + 3 + bulkF r
def bulkT : List (List UInt8) → Nat
  | [] => 0
  | f :: r => f.length + 1 + bulkT r
theorem bulkF_len (fs : FL) : fs.length ≤ bulkF fs := by
  induction fs with
  | nil => simp [bulkF]
  | cons f r ih => simp only [bulkF, List.length_cons]; omega
theorem bulkF_mem (fs : FL) : ∀ f ∈ fs, f.1.length + f.2.length ≤ bulkF fs := by
  induction fs with
  | nil => intro f hf; cases hf
  | cons g r ih =>
    intro f hf
    simp only [bulkF]
    rcases List.mem_cons.1 hf with rfl | hf
    · omega
    · have := ih f hf; omega
theorem bulkT_len (l : List (List UInt8)) : l.length ≤ bulkT l := by
  induction l with
  | nil => simp [bulkT]
  | cons f r ih => simp only [bulkT, List.length_cons]; omega
theorem bulkT_mem (l : List (List UInt8)) : ∀ f ∈ l, f.length ≤ bulkT l := by
  induction l with
  | nil => intro f hf; cases hf
  | cons g r ih =>
    intro f hf
    simp only [bulkT]
    rcases List.mem_cons.1 hf with rfl | hf
    · omega
    · have := ih f hf; omega
theorem weight_all {H : Type} {P : Program} {e : TypeId} {d : DataW H} {n : Nat} (hn : n ∈ d.weights P e) : ∀ {l : List (DataW H)}, d ∈ l → n ∈ DataW.weightsAll P e l
  | [], h => by cases h
  | x :: r, h => by
    simp only [DataW.weightsAll, List.mem_append]
    rcases List.mem_cons.1 h with rfl | h
    · exact Or.inl hn
    · exact Or.inr (weight_all hn h)
theorem addr_at {W : World} {a : Addr} {u : Value} (h : W.cell? (a.add 0) = some u) : ∃ b off, a = ⟨b, off, none⟩ ∧ b < W.heap.size := by
  obtain ⟨b, off, spot⟩ := a
  have hspot : spot = none := by simpa [Addr.add] using World.cell?_spot h
  subst hspot
  refine ⟨b, off, rfl, ?_⟩
  rcases Nat.lt_or_ge b W.heap.size with hlt | hge
  · exact hlt
  · rw [Go.WideShapes.add_plain] at h
    unfold World.cell? at h
    rw [Array.getElem?_eq_none hge] at h
    cases h
theorem laidOut : laidOutB Try.prog = true := by kernel_rfl
theorem bulk_lits {H : Type} (l : List Int) : Rows.uptoBulkAll (H := H) (lits .u8 l) = l.length := by
  induction l with
  | nil => rfl
  | cons f r ih =>
    show Rows.uptoBulk (.lit (.int .u8 f)) + Rows.uptoBulkAll (lits .u8 r) = _
    rw [ih]
    simp only [Rows.uptoBulk, List.length_cons]
    omega
theorem byte_wf {n : Int} (h : (Lit.int .u8 n).wf = true) : 0 ≤ n ∧ n < 256 := by
  have h1 : IntKind.u8.min = 0 := rfl
  have h2 : IntKind.u8.max = 255 := rfl
  simp only [Lit.wf, Bool.and_eq_true, decide_eq_true_eq] at h
  omega
end Go.Proofs.Ytikokjclhpgocaa
