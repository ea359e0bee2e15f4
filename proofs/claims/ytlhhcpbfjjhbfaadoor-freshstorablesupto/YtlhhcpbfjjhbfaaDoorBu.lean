/- The contracts of the document's Age and Lifetime. The contract of the document's Lifetime. -/
import Derived.Test.YtlhhcpbfjjhbfaaDoorBt
import Derived.Test.YtlhhcpbfjjhbfaaDoorFhD
namespace Go.Proofs.YtlhhcpbfjjhbfaaDoor
open Go.RowKit
theorem cut_since (x y : Int) (h1 : 0 ≤ x ∧ x ≤ 253402300799) (h2 : 0 ≤ y ∧ y ≤ 253402300799) : cN (y - x) 253402300799 = sN x y := by unfold cN sN; omega
theorem cut_age (x : Int) (h : x ≤ 2147483648) : cN x 253402300799 = max x 0 := by unfold cN; omega
theorem cells_int (W : World) (l : List Int) (t : TypeId) : ∀ j (h : j < l.length), (W.alloc (.cells (l.map fun z => Value.int .i64 z).toArray t)).cell? ⟨W.heap.size, j, none⟩ = some (.int .i64 l[j]) := by
  intro j h
  simp
theorem amongL (s : Int) (l : List Int) (n : Nat) (hn : n = l.length) (hl : n ≤ 1000) (W : World) :
    Calls Tryd.prog 28 #[.int .i64 s, .slice (some ⟨W.heap.size, 0, none⟩) n n] (W.alloc (.cells (l.map fun z => Value.int .i64 z).toArray 3)) fun e w' => e = .returned (.bool (decide (s ∈ l))) ∧ w' = (W.alloc (.cells (l.map fun z => Value.int .i64 z).toArray 3)) :=
  amongRC s l W.heap.size n _ hn hl (cells_int W l 3)
theorem neg_mem (s : Int) : decide (s ∈ ([404, 405, 410, 414, 501] : List Int)) = negS s := by
  unfold negS
  simp
theorem ePo_drew {w W : World} {K V R : ByteArray} {s k a g : Int} {ao ba : Option Addr} {n m ca bc : Nat} {p0 p1 p2 p3 : Int} (h : EPo w W K V R s k a g ao ba n m ca bc p0 p1 p2 p3) : EPo w W.drew K V R s k a g ao ba n m ca bc p0 p1 p2 p3 := ePo_below h (Below.refl _ _).drew
theorem ePo_ten {w W : World} {q : Nat} {K V R : ByteArray} {s k a g : Int} {ao ba : Option Addr} {n m ca bc : Nat} {p0 p1 p2 p3 : Int} (hq : q = w.heap.size) (h : EPo w W K V R s k a g ao ba n m ca bc p0 p1 p2 p3) : W.cell? ⟨q, 0, none⟩ = some (.string K) ∧ W.cell? ⟨q, 1, none⟩ = some (.string V) ∧ W.cell? ⟨q, 2, none⟩ = some (.int .i64 s) ∧ W.cell? ⟨q, 3, none⟩ = some (.string R) ∧ W.cell? ⟨q, 4, none⟩ = some (.int .i64 k) ∧ W.cell? ⟨q, 5, none⟩ = some (.slice ao n ca) ∧ W.cell? ⟨q, 6, none⟩ = some (.slice ba m bc) ∧ W.cell? ⟨q, 7, none⟩ = some (.int .i64 a) ∧ W.cell? ⟨q, 8, none⟩ = some (.int .i64 g) ∧ W.cell? ⟨q + 1, 1, none⟩ = some (.int .i64 p1) := by
  subst hq
  obtain ⟨-, h0, h1, h2, h3, h4, h5, h6, h7, h8⟩ := enC_open h.2.1
  exact ⟨h0, h1, h2, h3, h4, h5, h6, h7, h8, (poC_open h.2.2).2.2.1⟩
theorem ctlRT (v : Value) (fs : FL) (b0 b1 b2 b3 b4 b5 : Bool) (n6 n7 n8 n9 : Int) (T : Told fs b0 b1 b2 b3 b4 b5 n6 n7 n8 n9) (w : World) (hv : HoldsF w v fs) (hb : bulkF fs ≤ 1048576) :
    Calls Tryd.prog 26 #[v] w fun e w' => e = .returned (.agg #[.bool b0, .bool b1, .bool b2, .bool b3, .bool b4, .bool b5, .int .i64 n6, .int .i64 n7, .int .i64 n8, .int .i64 n9]) ∧ Below w.heap.size w w' := by
  have h := ctlR v fs w hv hb
  rw [T.eq] at h
  exact h
end Go.Proofs.YtlhhcpbfjjhbfaaDoor
namespace Go.Proofs.YtlhhcpbfjjhbfaaDoor
open Go.RowKit
end Go.Proofs.YtlhhcpbfjjhbfaaDoor
