/- The contract of the document's Storable. -/
import Derived.Test.YtlhhcpbfjjhbfaaDoorFhS
import Derived.Test.YtlhhcpbfjjhbfaaDoorBu
namespace Go.Proofs.YtlhhcpbfjjhbfaaDoor
open Go.RowKit
def S4 (w : World) (z1 z2 : Nat) (W : World) (mt : List UInt8) (T R : ByteArray) (kq s k : Int) (aq ao : Option Addr) (nq cq n ca : Nat) (t1 t2 : List Value) : Prop :=
  Below w.heap.size w W ∧ Blk w.heap.size W [.string ⟨mt.toArray⟩, .string T, .int .i64 kq, .slice aq nq cq] ∧ Blk (w.heap.size + 1) W [.int .i64 s, .string R, .int .i64 k, .slice ao n ca] ∧ Blk z1 W t1 ∧ Blk z2 W t2
theorem s4_below {w : World} {z1 z2 : Nat} {W W' : World} {mt : List UInt8} {T R : ByteArray} {kq s k : Int} {aq ao : Option Addr} {nq cq n ca : Nat} {t1 t2 : List Value} (h : S4 w z1 z2 W mt T R kq s k aq ao nq cq n ca t1 t2) (hb : Below W.heap.size W W') : S4 w z1 z2 W' mt T R kq s k aq ao nq cq n ca t1 t2 := ⟨bt' h.1 hb, cells_below h.2.1 hb, cells_below h.2.2.1 hb, cells_below h.2.2.2.1 hb, cells_below h.2.2.2.2 hb⟩
def inL9 (s : Int) : Bool := decide (s ∈ ([200, 203, 300, 301, 404, 405, 410, 414, 501] : List Int))
def inL2 (s : Int) : Bool := decide (s ∈ ([302, 307] : List Int))
theorem okS_eq (s n7 n6 : Int) (hE : Bool) : okS s n7 n6 hE = (inL9 s || (inL2 s && (decide (n7 ≠ -1) || (decide (n6 ≠ -1) || hE)))) := by
  unfold okS negS inL9 inL2
  simp
  by_cases h1 : s = 302
  · subst h1; simp
  by_cases h2 : s = 307
  · subst h2; simp
  simp [h1, h2, Bool.or_assoc]
theorem tdiv_neg (s : Int) (h : s ≤ 0) : s.tdiv 100 ≤ 0 := by
  have e : s.tdiv 100 = -((-s).tdiv 100) := by rw [Int.neg_tdiv]; omega
  rw [e, Int.tdiv_eq_ediv_of_nonneg (by omega)]
  omega
theorem two_hund (s : Int) : (s.tdiv 100 = 2) ↔ (200 ≤ s ∧ s ≤ 299) := by
  rcases Int.le_total 0 s with h | h
  · rw [Int.tdiv_eq_ediv_of_nonneg h]; omega
  · have : s.tdiv 100 ≤ 0 := tdiv_neg s h
    constructor
    · intro e; omega
    · intro e; omega
theorem part_eq (s : Int) : decide (200 ≤ s ∧ s ≤ 299) = (s.tdiv 100 == 2) := by
  by_cases h : s.tdiv 100 = 2
  · rw [decide_eq_true ((two_hund s).1 h), h]; rfl
  · rw [decide_eq_false (fun x => h ((two_hund s).2 x))]; simp [h]
def auR : List UInt8 := [97, 117, 116, 104, 111, 114, 105, 122, 97, 116, 105, 111, 110]
def vaR : List UInt8 := [118, 97, 114, 121]
def raR : List UInt8 := [114, 97, 110, 103, 101]
theorem vals_au (fs : FL) : valsOf fs auR = valsOf fs aub := by unfold valsOf; rw [show lows auR = lows aub by decide]
theorem vals_va (fs : FL) : valsOf fs vaR = valsOf fs vab := by unfold valsOf; rw [show lows vaR = lows vab by decide]
theorem vals_ra (fs : FL) : valsOf fs raR = valsOf fs rab := by unfold valsOf; rw [show lows raR = lows rab by decide]
end Go.Proofs.YtlhhcpbfjjhbfaaDoor
