/- What the laws of layer 17 over entries keep: an entry in a block, another one, what lists hold besides. -/
import Derived.Test.YtmibgcbolnpffaaDoorVrA
import Derived.Test.YtmibgcbolnpffaaDoorVrQ
import Derived.Test.YtmibgcbolnpffaaDoorBr
namespace Go.Proofs.YtmibgcbolnpffaaDoor
open Go.RowKit
/-- the cells of an entry -/
def EL (K V R : ByteArray) (s k a g : Int) (ao ba : Option Addr) (n m ca bc : Nat) : List Value := [.string K, .string V, .int .i64 s, .string R, .int .i64 k, .slice ao n ca, .slice ba m bc, .int .i64 a, .int .i64 g]
theorem eL_cells {b : Nat} {W : World} {K V R : ByteArray} {s k a g : Int} {ao ba : Option Addr} {n m ca bc : Nat} (h : Blk b W (EL K V R s k a g ao ba n m ca bc)) : W.cell? ⟨b, 0, none⟩ = some (.string K) ∧ W.cell? ⟨b, 1, none⟩ = some (.string V) ∧ W.cell? ⟨b, 2, none⟩ = some (.int .i64 s) ∧ W.cell? ⟨b, 3, none⟩ = some (.string R) ∧ W.cell? ⟨b, 4, none⟩ = some (.int .i64 k) ∧ W.cell? ⟨b, 5, none⟩ = some (.slice ao n ca) ∧ W.cell? ⟨b, 6, none⟩ = some (.slice ba m bc) ∧ W.cell? ⟨b, 7, none⟩ = some (.int .i64 a) ∧ W.cell? ⟨b, 8, none⟩ = some (.int .i64 g) := (cells_nine h).1
structure E2 (w : World) (y : Nat) (L1 L2 : List Value) (l : List (Value × FL)) (lb : List (Value × List UInt8)) (W : World) : Prop where
  bel : Below w.heap.size w W
  one : Blk w.heap.size W L1
  two : Blk y W L2
  fld : ∀ p ∈ l, HoldsF W p.1 p.2
  byt : ∀ p ∈ lb, HoldsB W p.1 p.2
theorem e2_below {w W W' : World} {y : Nat} {L1 L2 : List Value} {l : List (Value × FL)} {lb : List (Value × List UInt8)} (h : E2 w y L1 L2 l lb W) (hb : Below W.heap.size W W') : E2 w y L1 L2 l lb W' :=
  ⟨bt' h.bel hb, cells_below h.one hb, cells_below h.two hb, fun p hp => holdsF_mono (h.fld p hp) hb, fun p hp => holdsB_mono (h.byt p hp) hb⟩
theorem e2_drew {w W : World} {y : Nat} {L1 L2 : List Value} {l : List (Value × FL)} {lb : List (Value × List UInt8)} (h : E2 w y L1 L2 l lb W) : E2 w y L1 L2 l lb W.drew := e2_below h (Below.refl _ _).drew
theorem e2_fld {w W : World} {y : Nat} {L1 L2 : List Value} {l : List (Value × FL)} {lb : List (Value × List UInt8)} (h : E2 w y L1 L2 l lb W) {v : Value} {fs : FL} (hv : HoldsF W v fs) : E2 w y L1 L2 ((v, fs) :: l) lb W :=
  ⟨h.bel, h.one, h.two, fun p hp => by rcases List.mem_cons.1 hp with rfl | hp; exact hv; exact h.fld p hp, h.byt⟩
theorem e2_byt {w W : World} {y : Nat} {L1 L2 : List Value} {l : List (Value × FL)} {lb : List (Value × List UInt8)} (h : E2 w y L1 L2 l lb W) {v : Value} {bs : List UInt8} (hv : HoldsB W v bs) : E2 w y L1 L2 l ((v, bs) :: lb) W :=
  ⟨h.bel, h.one, h.two, h.fld, fun p hp => by rcases List.mem_cons.1 hp with rfl | hp; exact hv; exact h.byt p hp⟩
end Go.Proofs.YtmibgcbolnpffaaDoor
