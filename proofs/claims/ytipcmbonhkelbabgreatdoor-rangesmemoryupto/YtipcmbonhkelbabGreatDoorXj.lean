/- The contracts of Merge and of the document's Merge. The law's alive of layer 18. What stands beside a drawn region: two structs of four cells, and lists of fields that are held. -/
import Derived.Test.YtipcmbonhkelbabGreatDoorBo
import Derived.Test.YtipcmbonhkelbabGreatDoorXd
import Derived.Test.YtipcmbonhkelbabGreatDoorBm
import Derived.Test.YtipcmbonhkelbabGreatDoorVaT
import Derived.Test.YtipcmbonhkelbabGreatDoorXq
namespace Go.Proofs.YtipcmbonhkelbabGreatDoor
open Go.RowKit
theorem appSH {ops : Array Oper} {rest : List Oper} {o : Oper} {a : Act} {Q : Exit → Act → World → Prop} {wr : World} {t : ByteArray} {H : Nat} (hgd : o.guard = none) (s x : Operand)
    (ho : o.op = .call { callee := .builtin .append, args := #[s, x], argTypes := #[55, 55] }) (w0 : World) (v : Value) (ss : List (List UInt8)) (hs : a.eval s = v) (hown : OwnS w0 v ss wr)
    (l : List UInt8) (ht : t = ⟨l.toArray⟩) (hx : a.eval x = .slice (some ⟨H, 0, none⟩) 1 1) (hH : wr.heap.size = H) (hlen : (ss.length + 1) * 16 ≤ 140737488355328)
    (h : ∀ v' w', OwnS w0 v' (ss ++ [l]) w' → wpList Tryz.prog ops Q rest (a.put o.dst v') w') : wpList Tryz.prog ops Q (o :: rest) a (wr.alloc (.cells #[.string t] 9)) := by
  subst hH
  exact appS hgd s x ho w0 v ss hs hown l ht hx hlen h
theorem holds_lit4 (w : World) (x y z u : List UInt8) : Holds (w.alloc (.cells #[S x, S y, S z, S u] 9)) (.slice (some ⟨w.heap.size, 0, none⟩) 4 4) [x, y, z, u] := by
  refine ⟨_, 4, rfl, fun _ => ⟨w.heap.size, 0, rfl, by simp, fun j hj => ?_⟩⟩
  match j, hj with
  | 0, _ => simp
  | 1, _ => simp
  | 2, _ => simp
  | 3, _ => simp
theorem without_low (fs : FL) {a b : List (List UInt8)} (h : a.map lows = b.map lows) : withoutOf fs a = withoutOf fs b := by unfold withoutOf; rw [h]
def hopN : List (List UInt8) := [[67, 111, 110, 116, 101, 110, 116, 45, 76, 101, 110, 103, 116, 104], [67, 111, 110, 116, 101, 110, 116, 45, 82, 97, 110, 103, 101], [84, 114, 97, 110, 115, 102, 101, 114, 45, 69, 110, 99, 111, 100, 105, 110, 103], [67, 111, 110, 110, 101, 99, 116, 105, 111, 110]]
theorem news_caps (u : FL) : withoutOf u hopN = newsOf u := without_low u (by decide)
theorem without_nil (s : FL) : withoutOf s [] = s := by unfold withoutOf; simp
theorem names_next (nw : FL) (k : Nat) (h : k < nw.length) : (nw.take (k + 1)).map (fun f => f.1) = (nw.take k).map (fun f => f.1) ++ [(nw[k]).1] := by
  rw [List.take_succ_eq_append_getElem h, List.map_append]; rfl
theorem names_fit {nw : FL} (h : Fit nw) : ∀ n ∈ nw.map (fun f => f.1), n.length ≤ 140737488351232 := by
  intro n hn
  obtain ⟨f, hf, rfl⟩ := List.mem_map.1 hn
  exact (h f hf).1
theorem merge_if (s u : FL) : mergeM s u = if 100 < (withoutOf s ((newsOf u).map (fun f => f.1)) ++ newsOf u).length then s else withoutOf s ((newsOf u).map (fun f => f.1)) ++ newsOf u := rfl
end Go.Proofs.YtipcmbonhkelbabGreatDoor
namespace Go.Proofs.YtipcmbonhkelbabGreatDoor
open Go.RowKit
theorem sameFv (va vb : Value) (xs : FL) (w : World) (ha : HoldsF w va xs) (hb : HoldsF w vb xs) (la : xs.length ≤ 1000000000000000) :
    Calls Tryz.prog 31 #[va, vb] w fun e w' => e = .returned (.bool true) ∧ Below w.heap.size w w' := by
  refine (sameF va vb xs xs w ha hb la la).mono ?_
  rintro e w' ⟨rfl, n, rfl⟩
  exact ⟨by simp, below_drewN _ _⟩
end Go.Proofs.YtipcmbonhkelbabGreatDoor
namespace Go.Proofs.YtipcmbonhkelbabGreatDoor
open Go.RowKit
def VaO (w W : World) (q z : Nat) (cs ds : List Value) (l : List (Value × FL)) : Prop := Below w.heap.size w W ∧ Blk q W cs ∧ Blk z W ds ∧ ∀ p ∈ l, HoldsF W p.1 p.2
theorem vaO_below {w W W' : World} {q z : Nat} {cs ds : List Value} {l : List (Value × FL)} (h : VaO w W q z cs ds l) (b : Below W.heap.size W W') : VaO w W' q z cs ds l :=
  ⟨bt' h.1 b, cells_below h.2.1 b, cells_below h.2.2.1 b, fun p hp => holdsF_mono (h.2.2.2 p hp) b⟩
theorem vaO_drew {w W : World} {q z : Nat} {cs ds : List Value} {l : List (Value × FL)} (h : VaO w W q z cs ds l) : VaO w W.drew q z cs ds l := vaO_below h (Below.refl _ _).drew
theorem vaO_put {w W : World} {q z : Nat} {cs ds : List Value} {l : List (Value × FL)} (h : VaO w W q z cs ds l) {v : Value} {fs : FL} (hv : HoldsF W v fs) : VaO w W q z cs ds ((v, fs) :: l) :=
  ⟨h.1, h.2.1, h.2.2.1, fun p hp => by
    rcases List.mem_cons.1 hp with rfl | hp
    · exact hv
    · exact h.2.2.2 p hp⟩
theorem vaO_cells {w W : World} {q z : Nat} {x0 x1 x2 x3 y0 y1 y2 y3 : Value} {l : List (Value × FL)} (h : VaO w W q z [x0, x1, x2, x3] [y0, y1, y2, y3] l) : W.cell? ⟨q, 0, none⟩ = some x0 ∧ W.cell? ⟨q, 1, none⟩ = some x1 ∧ W.cell? ⟨q, 2, none⟩ = some x2 ∧ W.cell? ⟨q, 3, none⟩ = some x3 ∧ W.cell? ⟨z, 0, none⟩ = some y0 ∧ W.cell? ⟨z, 1, none⟩ = some y1 ∧ W.cell? ⟨z, 2, none⟩ = some y2 ∧ W.cell? ⟨z, 3, none⟩ = some y3 := by
  obtain ⟨a0, a1, a2, a3, _⟩ := blk4 h.2.1
  obtain ⟨b0, b1, b2, b3, _⟩ := blk4 h.2.2.1
  exact ⟨a0, a1, a2, a3, b0, b1, b2, b3⟩
end Go.Proofs.YtipcmbonhkelbabGreatDoor
