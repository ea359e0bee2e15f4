/- The contract of the document's Without. -/
import Derived.Test.YtikokjclhpgocaaDoorBm
import Derived.Deep.RegionHeld3
import Derived.Deep.DrawnRows
namespace Go.Proofs.YtikokjclhpgocaaDoor
open Go.RowKit Go.Maps
theorem ownF_drew {w0 w : World} {v : Value} {ps : FL} (h : OwnF w0 v ps w) : OwnF w0 v ps w.drew := ownF_mono h (Below.refl _ _).drew
theorem st_callF {f : FuncId} {args : Array Value} {r : Value} (h : ∀ W : World, Calls Tryd.prog f args W fun e w' => e = .returned r ∧ Below W.heap.size W w') {w0 W : World} {v : Value} {acc : FL} (ho : OwnF w0 v acc W)
    {p q : Addr} {x y : Value} (hp : p.block < w0.heap.size) (hq : q.block < w0.heap.size) (cx : w0.cell? p = some x) (cy : w0.cell? q = some y) :
    Calls Tryd.prog f args W fun e w' => e = .returned r ∧ Hid (OwnF w0 v acc w') ∧ w'.cell? p = some x ∧ w'.cell? q = some y := by
  refine (h W).mono ?_
  rintro e w' ⟨rfl, hb⟩
  have o := ownF_mono ho hb
  exact ⟨rfl, o, by rw [o.2.cell hp]; exact cx, by rw [o.2.cell hq]; exact cy⟩
theorem in_step (ns : List (List UInt8)) (j : Nat) (h : j < ns.length) (x : List UInt8) : decide (x ∉ (ns.take (j + 1)).map lows) = (decide (x ∉ (ns.take j).map lows) && !decide (x = lows ns[j])) := by
  rw [List.take_succ_eq_append_getElem h, List.map_append]
  have e : (x ∉ (ns.take j).map lows ++ [ns[j]].map lows) ↔ (x ∉ (ns.take j).map lows ∧ ¬ x = lows ns[j]) := by
    rw [List.mem_append, not_or, List.map_cons, List.map_nil, List.mem_singleton]
  rw [decide_eq_decide.2 e, Bool.decide_and, decide_not, decide_not]
theorem ba_eql (a b : List UInt8) (h : ¬ a = b) : ((⟨a.toArray⟩ : ByteArray).toList == (⟨b.toArray⟩ : ByteArray).toList) = false := by
  rw [Lib.toList_data, Lib.toList_data]; simpa using h
attribute [local go_sem ↓] Go.wp_at_zero Go.wp_at_succ
end Go.Proofs.YtikokjclhpgocaaDoor
