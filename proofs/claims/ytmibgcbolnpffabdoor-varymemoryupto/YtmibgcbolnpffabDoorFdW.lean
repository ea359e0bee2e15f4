/- The contracts of clone and Without. -/
import Derived.Test.YtmibgcbolnpffabDoorGen
import Derived.Test.YtmibgcbolnpffabDoorFdS
import Derived.Test.YtmibgcbolnpffabDoorCln
import Derived.Maps.Own
import Derived.Maps.OwnSet
import Derived.Maps.OwnOps
namespace Go.Proofs.YtmibgcbolnpffabDoor
open Go.RowKit Go.Maps
/-- the two cells of a variable of the call's own -/
def Two (w0 w : World) : Prop := (∃ x, w.cell? ⟨w0.heap.size, 0, none⟩ = some (.string x)) ∧ (∃ x, w.cell? ⟨w0.heap.size, 1, none⟩ = some (.string x)) ∧ w.frozen? ⟨w0.heap.size, 0, none⟩ = false ∧ w.frozen? ⟨w0.heap.size, 1, none⟩ = false ∧ w0.heap.size < w.heap.size ∧ Below w0.heap.size w0 w
theorem two_start (w : World) : Two w (w.alloc (.cells #[.string ⟨#[]⟩, .string ⟨#[]⟩] 30)) :=
  ⟨⟨⟨#[]⟩, by simp⟩, ⟨⟨#[]⟩, by simp⟩, by simp, by simp, by simp, (Below.refl _ _).alloc (Nat.le_refl _) _⟩
theorem two_below {w0 w w' : World} (h : Two w0 w) (hb : Below w.heap.size w w') : Two w0 w' := by
  obtain ⟨⟨x, h1⟩, ⟨y, h2⟩, h3, h4, h5, h6⟩ := h
  obtain ⟨c, f⟩ := bcell hb
  have := hb.size
  exact ⟨⟨x, by rw [c _ _ h5]; exact h1⟩, ⟨y, by rw [c _ _ h5]; exact h2⟩, by rw [f _ _ h5]; exact h3, by rw [f _ _ h5]; exact h4, by omega, h6.trans (hb.mono h6.size)⟩
theorem two_drawn {w0 w : World} (h : Two w0 w) (n : Nat) : Two w0 (w.drewN n) := two_below h (below_drewN w n)
theorem two_store {w0 w : World} (h : Two w0 w) (a b : Value) : ((w.setCell ⟨w0.heap.size, 0, none⟩ a).setCell ⟨w0.heap.size, 1, none⟩ b).cell? ⟨w0.heap.size, 0, none⟩ = some a ∧ ((w.setCell ⟨w0.heap.size, 0, none⟩ a).setCell ⟨w0.heap.size, 1, none⟩ b).cell? ⟨w0.heap.size, 1, none⟩ = some b ∧ Below w0.heap.size w0 ((w.setCell ⟨w0.heap.size, 0, none⟩ a).setCell ⟨w0.heap.size, 1, none⟩ b) := by
  obtain ⟨⟨x, h1⟩, ⟨y, h2⟩, h3, h4, h5, h6⟩ := h
  refine ⟨?_, ?_, (h6.setCell (Nat.le_refl _) _).setCell (Nat.le_refl _) _⟩
  · rw [World.cell?_setCell_other _ _ _ _ (by simp)]
    exact World.cell?_setCell_same _ _ _ h1
  · refine World.cell?_setCell_same (u := .string y) _ _ _ ?_
    rw [World.cell?_setCell_other _ _ _ _ (by simp)]
    exact h2
theorem ownsMap_below {H : Type} {P : Program} {k : TypeId} {R : Value → Option (DataW H × List MemPlace)} {b n : Nat} {D : DataW H} {w w' : World} (h : w.ownsMap P k R b n D) (hb : Below w.heap.size w w') : w'.ownsMap P k R b n D := by
  have hlt := h.lt
  obtain ⟨es, clock, hbk, F, hs, hD⟩ := h
  exact ⟨es, clock, by rw [hb.block b hlt]; exact hbk, F, hs, hD⟩
def keysOf (ns : List (List UInt8)) : List Lit := ns.map (fun n => Lit.string (lows n))
def setN (ns : List (List UInt8)) : DataW Unit := setOf (.agg []) (keysOf ns)
theorem setN_step (ns : List (List UInt8)) (k : Nat) (h : k < ns.length) : setN (ns.take (k + 1)) = (setN (ns.take k)).put (.string (lows ns[k])) (.agg []) := by
  unfold setN keysOf
  rw [List.take_succ_eq_append_getElem h, List.map_append, List.map_cons, List.map_nil, setOf_snoc]
theorem has_setN (ns : List (List UInt8)) (x : List UInt8) : Maps.has (setN ns) (.string x) = decide (x ∈ ns.map lows) := by
  unfold setN
  rw [has_setOf _ _ _ (by intro y hy; obtain ⟨n, _, rfl⟩ := List.mem_map.1 hy; exact trivial), Bool.eq_iff_iff, List.any_eq_true, decide_eq_true_iff]
  constructor
  · rintro ⟨y, hy, hs⟩
    obtain ⟨n, hn, rfl⟩ := List.mem_map.1 hy
    have := WideAt.sameKey_eq hs
    injection this with e
    exact List.mem_map.2 ⟨n, hn, e⟩
  · intro h
    obtain ⟨n, hn, rfl⟩ := List.mem_map.1 h
    exact ⟨_, List.mem_map.2 ⟨n, hn, rfl⟩, WideAt.sameKey_self trivial⟩
theorem holds_parts {w : World} {v : Value} {ss : List (List UInt8)} (h : Holds w v ss) : ∃ ao cap b off, v = .slice ao ss.length cap ∧ (0 < ss.length → ao = some ⟨b, off, none⟩ ∧ b < w.heap.size ∧ ∀ j (h : j < ss.length), w.cell? ⟨b, off + j, none⟩ = some (S ss[j])) := by
  obtain ⟨ao, cap, rfl, hc⟩ := h
  by_cases he : ss = []
  · subst he; exact ⟨ao, cap, 0, 0, rfl, fun h => absurd h (by simp)⟩
  · obtain ⟨b, off, h1, h2, h3⟩ := hc he
    exact ⟨ao, cap, b, off, rfl, fun _ => ⟨h1, h2, h3⟩⟩
theorem holdsF_parts {w : World} {v : Value} {ps : FL} (h : HoldsF w v ps) : ∃ ao cap b off, v = .slice ao ps.length cap ∧ (0 < ps.length → ao = some ⟨b, off, none⟩ ∧ b < w.heap.size ∧ ∀ j (h : j < ps.length), w.cell? ⟨b, off + j * 2, none⟩ = some (S ps[j].1) ∧ w.cell? ⟨b, off + j * 2 + 1, none⟩ = some (S ps[j].2)) := by
  obtain ⟨ao, cap, rfl, _, _, hc⟩ := h
  by_cases he : ps = []
  · subst he; exact ⟨ao, cap, 0, 0, rfl, fun h => absurd h (by simp)⟩
  · obtain ⟨b, off, h1, h2, h3⟩ := hc he
    exact ⟨ao, cap, b, off, rfl, fun _ => ⟨h1, h2, h3⟩⟩
end Go.Proofs.YtmibgcbolnpffabDoor
