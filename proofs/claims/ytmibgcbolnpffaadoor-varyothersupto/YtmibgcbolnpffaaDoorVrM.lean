/- A map from names to lists of texts, each list in a row of its own; what is kept of it by later worlds, by an append, by a store. -/
import Derived.Test.YtmibgcbolnpffaaDoorVrP
import Derived.Test.YtmibgcbolnpffaaDoorBm
import Derived.Test.YtmibgcbolnpffaaDoorBo
import Derived.Maps.Ext
import Derived.Maps.OwnSet
import Derived.Maps.OwnIn
namespace Go.Proofs.YtmibgcbolnpffaaDoor
open Go.RowKit Go.Maps Go.WideMaps
abbrev DUv := DataW Unit
/-- a slice as the map's reading tells it -/
def sD : Value → DUv
  | .slice none n c => .agg [.nil, .lit (.int .i64 (n : Int)), .lit (.int .i64 (c : Int))]
  | .slice (some ⟨b, o, none⟩) n c => .agg [.lit (.int .i64 (b : Int)), .lit (.int .i64 (o : Int)), .lit (.int .i64 (n : Int)), .lit (.int .i64 (c : Int))]
  | _ => .nil
def sel (v : Value) : Option (DUv × List MemPlace) := match v with
  | .agg cs => (match cs.toList with
    | [u] => some (sD u, [])
    | _ => none)
  | _ => none
def IsSl (v : Value) : Prop := (∃ n c, v = .slice none n c) ∨ ∃ b o n c, v = .slice (some ⟨b, o, none⟩) n c
theorem sel_at (u : Value) : sel (.agg #[u]) = some (sD u, []) := rfl
theorem sD_inj {u v : Value} (hu : IsSl u) (h : sD v = sD u) : v = u := by
  rcases hu with ⟨n, c, rfl⟩ | ⟨b, o, n, c, rfl⟩
  · unfold sD at h
    split at h
    · simp only [DataW.agg.injEq, List.cons.injEq, DataW.lit.injEq, Lit.int.injEq, true_and, and_true] at h
      obtain ⟨h1, h2⟩ := h
      have e1 : _ = n := Int.ofNat.inj h1
      have e2 : _ = c := Int.ofNat.inj h2
      rw [e1, e2]
    · simp at h
    · simp at h
  · unfold sD at h
    split at h
    · simp at h
    · simp only [DataW.agg.injEq, List.cons.injEq, DataW.lit.injEq, Lit.int.injEq, true_and, and_true] at h
      obtain ⟨h0, h3, h1, h2⟩ := h
      have e0 : _ = b := Int.ofNat.inj h0
      have e3 : _ = o := Int.ofNat.inj h3
      have e1 : _ = n := Int.ofNat.inj h1
      have e2 : _ = c := Int.ofNat.inj h2
      rw [e0, e1, e2, e3]
    · simp at h
theorem sel_inv {v u : Value} {ps : List MemPlace} (hu : IsSl u) (h : sel v = some (sD u, ps)) : v = .agg #[u] := by
  unfold sel at h
  split at h
  · next cs =>
    split at h
    · next x e =>
      simp only [Option.some.injEq, Prod.mk.injEq] at h
      rw [← sD_inj hu h.1]
      cases cs
      simp only at e
      rw [e]
    · cases h
  · cases h
theorem isSl_own {w0 w : World} {v : Value} {ss : List Nm} (h : OwnS w0 v ss w) : IsSl v := by
  obtain ⟨hl, h1 | ⟨g, cap, cur, rfl, hg, hh, hr⟩⟩ := h.1
  · obtain ⟨rfl, hn⟩ := h1
    exact .inl ⟨0, 0, rfl⟩
  · exact .inr ⟨g, 0, _, cap, rfl⟩
def updV {α : Type} (f : Nm → α) (x : Nm) (a : α) : Nm → α := fun y => if y = x then a else f y
theorem upd_same {α : Type} (f : Nm → α) (x : Nm) (a : α) : updV f x a x = a := by unfold updV; rw [if_pos rfl]
theorem upd_other {α : Type} (f : Nm → α) (x : Nm) (a : α) {y : Nm} (h : y ≠ x) : updV f x a y = f y := by unfold updV; rw [if_neg h]
/-- each name's list in a row of its own -/
structure RowsV (w0 : World) (val : Nm → Value) (els : Nm → List Nm) (W : World) : Prop where
  row : ∀ x, OwnS w0 (val x) (els x) W
  apart : ∀ x y g, x ≠ y → (val x).ownBlock = some g → (val y).ownBlock ≠ some g
/-- the map says where each name's list lies; is: which names it has -/
structure MapV (m n : Nat) (is : Nm → Bool) (val : Nm → Value) (W : World) : Prop where
  own : ∃ D : DUv, W.ownsMap Tryd.prog 9 sel m n D ∧ IsMap D ∧ (∀ x, Maps.has D (.string x) = is x) ∧ (∀ x z, is x = true → D.atKey (.string x) z = sD (val x))
  no : ∀ x, is x = false → val x = .slice none 0 0
theorem mapV_block {m n : Nat} {is : Nm → Bool} {val : Nm → Value} {W W' : World} (h : MapV m n is val W) (hb : W'.heap[m]? = W.heap[m]?) : MapV m n is val W' := by
  obtain ⟨⟨D, ⟨es, clock, hh, F, hn, hD⟩, h2, h3, h4⟩, h5⟩ := h
  exact ⟨⟨D, ⟨es, clock, by rw [hb]; exact hh, F, hn, hD⟩, h2, h3, h4⟩, h5⟩
theorem mapV_lt {m n : Nat} {is : Nm → Bool} {val : Nm → Value} {W : World} (h : MapV m n is val W) : m < W.heap.size := by
  obtain ⟨⟨D, h1, _⟩, _⟩ := h
  exact h1.lt
theorem mapV_below {m n : Nat} {is : Nm → Bool} {val : Nm → Value} {W W' : World} (h : MapV m n is val W) (hb : Below W.heap.size W W') : MapV m n is val W' := mapV_block h (hb.block m (mapV_lt h))
theorem rowsV_below {w0 : World} {val : Nm → Value} {els : Nm → List Nm} {W W' : World} (h : RowsV w0 val els W) (hb : Below W.heap.size W W') : RowsV w0 val els W' := ⟨fun x => ownS_mono (h.row x) hb, h.apart⟩
/-- no row lies where the map does -/
theorem rowsV_ne {w0 : World} {val : Nm → Value} {els : Nm → List Nm} {W : World} (h : RowsV w0 val els W) {m n : Nat} {is : Nm → Bool} {val2 : Nm → Value} (hm : MapV m n is val2 W) (x : Nm) : (val x).ownBlock ≠ some m := by
  intro e
  obtain ⟨⟨D, ⟨es, clock, hh, _⟩, _⟩, _⟩ := hm
  obtain ⟨hl, h1 | ⟨g, cap, cur, hv, hg, hc, hr⟩⟩ := (h.row x).1
  · rw [h1.1] at e; cases e
  · rw [hv] at e
    simp only [Value.ownBlock, Option.some.injEq] at e
    rw [← e, hc] at hh
    cases hh
theorem rowsV_off {w0 : World} {val : Nm → Value} {els : Nm → List Nm} {W W' : World} (h : RowsV w0 val els W) {m : Nat} (hm : ∀ x, (val x).ownBlock ≠ some m) (hw : w0.heap.size ≤ m) (hg : W.grownBy W' (some m)) : RowsV w0 val els W' := by
  refine ⟨fun x => ?_, h.apart⟩
  refine ⟨(h.row x).1.kept hg (.inr (hm x)), ?_⟩
  exact Below.grown (h.row x).2 hg (h.row x).2.size (fun k hk => by cases hk; exact hw)
theorem key_strV {s : ByteArray} (hs : s.size ≤ 140737488351232) : keyOf Tryd.prog 9 (.string s) = some (.string s.data.toList) := keyOf_string_mk Tryd.underlying9 (by unfold maxLen; omega)
theorem zeroV (w : World) : (zeroValue 60).run Tryd.prog w = .ok (.agg #[.slice none 0 0]) w := by kernel_rfl
theorem mapV_look {m n : Nat} {is : Nm → Bool} {val : Nm → Value} {w0 W : World} {els : Nm → List Nm} (h : MapV m n is val W) (hr : RowsV w0 val els W) {s : ByteArray} (hs : s.size ≤ 140737488351232) (x : Nm) (hx : s.data.toList = x) :
    (Instr.lookup 50 (.map (some m)) (.string s) false).run Tryd.prog W = .ok (.agg #[val x]) W := by
  obtain ⟨⟨D, h1, h2, h3, h4⟩, h5⟩ := h
  obtain ⟨v, ps, k1, k2⟩ := World.ownsMap.lookup h1 (string_keyed Tryd.underlying9) Tryd.underlying50 (zeroV W) (sel_at _) (key_strV hs)
  rw [k1]
  rw [hx] at k2
  cases hi : is x with
  | true => rw [h4 x _ hi] at k2; rw [sel_inv (isSl_own (hr.row x)) k2]
  | false =>
    rw [atKey_of_not_has (by rw [h3]; exact hi)] at k2
    rw [sel_inv (.inl ⟨0, 0, rfl⟩) k2, h5 x hi]
theorem mapV_look_ok {m n : Nat} {is : Nm → Bool} {val : Nm → Value} {w0 W : World} {els : Nm → List Nm} (h : MapV m n is val W) (hr : RowsV w0 val els W) {s : ByteArray} (hs : s.size ≤ 140737488351232) (x : Nm) (hx : s.data.toList = x) :
    (Instr.lookup 50 (.map (some m)) (.string s) true).run Tryd.prog W = .ok (.tuple #[.agg #[val x], .bool (is x)]) W := by
  obtain ⟨⟨D, h1, h2, h3, h4⟩, h5⟩ := h
  obtain ⟨v, ps, k1, k2⟩ := World.ownsMap.look_ok h1 (string_keyed Tryd.underlying9) Tryd.underlying50 (zeroV W) (sel_at _) (key_strV hs)
  rw [hx] at k1 k2
  rw [k1, h3]
  cases hi : is x with
  | true => rw [h4 x _ hi] at k2; rw [sel_inv (isSl_own (hr.row x)) k2]
  | false =>
    rw [atKey_of_not_has (by rw [h3]; exact hi)] at k2
    rw [sel_inv (.inl ⟨0, 0, rfl⟩) k2, h5 x hi]
theorem mapV_put {m n : Nat} {is : Nm → Bool} {val : Nm → Value} {W : World} (h : MapV m n is val W) (hn : n < 1000000000) {s : ByteArray} (hs : s.size ≤ 140737488351232) (x : Nm) (hx : s.data.toList = x) (v : Value) :
    ∃ W', (Instr.mapUpdate 50 (.map (some m)) (.string s) (.agg #[v])).run Tryd.prog W = .ok () W' ∧ MapV m (n + 1) (updV is x true) (updV val x v) W' ∧ W.grownBy W' (some m) := by
  obtain ⟨⟨D, h1, h2, h3, h4⟩, h5⟩ := h
  obtain ⟨W', k1, k2, k3⟩ := World.ownsMap.update h1 (string_keyed Tryd.underlying9) Tryd.underlying50 (by unfold maxLen; omega) (key_strV hs) (sel_at v)
  rw [hx] at k2
  have hk : WideAt.IsKeyLit (.string x : Lit) := by simp [WideAt.IsKeyLit]
  refine ⟨W', k1, ⟨⟨_, k2, h2.put _ _, fun y => ?_, fun y z hy => ?_⟩, fun y hy => ?_⟩, k3⟩
  · by_cases e : y = x
    · subst e; rw [has_put_same h2 hk, upd_same]
    · rw [has_put_other (by simpa using e), upd_other _ _ _ e, h3]
  · by_cases e : y = x
    · subst e; rw [atKey_put_same h2 hk, upd_same]
    · rw [atKey_put_other (by simpa using e), upd_other _ _ _ e]
      rw [upd_other _ _ _ e] at hy
      exact h4 y z hy
  · by_cases e : y = x
    · subst e; rw [upd_same] at hy; cases hy
    · rw [upd_other _ _ _ e] at hy ⊢
      exact h5 y hy
theorem mapV_empty (w : World) : MapV w.heap.size 0 (fun _ => false) (fun _ => .slice none 0 0) (w.alloc (.map #[] 0)) :=
  ⟨⟨.map [], World.ownsMap_made w Tryd.prog 9 sel, isMap_empty, fun _ => rfl, fun _ _ h => by cases h⟩, fun _ _ => rfl⟩
theorem rowsV_empty (w0 W : World) (h : Below w0.heap.size w0 W) : RowsV w0 (fun _ => .slice none 0 0) (fun _ => []) W := ⟨fun _ => ownS_nil _ _ h, fun _ _ _ _ h => by cases h⟩
end Go.Proofs.YtmibgcbolnpffaaDoor
