/- A box: its block, its bytes; a row appended to beyond any block; rows beside the box's block. -/
import Derived.Test.YtmikgpmnffdnnaaGreatDoorBbt
import Derived.Test.YtmikgpmnffdnnaaGreatDoorInT
import Derived.Test.YtmikgpmnffdnnaaGreatDoorBa
namespace Go.Proofs.YtmikgpmnffdnnaaGreatDoor
open Go.RowKit
/-- block g is a box: its reading function, its bytes (a row from 'base' on), its error -/
def BoxP (g base : Nat) (fv : Value) (held : List UInt8) (er : Int) (W : World) : Prop :=
  ∃ cv, Blk g W [fv, cv, .int .i64 er] ∧ W.ownsRow base 5 1 cv held.length (held.map B) ∧ g < base ∧ base ≤ W.heap.size
theorem cells_three {b : Nat} {W : World} {v0 v1 v2 : Value} (h : Blk b W [v0, v1, v2]) : (W.cell? ⟨b, 0, none⟩ = some v0 ∧ W.cell? ⟨b, 1, none⟩ = some v1 ∧ W.cell? ⟨b, 2, none⟩ = some v2) ∧ (W.frozen? ⟨b, 0, none⟩ = false ∧ W.frozen? ⟨b, 1, none⟩ = false ∧ W.frozen? ⟨b, 2, none⟩ = false) :=
  ⟨⟨(h.1 0 (by simp)).1, (h.1 1 (by simp)).1, (h.1 2 (by simp)).1⟩, ⟨(h.1 0 (by simp)).2, (h.1 1 (by simp)).2, (h.1 2 (by simp)).2⟩⟩
theorem box_slice {g base : Nat} {fv : Value} {held : List UInt8} {er : Int} {W : World} (h : BoxP g base fv held er W) : ∃ ca cc, Blk g W [fv, .slice ca held.length cc, .int .i64 er] ∧ W.ownsRow base 5 1 (.slice ca held.length cc) held.length (held.map B) := by
  obtain ⟨cv, h1, h2, _⟩ := h
  rcases h2.2 with ⟨rfl, hn⟩ | ⟨x, cap, cur, rfl, _⟩
  · rw [hn] at h2 ⊢; exact ⟨none, 0, h1, h2⟩
  · exact ⟨_, _, h1, h2⟩
theorem row_holds {W : World} {base : Nat} {v : Value} {bs : List UInt8} (h : W.ownsRow base 5 1 v bs.length (bs.map B)) : HoldsB W v bs := by
  obtain ⟨hl, h1 | ⟨g, cap, cur, rfl, hg, hh, hr⟩⟩ := h
  · obtain ⟨rfl, hn⟩ := h1
    obtain rfl : bs = [] := List.eq_nil_of_length_eq_zero hn
    exact ⟨none, 0, rfl, fun _ => rfl, Nat.le_refl _, fun h => absurd rfl h⟩
  · have h : W.ownsRow base 5 1 (.slice (some ⟨g, 0, none⟩) bs.length cap) bs.length (bs.map B) := ⟨hl, .inr ⟨g, cap, cur, rfl, hg, hh, hr⟩⟩
    refine ⟨_, cap, rfl, fun e => (by cases e), hr.1, fun _ => ⟨g, 0, rfl, (h.lt g rfl).2, fun j hj => ?_⟩⟩
    rw [Nat.zero_add, h.cellAt j (by omega)]
    simp [hj]
theorem box_below {g base : Nat} {fv : Value} {held : List UInt8} {er : Int} {W W' : World} (h : BoxP g base fv held er W) (hb : Below W.heap.size W W') : BoxP g base fv held er W' := by
  obtain ⟨cv, h1, h2, h3, h4⟩ := h
  exact ⟨cv, cells_below h1 hb, row_below h2 hb, h3, Nat.le_trans h4 hb.size⟩
theorem box_start {g : Nat} {fv : Value} {W : World} (h : Blk g W [fv, .slice none 0 0, .int .i64 0]) : BoxP g W.heap.size fv [] 0 W :=
  ⟨_, h, World.ownsRow_nil _ _ _ _, h.2, Nat.le_refl _⟩
/-- a row that stands beside block g is as it was where g alone was written -/
theorem row_but {W W' : World} {g base k n : Nat} {t : TypeId} {v : Value} {cs : List Value} (h : W.ownsRow base t k v n cs) (hg : g < base) (hb : BelowBut g W.heap.size W W') : W'.ownsRow base t k v n cs := by
  obtain ⟨hl, h1 | ⟨x, cap, cur, hv, hx, hh, hr⟩⟩ := h
  · exact ⟨hl, .inl h1⟩
  · have hlt : x < W.heap.size := by
      rcases Nat.lt_or_ge x W.heap.size with h | h
      · exact h
      · rw [Array.getElem?_eq_none (by omega)] at hh; cases hh
    exact ⟨hl, .inr ⟨x, cap, cur, hv, hx, by rw [hb.block x hlt (by omega)]; exact hh, hr⟩⟩
theorem box_base {g base base' : Nat} {fv : Value} {held : List UInt8} {er : Int} {W : World} (h : BoxP g base' fv held er W) (hb : base ≤ base') (hg : g < base) : BoxP g base fv held er W := by
  obtain ⟨cv, h1, h2, h3, h4⟩ := h
  exact ⟨cv, h1, row_base h2 hb, hg, Nat.le_trans hb h4⟩
theorem box_of {g base : Nat} {fv cv : Value} {held : List UInt8} {er : Int} {W W' : World} (ro : W.ownsRow base 5 1 cv held.length (held.map B)) (hg : g < base) (hbs : base ≤ W.heap.size) (hb : BelowBut g W.heap.size W W') (bk : Blk g W' [fv, cv, .int .i64 er]) : BoxP g base fv held er W' :=
  ⟨cv, bk, row_but ro hg hb, hg, Nat.le_trans hbs hb.size⟩
theorem blk_put {b c : Nat} (hne : b ≠ c) {vs : List Value} : ∀ (us : List Value) (o : Nat) (W : World), Blk b W vs → Blk b (putFrom c o W us) vs := by
  intro us
  induction us with
  | nil => intro o W h; exact h
  | cons u r ih => intro o W h; exact ih (o + 1) _ (cells_other h hne u)
theorem blk_but {b g : Nat} {W W' : World} {vs : List Value} (h : Blk b W vs) (hne : b ≠ g) (hb : BelowBut g W.heap.size W W') : Blk b W' vs :=
  ⟨fun j hj => ⟨by rw [World.cell?_of_block (w := W) (a := ⟨b, j, none⟩) (hb.block b h.2 hne)]; exact (h.1 j hj).1, by rw [World.frozen?_of_block (w := W) (a := ⟨b, j, none⟩) (hb.block b h.2 hne)]; exact (h.1 j hj).2⟩, Nat.lt_of_lt_of_le h.2 hb.size⟩
theorem put_but {g : Nat} {W : World} {b : Nat} (hb : W.heap.size ≤ b) : ∀ (vs : List Value) (o : Nat) (w : World), BelowBut g W.heap.size W w → BelowBut g W.heap.size W (putFrom b o w vs) := by
  intro vs
  induction vs with
  | nil => intro o w h; exact h
  | cons v r ih =>
    intro o w h
    exact ih (o + 1) _ (h.trans ⟨rfl, rfl, rfl, by simp [World.setCell], fun k hk _ => Below.heap_setCell _ _ _ _ (by show k ≠ b; omega)⟩)
theorem box_putFrom {g base b : Nat} {fv : Value} {held : List UInt8} {er : Int} {W : World} (h : BoxP g base fv held er W) (hg : g ≠ b) (hb : b < base) (vs : List Value) (hz : (putFrom b 0 W vs).heap.size = W.heap.size) : BoxP g base fv held er (putFrom b 0 W vs) := by
  obtain ⟨cv, h1, h2, h3, h4⟩ := h
  exact ⟨cv, blk_put hg vs 0 W h1, row_putFrom hb vs 0 W h2, h3, by rw [hz]; exact h4⟩
theorem put_size {b : Nat} : ∀ (vs : List Value) (o : Nat) (W : World), (putFrom b o W vs).heap.size = W.heap.size := by
  intro vs
  induction vs with
  | nil => intro o W; rfl
  | cons v r ih => intro o W; show (putFrom b (o + 1) (W.setCell ⟨b, o, none⟩ v) r).heap.size = _; rw [ih]; simp [World.setCell]
/-- a whole list of bytes appended to a row from 'base' on -/
theorem appRowB {ops : Array Oper} {rest : List Oper} {o : Oper} {a : Act} {Q : Exit → Act → World → Prop} {wr : World} (hgd : o.guard = none) (s z : Operand)
    (ho : o.op = .call { callee := .builtin .append, args := #[s, z], argTypes := #[22, 22] }) (base : Nat) (v : Value) (ps : List UInt8) (hs : a.eval s = v) (hown : wr.ownsRow base 5 1 v ps.length (ps.map B)) (hsz : base ≤ wr.heap.size)
    (u : Value) (qs : List UInt8) (hz : a.eval z = u) (hu : HoldsB wr u qs) (hlen : ps.length + qs.length ≤ 140737488355328)
    (h : ∀ v' w', w'.ownsRow base 5 1 v' (ps ++ qs).length ((ps ++ qs).map B) → Below base wr w' → wpList Tryz.prog ops Q rest (a.put o.dst v') w') : wpList Tryz.prog ops Q (o :: rest) a wr := by
  obtain ⟨i0, hi, hz0, hz1, hz2⟩ := info_parts Tryz.info5
  obtain ⟨ao, cap, rfl, h0, hcp, hc⟩ := hu
  have key : ∀ (ad : Addr), ao = some ad → (∀ j x, (qs.map B)[j]? = some x → wr.cell? (ad.add j) = some x) → wpList Tryz.prog ops Q (o :: rest) a wr := by
    intro ad e hnews
    subst e
    refine wpList_append_own _ hgd s z 22 ho base 5 i0 (.int .u8 0) 1 1 Tryz.underlying22 hi hz0 hz1 hz2 rfl (by decide) v ps.length (ps.map B) hs hown ad qs.length cap (qs.map B) hz (by simp) hnews ?_ (by unfold maxLen; omega) (by omega) hsz ?_
    · intro u hu; obtain ⟨x, _, rfl⟩ := List.mem_map.1 hu; rfl
    · intro v' w' h1 h2 _
      refine h v' w' (by rw [List.map_append, List.length_append]; exact h1) ?_
      exact Below.grown (Below.refl _ _) h2 hsz (fun k hk => (hown.lt k hk).1)
  by_cases hq : qs = []
  · subst hq
    cases ao with
    | none =>
      obtain rfl := h0 rfl
      refine wpList_append_own_none hgd s z 22 ho base 5 i0 1 Tryz.underlying22 hi v ps.length (ps.map B) hs hown hz ?_
      exact h v wr (by rw [List.append_nil]; exact hown) (Below.refl _ _)
    | some ad => exact key ad rfl (fun j x hj => by simp at hj)
  · obtain ⟨b, off, rfl, hlt, hcell⟩ := hc hq
    refine key ⟨b, off, none⟩ rfl (fun j x hj => ?_)
    have e : (⟨b, off, none⟩ : Addr).add j = ⟨b, off + j, none⟩ := Go.WideShapes.add_plain _ _ _
    rw [e]
    obtain ⟨hj1, hj2⟩ := List.getElem?_eq_some_iff.1 hj
    rw [List.length_map] at hj1
    rw [hcell j hj1, ← hj2]
    simp
/-- bytes that stand beside block g -/
def HoldsN (g : Nat) (W : World) (v : Value) (bs : List UInt8) : Prop := HoldsB W v bs ∧ ∀ (ad : Addr) n c, v = .slice (some ad) n c → ad.block ≠ g
theorem holdsN_but {g : Nat} {W W' : World} {v : Value} {bs : List UInt8} (h : HoldsN g W v bs) (hb : BelowBut g W.heap.size W W') : HoldsB W' v bs := by
  obtain ⟨⟨ao, cap, rfl, h0, hcp, hc⟩, hg⟩ := h
  refine ⟨ao, cap, rfl, h0, hcp, fun hne => ?_⟩
  obtain ⟨b, off, rfl, hlt, hcell⟩ := hc hne
  have hs := hb.size
  exact ⟨b, off, rfl, by omega, fun j hj => by rw [World.cell?_of_block (w := W) (a := ⟨b, off + j, none⟩) (hb.block b hlt (hg ⟨b, off, none⟩ _ _ rfl))]; exact hcell j hj⟩
theorem holdsN_own {g : Nat} {w0 W : World} {v : Value} {bs : List UInt8} (h : Own w0 v bs W) (hg : g < w0.heap.size) : HoldsN g W v bs := by
  refine ⟨holdsB_own h, fun ad n c e => ?_⟩
  obtain ⟨hl, h1 | ⟨x, cap, cur, hv, hx, _⟩⟩ := h.1
  · rw [h1.1] at e; cases e
  · rw [hv] at e; cases e; show x ≠ g; omega
theorem holdsN_suf {g : Nat} {W : World} {ao : Option Addr} {cap : Nat} {bs : List UInt8} (h : HoldsN g W (.slice ao bs.length cap) bs) (i : Nat) (hi : i ≤ bs.length) : HoldsN g W (Lib.fromV ao bs.length cap i) (bs.drop i) := by
  refine ⟨holdsB_suf h.1 i hi, fun ad n c e => ?_⟩
  have key : ∀ x : Addr, (x.add i).block = x.block := by intro x; unfold Addr.add; split <;> rfl
  unfold Lib.fromV at e
  split at e
  · cases ao with
    | none => simp at e
    | some x => simp at e; rw [← e.1]; exact h.2 x _ _ rfl
  · cases ao with
    | none => simp at e
    | some x => simp at e; rw [← e.1, key]; exact h.2 x _ _ rfl
theorem holdsN_mono {g : Nat} {W W' : World} {v : Value} {bs : List UInt8} (h : HoldsN g W v bs) (hb : Below W.heap.size W W') : HoldsN g W' v bs := ⟨holdsB_mono h.1 hb, h.2⟩
end Go.Proofs.YtmikgpmnffdnnaaGreatDoor
