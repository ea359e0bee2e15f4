/- Rows of whatever cells: what a slice holds, rows that a call itself made, appended to. -/
import Derived.Test.YtbpegpklbenblaaBdB
namespace Go.Proofs.Ytbpegpklbenblaa
open Go.RowKit
/-- v is a slice of n elements, k cells each, that hold cs -/
def Held (w : World) (v : Value) (k n : Nat) (cs : List Value) : Prop :=
  cs.length = n * k ∧ ∃ ao cap, v = .slice ao n cap ∧ (ao = none → cap = 0) ∧ n ≤ cap ∧ (0 < n → ∃ b off, ao = some ⟨b, off, none⟩ ∧ b < w.heap.size ∧ ∀ j u, cs[j]? = some u → w.cell? ⟨b, off + j, none⟩ = some u)
theorem held_mono {w w' : World} {v : Value} {k n : Nat} {cs : List Value} (h : Held w v k n cs) (hb : Below w.heap.size w w') : Held w' v k n cs := by
  obtain ⟨hl, ao, cap, rfl, h0, hcp, hc⟩ := h
  refine ⟨hl, ao, cap, rfl, h0, hcp, fun hne => ?_⟩
  obtain ⟨b, off, rfl, hlt, hcell⟩ := hc hne
  exact ⟨b, off, rfl, Nat.lt_of_lt_of_le hlt hb.size, fun j u hj => by rw [hb.cell (p := ⟨b, off + j, none⟩) hlt]; exact hcell j u hj⟩
theorem held_sub {M W : World} (h : Sub M W) {v : Value} {k n : Nat} {cs : List Value} (hb : Held M v k n cs) : Held W v k n cs := by
  obtain ⟨hl, ao, cap, rfl, h0, hcp, hc⟩ := hb
  refine ⟨hl, ao, cap, rfl, h0, hcp, fun hne => ?_⟩
  obtain ⟨b, off, rfl, hlt, hcell⟩ := hc hne
  exact ⟨b, off, rfl, Nat.lt_of_lt_of_le hlt h.size, fun j u hj => h.cell _ _ (hcell j u hj)⟩
theorem held_row {w : World} {base : Nat} {t : TypeId} {v : Value} {k n : Nat} {cs : List Value} (h : w.ownsRow base t k v n cs) : Held w v k n cs := by
  refine ⟨h.1, ?_⟩
  obtain ⟨hl, h1 | ⟨g, cap, cur, rfl, hg, hh, hr⟩⟩ := id h
  · obtain ⟨rfl, rfl⟩ := h1
    exact ⟨none, 0, rfl, fun _ => rfl, Nat.le_refl _, fun h => absurd h (Nat.lt_irrefl _)⟩
  · refine ⟨_, cap, rfl, fun e => (by cases e), hr.1, fun _ => ⟨g, 0, rfl, (h.lt g rfl).2, fun j u hj => ?_⟩⟩
    have hj' : j < n * k := by rw [← hl]; exact (List.getElem?_eq_some_iff.1 hj).1
    rw [Nat.zero_add, h.cellAt j hj']
    exact hj
theorem held_lit (w : World) (cs : Array Value) (t : TypeId) (k n : Nat) (h : cs.size = n * k) : Held (w.alloc (.cells cs t)) (.slice (some ⟨w.heap.size, 0, none⟩) n n) k n cs.toList := by
  refine ⟨by simpa using h, _, n, rfl, fun e => (by cases e), Nat.le_refl _, fun _ => ⟨w.heap.size, 0, rfl, by simp, fun j u hj => ?_⟩⟩
  unfold World.cell?
  rw [heap_alloc_new]
  rw [Array.getElem?_toList] at hj
  simp [hj]
/-- a row of the call's own; what lay below is as it was -/
def OwnV (w0 : World) (t : TypeId) (k : Nat) (v : Value) (n : Nat) (cs : List Value) (w : World) : Prop := w.ownsRow w0.heap.size t k v n cs ∧ Below w0.heap.size w0 w
theorem ownV_below {w0 w w' : World} {t : TypeId} {k n : Nat} {v : Value} {cs : List Value} (h : OwnV w0 t k v n cs w) (hb : Below w.heap.size w w') : OwnV w0 t k v n cs w' := ⟨row_below h.1 hb, h.2.trans (hb.mono h.2.size)⟩
theorem ownV_empty (w0 : World) (t : TypeId) (k : Nat) : OwnV w0 t k (.slice (some ⟨w0.heap.size, 0, none⟩) 0 0) 0 [] (w0.alloc (.cells #[] t)) :=
  ⟨World.ownsRow_lit w0 #[] 0 (Nat.le_refl _) (by unfold maxLen; omega) (by simp), (Below.refl _ _).alloc (Nat.le_refl _) _⟩
theorem ownV_nil (w0 w : World) (t : TypeId) (k : Nat) (h : Below w0.heap.size w0 w) : OwnV w0 t k (.slice none 0 0) 0 [] w := ⟨World.ownsRow_nil _ _ _ _, h⟩
theorem held_own {w0 w : World} {t : TypeId} {k n : Nat} {v : Value} {cs : List Value} (h : OwnV w0 t k v n cs w) : Held w v k n cs := held_row h.1
theorem held_mask {w0 w : World} {t : TypeId} {k n m : Nat} {v : Value} {cs : List Value} (h : OwnV w0 t k v n cs w) (hm : m ≤ w0.heap.size) : Held (mask (fun x => x < m) w) v k n cs := by
  obtain ⟨hl, ao, cap, rfl, h0, hcp, hc⟩ := held_own h
  refine ⟨hl, ao, cap, rfl, h0, hcp, fun hne => ?_⟩
  obtain ⟨b, off, rfl, hlt, hcell⟩ := hc hne
  have hb : w0.heap.size ≤ b := (h.1.lt b rfl).1
  exact ⟨b, off, rfl, by rw [mask_size]; exact hlt, fun j u hj => by rw [mask_cell w (show ¬ (⟨b, off + j, none⟩ : Addr).block < m by show ¬ b < m; omega)]; exact hcell j u hj⟩
/-- elements appended to a row -/
theorem appRow {ops : Array Oper} {rest : List Oper} {o : Oper} {a : Act} {Q : Exit → Act → World → Prop} {wr : World} (hgd : o.guard = none) (s z : Operand) (st t : TypeId) (zv : Value) (k nb : Nat)
    (hus : Try.prog.underlying st = some (.slice t)) (hinfo : (Try.prog.info? t).map (fun i => (i.zero, i.size, i.bytes)) = some (some zv, k, nb)) (hzc : zv.cells.size = k) (hk : 0 < k)
    (ho : o.op = .call { callee := .builtin .append, args := #[s, z], argTypes := #[st, st] }) (base : Nat) (v : Value) (n : Nat) (cs : List Value) (hs : a.eval s = v) (hbase : base ≤ wr.heap.size) (hown : wr.ownsRow base t k v n cs)
    (u : Value) (m : Nat) (ds : List Value) (hz : a.eval z = u) (hu : Held wr u k m ds) (h1 : ∀ x ∈ ds, x.oneCell' = true) (hnm : n + m ≤ maxLen) (hlen : (n + m) * nb ≤ 140737488355328)
    (h : ∀ v' w', w'.ownsRow base t k v' (n + m) (cs ++ ds) → wr.grownBy w' v.ownBlock → wpList Try.prog ops Q rest (a.put o.dst v') w') : wpList Try.prog ops Q (o :: rest) a wr := by
  obtain ⟨i0, hi, hz0, hz1, hz2⟩ := info_parts hinfo
  obtain ⟨hl, ao, cap, rfl, h0, hcp, hc⟩ := hu
  have key : ∀ (ad : Addr), ao = some ad → (∀ j x, ds[j]? = some x → wr.cell? (ad.add j) = some x) → wpList Try.prog ops Q (o :: rest) a wr := by
    intro ad e hnews
    subst e
    refine wpList_append_own _ hgd s z st ho base t i0 zv k nb hus hi hz0 hz1 hz2 hzc hk v n cs hs hown ad m cap ds hz hl hnews h1 hnm hlen hbase ?_
    intro v' w' g1 g2 _
    exact h v' w' g1 g2
  by_cases hm : m = 0
  · subst hm
    have hd : ds = [] := List.eq_nil_of_length_eq_zero (by omega)
    subst hd
    cases ao with
    | none =>
      obtain rfl := h0 rfl
      refine wpList_append_own_none hgd s z st ho base t i0 k hus hi v n cs hs hown hz ?_
      exact h v wr (by rw [List.append_nil]; exact hown) ⟨rfl, rfl, rfl, Nat.le_refl _, fun _ _ _ => rfl⟩
    | some ad => exact key ad rfl (fun j x hj => by simp at hj)
  · obtain ⟨b, off, rfl, hlt, hcell⟩ := hc (by omega)
    refine key ⟨b, off, none⟩ rfl (fun j x hj => ?_)
    have e : (⟨b, off, none⟩ : Addr).add j = ⟨b, off + j, none⟩ := Go.WideShapes.add_plain _ _ _
    rw [e]
    exact hcell j x hj
theorem appHeld {ops : Array Oper} {rest : List Oper} {o : Oper} {a : Act} {Q : Exit → Act → World → Prop} {wr : World} (hgd : o.guard = none) (s z : Operand) (st t : TypeId) (zv : Value) (k nb : Nat)
    (hus : Try.prog.underlying st = some (.slice t)) (hinfo : (Try.prog.info? t).map (fun i => (i.zero, i.size, i.bytes)) = some (some zv, k, nb)) (hzc : zv.cells.size = k) (hk : 0 < k)
    (ho : o.op = .call { callee := .builtin .append, args := #[s, z], argTypes := #[st, st] }) (w0 : World) (v : Value) (n : Nat) (cs : List Value) (hs : a.eval s = v) (hown : OwnV w0 t k v n cs wr)
    (u : Value) (m : Nat) (ds : List Value) (hz : a.eval z = u) (hu : Held wr u k m ds) (h1 : ∀ x ∈ ds, x.oneCell' = true) (hnm : n + m ≤ maxLen) (hlen : (n + m) * nb ≤ 140737488355328)
    (h : ∀ v' w', OwnV w0 t k v' (n + m) (cs ++ ds) w' → wr.grownBy w' v.ownBlock → wpList Try.prog ops Q rest (a.put o.dst v') w') : wpList Try.prog ops Q (o :: rest) a wr := by
  have hsz := hown.2.size
  refine appRow hgd s z st t zv k nb hus hinfo hzc hk ho w0.heap.size v n cs hs hsz hown.1 u m ds hz hu h1 hnm hlen ?_
  intro v' w' g1 g2
  exact h v' w' ⟨g1, Below.grown hown.2 g2 (by omega) (fun k hk => (hown.1.lt k hk).1)⟩ g2
/-- a block beside a row that was appended to -/
theorem blk_grownR {b base : Nat} {W W' : World} {vs : List Value} {row : Option Nat} (h : Blk b W vs) (hg : W.grownBy W' row) (hr : ∀ k, row = some k → base ≤ k) (hb : b < base) : Blk b W' vs := by
  have e := hg.block b h.2 (fun e => by have := hr b e.symm; omega)
  exact ⟨fun i hi => ⟨by rw [World.cell?_of_block (w := W) (a := ⟨b, i, none⟩) e]; exact (h.1 i hi).1, by rw [World.frozen?_of_block (w := W) (a := ⟨b, i, none⟩) e]; exact (h.1 i hi).2⟩, Nat.lt_of_lt_of_le h.2 hg.size⟩
/-! names and their numbers -/
def cellsNm : NL → List Value
  | [] => []
  | p :: r => S p.1 :: .int .i64 (p.2 : Int) :: cellsNm r
theorem cellsNm_len (l : NL) : (cellsNm l).length = l.length * 2 := by
  induction l with
  | nil => rfl
  | cons p r ih => simp only [cellsNm, List.length_cons, ih]; omega
theorem cellsNm_app (a b : NL) : cellsNm (a ++ b) = cellsNm a ++ cellsNm b := by
  induction a with
  | nil => rfl
  | cons p r ih => simp only [List.cons_append, cellsNm, ih]
theorem cellsNm_at : ∀ (l : NL) (j : Nat) (h : j < l.length), (cellsNm l)[j * 2]? = some (S l[j].1) ∧ (cellsNm l)[j * 2 + 1]? = some (.int .i64 (l[j].2 : Int)) := by
  intro l
  induction l with
  | nil => intro j h; cases h
  | cons p r ih =>
    intro j h
    cases j with
    | zero => exact ⟨rfl, rfl⟩
    | succ j =>
      have := ih j (by simpa using h)
      have e : (j + 1) * 2 = j * 2 + 2 := by omega
      rw [e]
      exact this
theorem cellsNm_one (l : NL) : ∀ x ∈ cellsNm l, x.oneCell' = true := by
  induction l with
  | nil => intro x h; cases h
  | cons p r ih =>
    intro x h
    rcases List.mem_cons.1 h with rfl | h
    · rfl
    · rcases List.mem_cons.1 h with rfl | h
      · rfl
      · exact ih x h
def HoldsNm (w : World) (v : Value) (l : NL) : Prop := Held w v 2 l.length (cellsNm l)
theorem holdsNm_mono {w w' : World} {v : Value} {l : NL} (h : HoldsNm w v l) (hb : Below w.heap.size w w') : HoldsNm w' v l := held_mono h hb
theorem nm_open {w : World} {ao : Option Addr} {n c : Nat} {l : NL} (h : HoldsNm w (.slice ao n c) l) : n = l.length ∧ n ≤ c ∧ (ao = none → c = 0) ∧ (0 < n → ∃ b off, ao = some ⟨b, off, none⟩ ∧ b < w.heap.size ∧ ∀ j (h : j < l.length), w.cell? ⟨b, off + j * 2, none⟩ = some (S l[j].1) ∧ w.cell? ⟨b, off + j * 2 + 1, none⟩ = some (.int .i64 (l[j].2 : Int))) := by
  obtain ⟨hl, ao', cap, e, h0, hcp, hc⟩ := h
  simp only [Value.slice.injEq] at e
  obtain ⟨rfl, rfl, rfl⟩ := e
  refine ⟨rfl, hcp, h0, fun hp => ?_⟩
  obtain ⟨b, off, rfl, hlt, hcell⟩ := hc hp
  refine ⟨b, off, rfl, hlt, fun j hj => ?_⟩
  obtain ⟨e1, e2⟩ := cellsNm_at l j hj
  exact ⟨hcell _ _ e1, hcell _ _ e2⟩
theorem nm_slice {w : World} {v : Value} {l : NL} (h : HoldsNm w v l) : ∃ ao c, v = .slice ao l.length c := by
  obtain ⟨_, ao, cap, e, _⟩ := h
  exact ⟨ao, cap, e⟩
/-! lists of slices -/
def HeldL {α : Type} (R : World → Value → α → Prop) (w : World) (v : Value) (xs : List α) : Prop :=
  ∃ vs : List Value, Held w v 1 vs.length vs ∧ vs.length = xs.length ∧ ∀ (i : Nat) (u : Value) (x : α), vs[i]? = some u → xs[i]? = some x → R w u x ∧ ∃ a n c, u = .slice a n c
theorem heldL_mono {α : Type} {R : World → Value → α → Prop} (hR : ∀ w w' u x, R w u x → Below w.heap.size w w' → R w' u x) {w w' : World} {v : Value} {xs : List α} (h : HeldL R w v xs) (hb : Below w.heap.size w w') : HeldL R w' v xs := by
  obtain ⟨vs, h1, h2, h3⟩ := h
  exact ⟨vs, held_mono h1 hb, h2, fun i u x e1 e2 => ⟨hR w w' u x (h3 i u x e1 e2).1 hb, (h3 i u x e1 e2).2⟩⟩
theorem heldL_nil {α : Type} (R : World → Value → α → Prop) (w : World) : HeldL R w (.slice none 0 0) ([] : List α) :=
  ⟨[], ⟨rfl, none, 0, rfl, fun _ => rfl, Nat.le_refl _, fun h => absurd h (Nat.lt_irrefl _)⟩, rfl, fun i u x e => by simp at e⟩
theorem heldL_slice {α : Type} {R : World → Value → α → Prop} {w : World} {v : Value} {xs : List α} (h : HeldL R w v xs) : ∃ ao c, v = .slice ao xs.length c := by
  obtain ⟨vs, ⟨_, ao, cap, e, _⟩, h2, _⟩ := h
  exact ⟨ao, cap, by rw [e, h2]⟩
theorem heldL_at {α : Type} {R : World → Value → α → Prop} {w : World} {ao : Option Addr} {n c : Nat} {xs : List α} (h : HeldL R w (.slice ao n c) xs) (j : Nat) (hj : j < xs.length) : n = xs.length ∧ ∃ b off, ao = some ⟨b, off, none⟩ ∧ b < w.heap.size ∧ ∃ ua un uc, w.cell? ⟨b, off + j, none⟩ = some (.slice ua un uc) ∧ R w (.slice ua un uc) xs[j] := by
  obtain ⟨vs, ⟨_, ao', cap, e, _, _, hc⟩, h2, h3⟩ := h
  simp only [Value.slice.injEq] at e
  obtain ⟨rfl, rfl, rfl⟩ := e
  refine ⟨h2, ?_⟩
  obtain ⟨b, off, rfl, hlt, hcell⟩ := hc (by omega)
  have hj' : j < vs.length := by omega
  obtain ⟨r, ua, un, uc, hu⟩ := h3 j vs[j] xs[j] (by simp [hj']) (by simp [hj])
  refine ⟨b, off, rfl, hlt, ua, un, uc, ?_, by rw [← hu]; exact r⟩
  rw [← hu]
  exact hcell j _ (by simp [hj'])
end Go.Proofs.Ytbpegpklbenblaa
