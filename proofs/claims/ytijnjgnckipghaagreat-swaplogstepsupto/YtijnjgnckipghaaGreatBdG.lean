/- Rows of whatever cells: what a slice holds, rows that a call itself made, appended to. The document's disk as a value; the contract of its Down. The contract of the document's Good. The contracts of the document's At and Used. The contracts of the document's named and renamed. The contract of the document's renamed; a slice's cell written, a slice's cells read by another world. Plain: a step in the document's words, by its answers; three blocks of a step, and its end. Lists of slices, one more appended or one put in another's place, in the words of what they hold. Plain: what the steps do; rows of numbers and of slices, a cell of them written. Rows of bytes as cells. The contracts of the document's Read and List. -/
import Derived.Test.YtijnjgnckipghaaGreatBdB
namespace Go.Proofs.YtijnjgnckipghaaGreat
open Go.RowKit
/-- v is a slice of n elements, k cells each, that hold cs -/
def Held (w : World) (v : Value) (k n : Nat) (cs : List Value) : Prop :=
  cs.length = n * k ∧ ∃ ao cap, v = .slice ao n cap ∧ (ao = none → cap = 0) ∧ n ≤ cap ∧ (0 < n → ∃ b off, ao = some ⟨b, off, none⟩ ∧ b < w.heap.size ∧ ∀ j u, cs[j]? = some u → w.cell? ⟨b, off + j, none⟩ = some u)
theorem held_mono {w w' : World} {v : Value} {k n : Nat} {cs : List Value} (h : Held w v k n cs) (hb : Below w.heap.size w w') : Held w' v k n cs := by
  obtain ⟨hl, ao, cap, rfl, h0, hcp, hc⟩ := h
  refine ⟨hl, ao, cap, rfl, h0, hcp, fun hne => ?_⟩
  obtain ⟨b, off, rfl, hlt, hcell⟩ := hc hne
  exact ⟨b, off, rfl, Nat.lt_of_lt_of_le hlt hb.size, fun j u hj => by rw [hb.cell (p := ⟨b, off + j, none⟩) hlt]; exact hcell j u hj⟩
theorem held_sub {M W : World} (h : Sub M W) {v : Value} {k n : Nat} {cs : List Value} (hb : Held M v k n cs) : Held W v k n cs := by
  obtain ⟨hl, ao, cap, rfl, h0, hcp, hc⟩ := hb
  refine ⟨hl, ao, cap, rfl, h0, hcp, fun hne => ?_⟩
  obtain ⟨b, off, rfl, hlt, hcell⟩ := hc hne
  exact ⟨b, off, rfl, Nat.lt_of_lt_of_le hlt h.size, fun j u hj => h.cell _ _ (hcell j u hj)⟩
theorem held_row {w : World} {base : Nat} {t : TypeId} {v : Value} {k n : Nat} {cs : List Value} (h : w.ownsRow base t k v n cs) : Held w v k n cs := by
  refine ⟨h.1, ?_⟩
  obtain ⟨hl, h1 | ⟨g, cap, cur, rfl, hg, hh, hr⟩⟩ := id h
  · obtain ⟨rfl, rfl⟩ := h1
    exact ⟨none, 0, rfl, fun _ => rfl, Nat.le_refl _, fun h => absurd h (Nat.lt_irrefl _)⟩
  · refine ⟨_, cap, rfl, fun e => (by cases e), hr.1, fun _ => ⟨g, 0, rfl, (h.lt g rfl).2, fun j u hj => ?_⟩⟩
    have hj' : j < n * k := by rw [← hl]; exact (List.getElem?_eq_some_iff.1 hj).1
    rw [Nat.zero_add, h.cellAt j hj']
    exact hj
theorem held_lit (w : World) (cs : Array Value) (t : TypeId) (k n : Nat) (h : cs.size = n * k) : Held (w.alloc (.cells cs t)) (.slice (some ⟨w.heap.size, 0, none⟩) n n) k n cs.toList := by
  refine ⟨by simpa using h, _, n, rfl, fun e => (by cases e), Nat.le_refl _, fun _ => ⟨w.heap.size, 0, rfl, by simp, fun j u hj => ?_⟩⟩
  unfold World.cell?
  rw [heap_alloc_new]
  rw [Array.getElem?_toList] at hj
  simp [hj]
/-- a row of the call's own; what lay below is as it was -/
def OwnV (w0 : World) (t : TypeId) (k : Nat) (v : Value) (n : Nat) (cs : List Value) (w : World) : Prop := w.ownsRow w0.heap.size t k v n cs ∧ Below w0.heap.size w0 w
theorem ownV_below {w0 w w' : World} {t : TypeId} {k n : Nat} {v : Value} {cs : List Value} (h : OwnV w0 t k v n cs w) (hb : Below w.heap.size w w') : OwnV w0 t k v n cs w' := ⟨row_below h.1 hb, h.2.trans (hb.mono h.2.size)⟩
theorem ownV_empty (w0 : World) (t : TypeId) (k : Nat) : OwnV w0 t k (.slice (some ⟨w0.heap.size, 0, none⟩) 0 0) 0 [] (w0.alloc (.cells #[] t)) :=
  ⟨World.ownsRow_lit w0 #[] 0 (Nat.le_refl _) (by unfold maxLen; omega) (by simp), (Below.refl _ _).alloc (Nat.le_refl _) _⟩
theorem ownV_nil (w0 w : World) (t : TypeId) (k : Nat) (h : Below w0.heap.size w0 w) : OwnV w0 t k (.slice none 0 0) 0 [] w := ⟨World.ownsRow_nil _ _ _ _, h⟩
theorem held_own {w0 w : World} {t : TypeId} {k n : Nat} {v : Value} {cs : List Value} (h : OwnV w0 t k v n cs w) : Held w v k n cs := held_row h.1
theorem held_mask {w0 w : World} {t : TypeId} {k n m : Nat} {v : Value} {cs : List Value} (h : OwnV w0 t k v n cs w) (hm : m ≤ w0.heap.size) : Held (mask (fun x => x < m) w) v k n cs := by
  obtain ⟨hl, ao, cap, rfl, h0, hcp, hc⟩ := held_own h
  refine ⟨hl, ao, cap, rfl, h0, hcp, fun hne => ?_⟩
  obtain ⟨b, off, rfl, hlt, hcell⟩ := hc hne
  have hb : w0.heap.size ≤ b := (h.1.lt b rfl).1
  exact ⟨b, off, rfl, by rw [mask_size]; exact hlt, fun j u hj => by rw [mask_cell w (show ¬ (⟨b, off + j, none⟩ : Addr).block < m by show ¬ b < m; omega)]; exact hcell j u hj⟩
/-- elements appended to a row -/
theorem appRow {ops : Array Oper} {rest : List Oper} {o : Oper} {a : Act} {Q : Exit → Act → World → Prop} {wr : World} (hgd : o.guard = none) (s z : Operand) (st t : TypeId) (zv : Value) (k nb : Nat)
    (hus : Tryz.prog.underlying st = some (.slice t)) (hinfo : (Tryz.prog.info? t).map (fun i => (i.zero, i.size, i.bytes)) = some (some zv, k, nb)) (hzc : zv.cells.size = k) (hk : 0 < k)
    (ho : o.op = .call { callee := .builtin .append, args := #[s, z], argTypes := #[st, st] }) (base : Nat) (v : Value) (n : Nat) (cs : List Value) (hs : a.eval s = v) (hbase : base ≤ wr.heap.size) (hown : wr.ownsRow base t k v n cs)
    (u : Value) (m : Nat) (ds : List Value) (hz : a.eval z = u) (hu : Held wr u k m ds) (h1 : ∀ x ∈ ds, x.oneCell' = true) (hnm : n + m ≤ maxLen) (hlen : (n + m) * nb ≤ 140737488355328)
    (h : ∀ v' w', w'.ownsRow base t k v' (n + m) (cs ++ ds) → wr.grownBy w' v.ownBlock → wpList Tryz.prog ops Q rest (a.put o.dst v') w') : wpList Tryz.prog ops Q (o :: rest) a wr := by
  obtain ⟨i0, hi, hz0, hz1, hz2⟩ := info_parts hinfo
  obtain ⟨hl, ao, cap, rfl, h0, hcp, hc⟩ := hu
  have key : ∀ (ad : Addr), ao = some ad → (∀ j x, ds[j]? = some x → wr.cell? (ad.add j) = some x) → wpList Tryz.prog ops Q (o :: rest) a wr := by
    intro ad e hnews
    subst e
    refine wpList_append_own _ hgd s z st ho base t i0 zv k nb hus hi hz0 hz1 hz2 hzc hk v n cs hs hown ad m cap ds hz hl hnews h1 hnm hlen hbase ?_
    intro v' w' g1 g2 _
    exact h v' w' g1 g2
  by_cases hm : m = 0
  · subst hm
    have hd : ds = [] := List.eq_nil_of_length_eq_zero (by omega)
    subst hd
    cases ao with
    | none =>
      obtain rfl := h0 rfl
      refine wpList_append_own_none hgd s z st ho base t i0 k hus hi v n cs hs hown hz ?_
      exact h v wr (by rw [List.append_nil]; exact hown) ⟨rfl, rfl, rfl, Nat.le_refl _, fun _ _ _ => rfl⟩
    | some ad => exact key ad rfl (fun j x hj => by simp at hj)
  · obtain ⟨b, off, rfl, hlt, hcell⟩ := hc (by omega)
    refine key ⟨b, off, none⟩ rfl (fun j x hj => ?_)
    have e : (⟨b, off, none⟩ : Addr).add j = ⟨b, off + j, none⟩ := Go.WideShapes.add_plain _ _ _
    rw [e]
    exact hcell j x hj
theorem appHeld {ops : Array Oper} {rest : List Oper} {o : Oper} {a : Act} {Q : Exit → Act → World → Prop} {wr : World} (hgd : o.guard = none) (s z : Operand) (st t : TypeId) (zv : Value) (k nb : Nat)
    (hus : Tryz.prog.underlying st = some (.slice t)) (hinfo : (Tryz.prog.info? t).map (fun i => (i.zero, i.size, i.bytes)) = some (some zv, k, nb)) (hzc : zv.cells.size = k) (hk : 0 < k)
    (ho : o.op = .call { callee := .builtin .append, args := #[s, z], argTypes := #[st, st] }) (w0 : World) (v : Value) (n : Nat) (cs : List Value) (hs : a.eval s = v) (hown : OwnV w0 t k v n cs wr)
    (u : Value) (m : Nat) (ds : List Value) (hz : a.eval z = u) (hu : Held wr u k m ds) (h1 : ∀ x ∈ ds, x.oneCell' = true) (hnm : n + m ≤ maxLen) (hlen : (n + m) * nb ≤ 140737488355328)
    (h : ∀ v' w', OwnV w0 t k v' (n + m) (cs ++ ds) w' → wr.grownBy w' v.ownBlock → wpList Tryz.prog ops Q rest (a.put o.dst v') w') : wpList Tryz.prog ops Q (o :: rest) a wr := by
  have hsz := hown.2.size
  refine appRow hgd s z st t zv k nb hus hinfo hzc hk ho w0.heap.size v n cs hs hsz hown.1 u m ds hz hu h1 hnm hlen ?_
  intro v' w' g1 g2
  exact h v' w' ⟨g1, Below.grown hown.2 g2 (by omega) (fun k hk => (hown.1.lt k hk).1)⟩ g2
/-- a block beside a row that was appended to -/
theorem blk_grownR {b base : Nat} {W W' : World} {vs : List Value} {row : Option Nat} (h : Blk b W vs) (hg : W.grownBy W' row) (hr : ∀ k, row = some k → base ≤ k) (hb : b < base) : Blk b W' vs := by
  have e := hg.block b h.2 (fun e => by have := hr b e.symm; omega)
  exact ⟨fun i hi => ⟨by rw [World.cell?_of_block (w := W) (a := ⟨b, i, none⟩) e]; exact (h.1 i hi).1, by rw [World.frozen?_of_block (w := W) (a := ⟨b, i, none⟩) e]; exact (h.1 i hi).2⟩, Nat.lt_of_lt_of_le h.2 hg.size⟩
/-! names and their numbers -/
def cellsNm : NL → List Value
  | [] => []
  | p :: r => S p.1 :: .int .i64 (p.2 : Int) :: cellsNm r
theorem cellsNm_len (l : NL) : (cellsNm l).length = l.length * 2 := by
  induction l with
  | nil => rfl
  | cons p r ih => simp only [cellsNm, List.length_cons, ih]; omega
theorem cellsNm_app (a b : NL) : cellsNm (a ++ b) = cellsNm a ++ cellsNm b := by
  induction a with
  | nil => rfl
  | cons p r ih => simp only [List.cons_append, cellsNm, ih]
theorem cellsNm_at : ∀ (l : NL) (j : Nat) (h : j < l.length), (cellsNm l)[j * 2]? = some (S l[j].1) ∧ (cellsNm l)[j * 2 + 1]? = some (.int .i64 (l[j].2 : Int)) := by
  intro l
  induction l with
  | nil => intro j h; cases h
  | cons p r ih =>
    intro j h
    cases j with
    | zero => exact ⟨rfl, rfl⟩
    | succ j =>
      have := ih j (by simpa using h)
      have e : (j + 1) * 2 = j * 2 + 2 := by omega
      rw [e]
      exact this
theorem cellsNm_one (l : NL) : ∀ x ∈ cellsNm l, x.oneCell' = true := by
  induction l with
  | nil => intro x h; cases h
  | cons p r ih =>
    intro x h
    rcases List.mem_cons.1 h with rfl | h
    · rfl
    · rcases List.mem_cons.1 h with rfl | h
      · rfl
      · exact ih x h
def HoldsNm (w : World) (v : Value) (l : NL) : Prop := Held w v 2 l.length (cellsNm l)
theorem holdsNm_mono {w w' : World} {v : Value} {l : NL} (h : HoldsNm w v l) (hb : Below w.heap.size w w') : HoldsNm w' v l := held_mono h hb
theorem nm_open {w : World} {ao : Option Addr} {n c : Nat} {l : NL} (h : HoldsNm w (.slice ao n c) l) : n = l.length ∧ n ≤ c ∧ (ao = none → c = 0) ∧ (0 < n → ∃ b off, ao = some ⟨b, off, none⟩ ∧ b < w.heap.size ∧ ∀ j (h : j < l.length), w.cell? ⟨b, off + j * 2, none⟩ = some (S l[j].1) ∧ w.cell? ⟨b, off + j * 2 + 1, none⟩ = some (.int .i64 (l[j].2 : Int))) := by
  obtain ⟨hl, ao', cap, e, h0, hcp, hc⟩ := h
  simp only [Value.slice.injEq] at e
  obtain ⟨rfl, rfl, rfl⟩ := e
  refine ⟨rfl, hcp, h0, fun hp => ?_⟩
  obtain ⟨b, off, rfl, hlt, hcell⟩ := hc hp
  refine ⟨b, off, rfl, hlt, fun j hj => ?_⟩
  obtain ⟨e1, e2⟩ := cellsNm_at l j hj
  exact ⟨hcell _ _ e1, hcell _ _ e2⟩
theorem nm_slice {w : World} {v : Value} {l : NL} (h : HoldsNm w v l) : ∃ ao c, v = .slice ao l.length c := by
  obtain ⟨_, ao, cap, e, _⟩ := h
  exact ⟨ao, cap, e⟩
/-! lists of slices -/
def HeldL {α : Type} (R : World → Value → α → Prop) (w : World) (v : Value) (xs : List α) : Prop :=
  ∃ vs : List Value, Held w v 1 vs.length vs ∧ vs.length = xs.length ∧ ∀ (i : Nat) (u : Value) (x : α), vs[i]? = some u → xs[i]? = some x → R w u x ∧ ∃ a n c, u = .slice a n c
theorem heldL_mono {α : Type} {R : World → Value → α → Prop} (hR : ∀ w w' u x, R w u x → Below w.heap.size w w' → R w' u x) {w w' : World} {v : Value} {xs : List α} (h : HeldL R w v xs) (hb : Below w.heap.size w w') : HeldL R w' v xs := by
  obtain ⟨vs, h1, h2, h3⟩ := h
  exact ⟨vs, held_mono h1 hb, h2, fun i u x e1 e2 => ⟨hR w w' u x (h3 i u x e1 e2).1 hb, (h3 i u x e1 e2).2⟩⟩
theorem heldL_nil {α : Type} (R : World → Value → α → Prop) (w : World) : HeldL R w (.slice none 0 0) ([] : List α) :=
  ⟨[], ⟨rfl, none, 0, rfl, fun _ => rfl, Nat.le_refl _, fun h => absurd h (Nat.lt_irrefl _)⟩, rfl, fun i u x e => by simp at e⟩
theorem heldL_slice {α : Type} {R : World → Value → α → Prop} {w : World} {v : Value} {xs : List α} (h : HeldL R w v xs) : ∃ ao c, v = .slice ao xs.length c := by
  obtain ⟨vs, ⟨_, ao, cap, e, _⟩, h2, _⟩ := h
  exact ⟨ao, cap, by rw [e, h2]⟩
theorem heldL_at {α : Type} {R : World → Value → α → Prop} {w : World} {ao : Option Addr} {n c : Nat} {xs : List α} (h : HeldL R w (.slice ao n c) xs) (j : Nat) (hj : j < xs.length) : n = xs.length ∧ ∃ b off, ao = some ⟨b, off, none⟩ ∧ b < w.heap.size ∧ ∃ ua un uc, w.cell? ⟨b, off + j, none⟩ = some (.slice ua un uc) ∧ R w (.slice ua un uc) xs[j] := by
  obtain ⟨vs, ⟨_, ao', cap, e, _, _, hc⟩, h2, h3⟩ := h
  simp only [Value.slice.injEq] at e
  obtain ⟨rfl, rfl, rfl⟩ := e
  refine ⟨h2, ?_⟩
  obtain ⟨b, off, rfl, hlt, hcell⟩ := hc (by omega)
  have hj' : j < vs.length := by omega
  obtain ⟨r, ua, un, uc, hu⟩ := h3 j vs[j] xs[j] (by simp [hj']) (by simp [hj])
  refine ⟨b, off, rfl, hlt, ua, un, uc, ?_, by rw [← hu]; exact r⟩
  rw [← hu]
  exact hcell j _ (by simp [hj'])
end Go.Proofs.YtijnjgnckipghaaGreat
namespace Go.Proofs.YtijnjgnckipghaaGreat
open Go.RowKit
structure Sl where
  a : Option Addr
  n : Nat
  c : Nat
def Sl.v (x : Sl) : Value := .slice x.a x.n x.c
/-- the document's disk as its parts -/
structure RefV (w : World) (x0 x1 x2 x3 x4 x6 : Sl) (s : Dk) : Prop where
  now : HoldsNm w x0.v s.now
  safe : HoldsNm w x1.v s.safe
  pend : HeldL HoldsNm w x2.v s.pend
  data : HeldL HoldsB w x3.v s.data
  firm : HoldsI w x4.v (s.firm.map (fun n : Nat => (n : Int)))
  fails : HoldsI w x6.v s.fails
theorem refV_mono {w w' : World} {x0 x1 x2 x3 x4 x6 : Sl} {s : Dk} (h : RefV w x0 x1 x2 x3 x4 x6 s) (hb : Below w.heap.size w w') : RefV w' x0 x1 x2 x3 x4 x6 s :=
  ⟨held_mono h.now hb, held_mono h.safe hb, heldL_mono (R := HoldsNm) (fun _ _ _ _ h hb => held_mono h hb) h.pend hb, heldL_mono (R := HoldsB) (fun _ _ _ _ h hb => holdsB_mono h hb) h.data hb, holdsI_mono h.firm hb, holdsI_mono h.fails hb⟩
theorem heldL_sub {α : Type} {R : World → Value → α → Prop} (hR : ∀ w w' u x, R w u x → Sub w w' → R w' u x) {w w' : World} {v : Value} {xs : List α} (h : HeldL R w v xs) (hb : Sub w w') : HeldL R w' v xs := by
  obtain ⟨vs, h1, h2, h3⟩ := h
  exact ⟨vs, held_sub hb h1, h2, fun i u x e1 e2 => ⟨hR w w' u x (h3 i u x e1 e2).1 hb, (h3 i u x e1 e2).2⟩⟩
theorem refV_sub {w w' : World} {x0 x1 x2 x3 x4 x6 : Sl} {s : Dk} (h : RefV w x0 x1 x2 x3 x4 x6 s) (hb : Sub w w') : RefV w' x0 x1 x2 x3 x4 x6 s :=
  ⟨held_sub hb h.now, held_sub hb h.safe, heldL_sub (R := HoldsNm) (fun _ _ _ _ h hb => held_sub hb h) h.pend hb, heldL_sub (R := HoldsB) (fun _ _ _ _ h hb => holdsB_sub hb h) h.data hb, holdsI_sub hb h.firm, holdsI_sub hb h.fails⟩
def stV (x0 x1 x2 x3 x4 x6 : Sl) (room power : Int) (n : Nat) : Value :=
  .agg #[.slice x0.a x0.n x0.c, .slice x1.a x1.n x1.c, .slice x2.a x2.n x2.c, .slice x3.a x3.n x3.c, .slice x4.a x4.n x4.c, .int .i64 room, .slice x6.a x6.n x6.c, .int .i64 power, .int .i64 (n : Int)]
/-- v is the document's disk s -/
def RefS (w : World) (v : Value) (s : Dk) : Prop := ∃ x0 x1 x2 x3 x4 x6, v = stV x0 x1 x2 x3 x4 x6 s.room s.power s.n ∧ RefV w x0 x1 x2 x3 x4 x6 s
theorem refS_mono {w w' : World} {v : Value} {s : Dk} (h : RefS w v s) (hb : Below w.heap.size w w') : RefS w' v s := by
  obtain ⟨x0, x1, x2, x3, x4, x6, e, h⟩ := h
  exact ⟨x0, x1, x2, x3, x4, x6, e, refV_mono h hb⟩
theorem cells_9 {b : Nat} {W : World} {v0 v1 v2 v3 v4 v5 v6 v7 v8 : Value} (h : Blk b W [v0, v1, v2, v3, v4, v5, v6, v7, v8]) : W.cell? ⟨b, 0, none⟩ = some v0 ∧ W.cell? ⟨b, 1, none⟩ = some v1 ∧ W.cell? ⟨b, 2, none⟩ = some v2 ∧ W.cell? ⟨b, 3, none⟩ = some v3 ∧ W.cell? ⟨b, 4, none⟩ = some v4 ∧ W.cell? ⟨b, 5, none⟩ = some v5 ∧ W.cell? ⟨b, 6, none⟩ = some v6 ∧ W.cell? ⟨b, 7, none⟩ = some v7 ∧ W.cell? ⟨b, 8, none⟩ = some v8 :=
  ⟨(h.1 0 (by simp)).1, (h.1 1 (by simp)).1, (h.1 2 (by simp)).1, (h.1 3 (by simp)).1, (h.1 4 (by simp)).1, (h.1 5 (by simp)).1, (h.1 6 (by simp)).1, (h.1 7 (by simp)).1, (h.1 8 (by simp)).1⟩
theorem cells_9f {b : Nat} {W : World} {v0 v1 v2 v3 v4 v5 v6 v7 v8 : Value} (h : Blk b W [v0, v1, v2, v3, v4, v5, v6, v7, v8]) : W.frozen? ⟨b, 0, none⟩ = false ∧ W.frozen? ⟨b, 1, none⟩ = false ∧ W.frozen? ⟨b, 2, none⟩ = false ∧ W.frozen? ⟨b, 3, none⟩ = false ∧ W.frozen? ⟨b, 4, none⟩ = false ∧ W.frozen? ⟨b, 5, none⟩ = false ∧ W.frozen? ⟨b, 6, none⟩ = false ∧ W.frozen? ⟨b, 7, none⟩ = false ∧ W.frozen? ⟨b, 8, none⟩ = false :=
  ⟨(h.1 0 (by simp)).2, (h.1 1 (by simp)).2, (h.1 2 (by simp)).2, (h.1 3 (by simp)).2, (h.1 4 (by simp)).2, (h.1 5 (by simp)).2, (h.1 6 (by simp)).2, (h.1 7 (by simp)).2, (h.1 8 (by simp)).2⟩
set_option maxRecDepth 20000 in
set_option maxHeartbeats 1000000 in
theorem downRC {w : World} {v : Value} {s : Dk} (h : RefS w v s) : Calls Tryz.prog 62 #[v] w fun e w' => e = .returned (.bool s.down) ∧ Below w.heap.size w w' := by
  obtain ⟨x0, x1, x2, x3, x4, x6, rfl, h⟩ := h
  clear h
  unfold stV
  by_cases hp : 0 ≤ s.power
  · by_cases hn : (s.n : Int) = s.power
    · have D : Hid (s.down = true) := by unfold Hid Dk.down; rw [decide_eq_true_iff]; exact ⟨hp, hn⟩
      have q1 : decide (0 ≤ s.power) = true := by simpa using hp
      have q2 : ((s.n : Int) == s.power) = true := by simpa using hn
      generalize (s.n : Int) = a at q2
      generalize s.power = p at q1 q2
      generalize s.room = r
      clear hp hn
      go_enter Tryz.func62, Tryz.ntmps62
      go_wp2_with fail
      go_ret
      rw [D.out]
      exact ⟨rfl, below_alloc' _ _⟩
    · have D : Hid (s.down = false) := by unfold Hid Dk.down; rw [decide_eq_false_iff_not]; exact fun h => hn h.2
      have q1 : decide (0 ≤ s.power) = true := by simpa using hp
      have q2 : ((s.n : Int) == s.power) = false := by simpa using hn
      generalize (s.n : Int) = a at q2
      generalize s.power = p at q1 q2
      generalize s.room = r
      clear hp hn
      go_enter Tryz.func62, Tryz.ntmps62
      go_wp2_with fail
      go_ret
      rw [D.out]
      exact ⟨rfl, below_alloc' _ _⟩
  · have D : Hid (s.down = false) := by unfold Hid Dk.down; rw [decide_eq_false_iff_not]; exact fun h => hp h.1
    have q1 : decide (0 ≤ s.power) = false := by simpa using hp
    generalize (s.n : Int) = a
    generalize s.power = p at q1
    generalize s.room = r
    clear hp
    go_enter Tryz.func62, Tryz.ntmps62
    go_wp2_with fail
    go_ret
    rw [D.out]
    exact ⟨rfl, below_alloc' _ _⟩
def atI (l : NL) (nm : Nm) : Int := match atN l nm with | none => -1 | some k => (k : Int)
theorem at_out (l : NL) (nm : Nm) (h : ∀ p ∈ l, p.1 ≠ nm) : atI l nm = -1 := by
  unfold atI
  cases e : atN l nm with
  | none => rfl
  | some k => exact absurd rfl (h _ (at_some e))
theorem at_first (l : NL) (nm : Nm) (j : Nat) (hj : j < l.length) (h : ∀ p ∈ l.take j, p.1 ≠ nm) (e : l[j].1 = nm) : atI l nm = (l[j].2 : Int) := by
  have e1 : l = l.take j ++ l[j] :: l.drop (j + 1) := by rw [← List.drop_eq_getElem_cons hj, List.take_append_drop]
  have e2 : atN l nm = some l[j].2 := by
    unfold atN
    have : l.find? (fun p => decide (p.1 = nm)) = some l[j] := by
      conv => lhs; rw [e1]
      rw [List.find?_append]
      have h0 : (l.take j).find? (fun p => decide (p.1 = nm)) = none := by
        rw [List.find?_eq_none]
        intro p hp
        simpa using h p hp
      rw [h0, Option.none_or, List.find?_cons_of_pos (by simpa using e)]
    rw [this]
    rfl
  unfold atI
  rw [e2]
theorem mem_take_succ {α : Type} {l : List α} {j : Nat} (hj : j < l.length) {P : α → Prop} (h : ∀ p ∈ l.take j, P p) (hp : P l[j]) : ∀ p ∈ l.take (j + 1), P p := by
  intro p hm
  rw [List.take_succ_eq_append_getElem hj] at hm
  rcases List.mem_append.1 hm with hm | hm
  · exact h p hm
  · rw [List.mem_singleton.1 hm]; exact hp
theorem str_eq (a b : List UInt8) : ((⟨a.toArray⟩ : ByteArray).toList == (⟨b.toArray⟩ : ByteArray).toList) = decide (a = b) := by
  have ha : (⟨a.toArray⟩ : ByteArray).toList = a := by rw [Lib.toList_data]
  have hb : (⟨b.toArray⟩ : ByteArray).toList = b := by rw [Lib.toList_data]
  rw [ha, hb]
  by_cases h : a = b
  · rw [h]; simp
  · simp [h]
end Go.Proofs.YtijnjgnckipghaaGreat
namespace Go.Proofs.YtijnjgnckipghaaGreat
open Go.RowKit
set_option maxRecDepth 20000 in
set_option maxHeartbeats 1000000 in
theorem goodRC (s : ByteArray) (w : World) (hs : s.size ≤ 140737488351232) : Calls Tryz.prog 22 #[.string s] w fun e w' => e = .returned (.bool (goodN s.data.toList)) ∧ w' = w := by
  go_enter Tryz.func22, Tryz.ntmps22
  go_wp2_with fail
  go_loop [3, 4] (fun i _ => ∃ k : Nat, k ≤ s.size ∧ i = .int .i64 k ∧ Hid ((s.data.toList.take k).all goodC = true)) (fun i _ => s.size - (intOf i).toNat)
  case atStart => exact ⟨0, by omega, rfl, by unfold Hid; simp⟩
  case round =>
    obtain ⟨k, hk, rfl, ha⟩ := hrel
    by_cases hlt : k < s.size
    · have hb := byte_lt s[k]
      cases ht : goodI (s[k].toNat : Int) with
      | true =>
        have A := hide' (good_step s k hlt ht ha.out)
        have hc : (97 ≤ (s[k].toNat : Int) ∧ (s[k].toNat : Int) ≤ 122) ∨ ((s[k].toNat : Int) < 97 ∧ 48 ≤ (s[k].toNat : Int) ∧ (s[k].toNat : Int) ≤ 57) ∨ (s[k].toNat : Int) = 46 ∨ (s[k].toNat : Int) = 45 ∨ (s[k].toNat : Int) = 95 ∨ (s[k].toNat : Int) = 47 := by
          unfold goodI at ht
          rw [decide_eq_true_iff] at ht
          omega
        clear ht ha
        rcases hc with h1 | h1 | h1 | h1 | h1 | h1
        · have p1 : decide (97 ≤ (s[k].toNat : Int)) = true := by simp; omega
          have p2 : decide ((s[k].toNat : Int) ≤ 122) = true := by simp; omega
          clear h1
          go_wp2_with fail
          go_round
          case rel => exact ⟨k + 1, by omega, by go_num, A⟩
          case measure => simp [intOf]; omega
        · have p1 : decide (97 ≤ (s[k].toNat : Int)) = false := by simp; omega
          have p3 : decide (48 ≤ (s[k].toNat : Int)) = true := by simp; omega
          have p4 : decide ((s[k].toNat : Int) ≤ 57) = true := by simp; omega
          clear h1
          go_wp2_with fail
          go_round
          case rel => exact ⟨k + 1, by omega, by go_num, A⟩
          case measure => simp [intOf]; omega
        · have p1 : decide (97 ≤ (s[k].toNat : Int)) = false := by simp; omega
          have p3 : decide (48 ≤ (s[k].toNat : Int)) = false := by simp; omega
          have e46 : ((s[k].toNat : Int) == 46) = true := by simp; omega
          clear h1
          go_wp2_with fail
          go_round
          case rel => exact ⟨k + 1, by omega, by go_num, A⟩
          case measure => simp [intOf]; omega
        · have p1 : decide (97 ≤ (s[k].toNat : Int)) = false := by simp; omega
          have p3 : decide (48 ≤ (s[k].toNat : Int)) = false := by simp; omega
          have e46 : ((s[k].toNat : Int) == 46) = false := by simp; omega
          have e45 : ((s[k].toNat : Int) == 45) = true := by simp; omega
          clear h1
          go_wp2_with fail
          go_round
          case rel => exact ⟨k + 1, by omega, by go_num, A⟩
          case measure => simp [intOf]; omega
        · have p1 : decide (97 ≤ (s[k].toNat : Int)) = false := by simp; omega
          have p3 : decide (48 ≤ (s[k].toNat : Int)) = true := by simp; omega
          have p4 : decide ((s[k].toNat : Int) ≤ 57) = false := by simp; omega
          have e46 : ((s[k].toNat : Int) == 46) = false := by simp; omega
          have e45 : ((s[k].toNat : Int) == 45) = false := by simp; omega
          have e95 : ((s[k].toNat : Int) == 95) = true := by simp; omega
          clear h1
          go_wp2_with fail
          go_round
          case rel => exact ⟨k + 1, by omega, by go_num, A⟩
          case measure => simp [intOf]; omega
        · have p1 : decide (97 ≤ (s[k].toNat : Int)) = false := by simp; omega
          have p3 : decide (48 ≤ (s[k].toNat : Int)) = false := by simp; omega
          have e46 : ((s[k].toNat : Int) == 46) = false := by simp; omega
          have e45 : ((s[k].toNat : Int) == 45) = false := by simp; omega
          have e95 : ((s[k].toNat : Int) == 95) = false := by simp; omega
          have e47 : ((s[k].toNat : Int) == 47) = true := by simp; omega
          clear h1
          go_wp2_with fail
          go_round
          case rel => exact ⟨k + 1, by omega, by go_num, A⟩
          case measure => simp [intOf]; omega
      | false =>
        have F := hide' (good_bad s k hlt ht)
        have hc : ¬ (97 ≤ (s[k].toNat : Int) ∧ (s[k].toNat : Int) ≤ 122) ∧ ¬ (48 ≤ (s[k].toNat : Int) ∧ (s[k].toNat : Int) ≤ 57) ∧ (s[k].toNat : Int) ≠ 46 ∧ (s[k].toNat : Int) ≠ 45 ∧ (s[k].toNat : Int) ≠ 95 ∧ (s[k].toNat : Int) ≠ 47 := by
          unfold goodI at ht
          rw [decide_eq_false_iff_not] at ht
          omega
        clear ht ha
        have e46 : ((s[k].toNat : Int) == 46) = false := by simp; omega
        have e45 : ((s[k].toNat : Int) == 45) = false := by simp; omega
        have e95 : ((s[k].toNat : Int) == 95) = false := by simp; omega
        have e47 : ((s[k].toNat : Int) == 47) = false := by simp; omega
        rcases (by omega : (s[k].toNat : Int) < 48 ∨ (57 < (s[k].toNat : Int) ∧ (s[k].toNat : Int) < 97) ∨ 122 < (s[k].toNat : Int)) with h | h | h
        · have p1 : decide (97 ≤ (s[k].toNat : Int)) = false := by simp; omega
          have p3 : decide (48 ≤ (s[k].toNat : Int)) = false := by simp; omega
          clear h hc
          go_wp2_with fail
          go_ret
          rw [F.out]
          exact ⟨rfl, rfl⟩
        · have p1 : decide (97 ≤ (s[k].toNat : Int)) = false := by simp; omega
          have p3 : decide (48 ≤ (s[k].toNat : Int)) = true := by simp; omega
          have p4 : decide ((s[k].toNat : Int) ≤ 57) = false := by simp; omega
          clear h hc
          go_wp2_with fail
          go_ret
          rw [F.out]
          exact ⟨rfl, rfl⟩
        · have p1 : decide (97 ≤ (s[k].toNat : Int)) = true := by simp; omega
          have p2 : decide ((s[k].toNat : Int) ≤ 122) = false := by simp; omega
          have p3 : decide (48 ≤ (s[k].toNat : Int)) = true := by simp; omega
          have p4 : decide ((s[k].toNat : Int) ≤ 57) = false := by simp; omega
          clear h hc
          go_wp2_with fail
          go_ret
          rw [F.out]
          exact ⟨rfl, rfl⟩
    · have F := hide' (good_end s k (by omega) ha.out)
      have F2 : Hid (goodN s.data.toList = (decide ((1 : Int) ≤ (s.size : Int)) && decide ((s.size : Int) ≤ 64))) := by
        unfold Hid; rw [F.out]
        congr 1
        · apply decide_eq_decide.2; omega
        · apply decide_eq_decide.2; omega
      have hn : s.size ≤ 140737488351232 := hs
      rcases (by omega : s.size = 0 ∨ 1 ≤ s.size) with h | h
      · have p1 : decide ((1 : Int) ≤ (s.size : Int)) = false := by simp; omega
        rw [p1] at F2
        go_wp2_with fail
        go_ret
        rw [F2.out]
        exact ⟨rfl, rfl⟩
      · have p1 : decide ((1 : Int) ≤ (s.size : Int)) = true := by simp; omega
        rw [p1] at F2
        go_wp2_with fail
        go_ret
        rw [F2.out]
        exact ⟨by simp, rfl⟩
end Go.Proofs.YtijnjgnckipghaaGreat
namespace Go.Proofs.YtijnjgnckipghaaGreat
open Go.RowKit
theorem box9 (w : World) (v0 v1 v2 v3 v4 v5 v6 v7 v8 : Value) (t : TypeId) : Blk w.heap.size (w.alloc (.cells #[v0, v1, v2, v3, v4, v5, v6, v7, v8] t)) [v0, v1, v2, v3, v4, v5, v6, v7, v8] ∧ Below w.heap.size w (w.alloc (.cells #[v0, v1, v2, v3, v4, v5, v6, v7, v8] t)) :=
  ⟨by simpa using cells_lit w #[v0, v1, v2, v3, v4, v5, v6, v7, v8] t, below_alloc' _ _⟩
theorem ba_same (a b : ByteArray) : (a.toList == b.toList) = decide (a.data.toList = b.data.toList) := by
  rw [Lib.toList_data, Lib.toList_data]
  by_cases h : a.data.toList = b.data.toList
  · rw [h]; simp
  · rw [decide_eq_false h]; exact beq_false_of_ne h
set_option maxRecDepth 20000 in
set_option maxHeartbeats 2000000 in
theorem atRC {w : World} {v : Value} {s : Dk} (h : RefS w v s) (nm : ByteArray) (hl : s.now.length ≤ 1000000000) : Calls Tryz.prog 63 #[v, .string nm] w fun e w' => e = .returned (.int .i64 (atI s.now nm.data.toList)) ∧ Below w.heap.size w w' := by
  obtain ⟨⟨a0, n0, c0⟩, x1, x2, x3, x4, x6, rfl, h⟩ := h
  obtain ⟨hn, _, _, hc⟩ := nm_open h.now
  replace hn : n0 = s.now.length := hn
  unfold stV
  dsimp only
  have HC := hide' hc
  have HN := hide' hn
  have BX := hide' (box9 w (.slice a0 n0 c0) (.slice x1.a x1.n x1.c) (.slice x2.a x2.n x2.c) (.slice x3.a x3.n x3.c) (.slice x4.a x4.n x4.c) (.int .i64 s.room) (.slice x6.a x6.n x6.c) (.int .i64 s.power) (.int .i64 (s.n : Int)) 38)
  have hl0 : n0 ≤ 1000000000 := by omega
  clear hc hn h
  go_enter Tryz.func63, Tryz.ntmps63
  go_wp2_with fail
  generalize w.alloc (.cells #[.slice a0 n0 c0, .slice x1.a x1.n x1.c, .slice x2.a x2.n x2.c, .slice x3.a x3.n x3.c, .slice x4.a x4.n x4.c, .int .i64 s.room, .slice x6.a x6.n x6.c, .int .i64 s.power, .int .i64 (s.n : Int)] 38) = W at BX ⊢
  have k0 := (cells_9 BX.out.1).1
  go_loop [5] (fun i => ∃ k : Nat, k ≤ n0 ∧ i = .int .i64 k ∧ Hid (∀ p ∈ s.now.take k, p.1 ≠ nm.data.toList)) (fun i => n0 - (intOf i).toNat)
  case atStart => exact ⟨0, by omega, rfl, fun p hp => by simp at hp⟩
  case round =>
    obtain ⟨k, hk, rfl, NOT⟩ := hrel
    by_cases hlt : k < n0
    · have hk' : k < s.now.length := by rw [← HN.out]; exact hlt
      obtain ⟨b, off, rfl, hb, hcell⟩ := HC.out (by omega)
      obtain ⟨y1, y2⟩ := hcell k hk'
      rw [← BX.out.2.cell (p := ⟨b, off + k * 2, none⟩) hb] at y1
      rw [← BX.out.2.cell (p := ⟨b, off + k * 2 + 1, none⟩) hb] at y2
      unfold S at y1
      by_cases he : (s.now[k]'hk').1 = nm.data.toList
      · have R := hide' (at_first s.now nm.data.toList k hk' NOT.out he)
        have q1 : ((⟨((s.now[k]'hk').1).toArray⟩ : ByteArray).toList == nm.toList) = true := by rw [ba_same]; simpa using he
        generalize (⟨((s.now[k]'hk').1).toArray⟩ : ByteArray) = yn at y1 q1
        generalize (((s.now[k]'hk').2 : Nat) : Int) = yz at y2 R
        clear hcell NOT he
        go_wp2_with fail
        go_ret
        rw [R.out]
        exact ⟨rfl, BX.out.2⟩
      · have q1 : ((⟨((s.now[k]'hk').1).toArray⟩ : ByteArray).toList == nm.toList) = false := by rw [ba_same]; simpa using he
        have NOT2 := hide' (mem_take_succ (P := fun p : Nm × Nat => p.1 ≠ nm.data.toList) hk' NOT.out he)
        generalize (⟨((s.now[k]'hk').1).toArray⟩ : ByteArray) = yn at y1 q1
        clear hcell he y2
        go_wp2_with fail
        go_round
        case rel => exact ⟨k + 1, by omega, by go_num, NOT2⟩
        case measure => simp [intOf]; omega
    · have R : Hid (atI s.now nm.data.toList = -1) := at_out _ _ (fun p hp => NOT.out p (by rw [List.take_of_length_le (by rw [← HN.out]; omega)]; exact hp))
      go_wp2_with fail
      go_ret
      rw [R.out]
      exact ⟨rfl, BX.out.2⟩
def sumT (s : Dk) (l : NL) : Nat := (l.map (fun p => (s.data.getD p.2 []).length)).sum
theorem sumT_step (s : Dk) (l : NL) (k : Nat) (h : k < l.length) : sumT s (l.take (k + 1)) = sumT s (l.take k) + (s.data.getD l[k].2 []).length := by
  unfold sumT
  rw [List.take_succ_eq_append_getElem h, List.map_append, List.sum_append]
  simp
theorem sumT_le (s : Dk) (l : NL) (k : Nat) : sumT s (l.take k) ≤ sumT s l := by
  unfold sumT
  have e : l = l.take k ++ l.drop k := (List.take_append_drop k l).symm
  conv => rhs; rw [e]
  rw [List.map_append, List.sum_append]
  omega
set_option maxRecDepth 20000 in
set_option maxHeartbeats 2000000 in
theorem usedRC {w : World} {v : Value} {s : Dk} (h : RefS w v s) (hw : Wf s) (hl : s.now.length ≤ 1000000000) (hu : s.used ≤ 1000000000000000000) : Calls Tryz.prog 33 #[v] w fun e w' => e = .returned (.int .i64 (s.used : Int)) ∧ Below w.heap.size w w' := by
  obtain ⟨⟨a0, n0, c0⟩, x1, x2, ⟨a3, n3, c3⟩, x4, x6, rfl, h⟩ := h
  obtain ⟨hn, _, _, hc⟩ := nm_open h.now
  replace hn : n0 = s.now.length := hn
  unfold stV
  dsimp only
  have HC := hide' hc
  have HN := hide' hn
  have HD := hide' h.data
  have HW := hide' hw
  have HU : Hid (sumT s s.now ≤ 1000000000000000000) := hu
  have BX := hide' (box9 w (.slice a0 n0 c0) (.slice x1.a x1.n x1.c) (.slice x2.a x2.n x2.c) (.slice a3 n3 c3) (.slice x4.a x4.n x4.c) (.int .i64 s.room) (.slice x6.a x6.n x6.c) (.int .i64 s.power) (.int .i64 (s.n : Int)) 38)
  have hl0 : n0 ≤ 1000000000 := by omega
  clear hc hn h hw hu
  go_enter Tryz.func33, Tryz.ntmps33
  go_wp2_with fail
  generalize w.alloc (.cells #[.slice a0 n0 c0, .slice x1.a x1.n x1.c, .slice x2.a x2.n x2.c, .slice a3 n3 c3, .slice x4.a x4.n x4.c, .int .i64 s.room, .slice x6.a x6.n x6.c, .int .i64 s.power, .int .i64 (s.n : Int)] 38) = W at BX ⊢
  go_loopw [3, 4] (fun u i wr => ∃ (k : Nat) (m : Nat), k ≤ n0 ∧ i = .int .i64 k ∧ u = .int .i64 (m : Int) ∧ Hid (m = sumT s (s.now.take k)) ∧ Hid (Below W.heap.size W wr)) (fun _ i _ => n0 - (intOf i).toNat)
  case atStart => exact ⟨0, 0, by omega, rfl, rfl, rfl, Below.refl _ _⟩
  case round =>
    obtain ⟨k, m, hk, rfl, rfl, SUM, HB⟩ := hrel
    obtain ⟨k0, _, _, k3, _⟩ := cells_9 (cells_below BX.out.1 HB.out)
    by_cases hlt : k < n0
    · have hk' : k < s.now.length := by rw [← HN.out]; exact hlt
      obtain ⟨b, off, rfl, hb, hcell⟩ := HC.out (by omega)
      obtain ⟨y1, y2⟩ := hcell k hk'
      have hbw := BX.out.2.trans (HB.out.mono BX.out.2.size)
      rw [← hbw.cell (p := ⟨b, off + k * 2 + 1, none⟩) hb] at y2
      have hno := (HW.out.now.2 _ (List.getElem_mem hk')).1
      obtain ⟨e3, b3, o3, ea3, hb3, ua, un, uc, y3, hB⟩ := heldL_at HD.out _ hno
      rw [← hbw.cell (p := ⟨b3, o3 + (s.now[k]'hk').2, none⟩) hb3] at y3
      replace e3 : n3 = s.data.length := e3
      replace ea3 : a3 = some ⟨b3, o3, none⟩ := ea3
      obtain ⟨ua', uc', eu, _⟩ := hB
      simp only [Value.slice.injEq] at eu
      obtain ⟨_, eun, _⟩ := eu
      have eg : s.data.getD (s.now[k]'hk').2 [] = s.data[(s.now[k]'hk').2]'hno := by simp [List.getD, hno]
      have ST := sumT_step s s.now k hk'
      rw [eg, ← eun, ← SUM.out] at ST
      have SL := sumT_le s s.now (k + 1)
      have hsm : m + un ≤ 1000000000000000000 := by rw [← ST]; exact Nat.le_trans SL HU.out
      have SUM2 : Hid (m + un = sumT s (s.now.take (k + 1))) := ST.symm
      have qn0 : (0 : Int) ≤ (((s.now[k]'hk').2 : Nat) : Int) := by omega
      have qn1 : (((s.now[k]'hk').2 : Nat) : Int) < (n3 : Int) := by omega
      have qw : IntKind.i64.wrap ((m : Int) + (un : Int)) = ((m + un : Nat) : Int) := by rw [wrap_small _ (by omega) (by omega)]; omega
      have qk0 : (0 : Int) ≤ (k : Int) := by omega
      have qk1 : (k : Int) < (n0 : Int) := by omega
      subst ea3
      generalize (s.now[k]'hk').2 = no at y2 y3 qn0 qn1
      rename_i r1 r2 r3 r4 r5
      clear hcell y1 eg ST SL eun HC
      go_wp2_with fail
      go_quiet (fail)
      go_wp2_with fail
      go_roundw
      case rel =>
       exact ⟨k + 1, m + un, by omega, by go_num, by simp, SUM2, below_drawn HB.out _⟩
      case measure => simp [intOf]; omega
    · have ek : s.now.take k = s.now := List.take_of_length_le (by rw [← HN.out]; omega)
      rw [ek] at SUM
      go_wp2_with fail
      go_ret
      exact ⟨by rw [SUM.out]; rfl, BX.out.2.trans (HB.out.mono BX.out.2.size)⟩
end Go.Proofs.YtijnjgnckipghaaGreat
namespace Go.Proofs.YtijnjgnckipghaaGreat
open Go.RowKit
theorem Tryz.info71 : (Tryz.prog.info? 71).map (fun i => (i.zero, i.size, i.bytes)) = some (some (.agg #[.string ⟨#[]⟩, .int .i64 0]), 2, 24) := by kernel_rfl
theorem Tryz.info34 : (Tryz.prog.info? 34).map (fun i => (i.zero, i.size, i.bytes)) = some (some (.slice none 0 0), 1, 24) := by kernel_rfl
/-- names in a row of the call's own -/
def OwnNm (w0 : World) (v : Value) (l : NL) (w : World) : Prop := OwnV w0 71 2 v l.length (cellsNm l) w
theorem row_slk {W : World} {base k n : Nat} {t : TypeId} {v : Value} {cs : List Value} (h : W.ownsRow base t k v n cs) : ∃ a c, v = .slice a n c := by
  rcases h.2 with ⟨rfl, rfl⟩ | ⟨x, cap, cur, rfl, _⟩
  · exact ⟨_, _, rfl⟩
  · exact ⟨_, _, rfl⟩
theorem ownNm_slice {w0 w : World} {v : Value} {l : NL} (h : OwnNm w0 v l w) : ∃ a c, v = .slice a l.length c := row_slk h.1
/-- one more name appended -/
theorem appNm {ops : Array Oper} {rest : List Oper} {o : Oper} {a : Act} {Q : Exit → Act → World → Prop} {wr : World} (hgd : o.guard = none) (s z : Operand)
    (ho : o.op = .call { callee := .builtin .append, args := #[s, z], argTypes := #[34, 34] }) (w0 : World) (v : Value) (l : NL) (hs : a.eval s = v) (hown : OwnNm w0 v l wr) (y : ByteArray) (x : Nm) (hy : y = ⟨x.toArray⟩) (c : Int) (k : Nat) (hc : c = (k : Int))
    (hz : a.eval z = .slice (some ⟨wr.heap.size, 0, none⟩) 1 1) (hl : l.length ≤ 1000000000)
    (h : ∀ va vc w', OwnNm w0 (.slice va (l.length + 1) vc) (l ++ [(x, k)]) w' → wpList Tryz.prog ops Q rest (a.put o.dst (.slice va (l.length + 1) vc)) w') : wpList Tryz.prog ops Q (o :: rest) a (wr.alloc (.cells #[.string y, .int .i64 c] 71)) := by
  refine appHeld hgd s z 34 71 (.agg #[.string ⟨#[]⟩, .int .i64 0]) 2 24 Tryz.underlying34 Tryz.info71 rfl (by decide) ho w0 v l.length (cellsNm l) hs (ownV_below hown (below_alloc' _ _)) _ 1 [.string y, .int .i64 c] hz (held_lit wr #[.string y, .int .i64 c] _ 2 1 rfl) ?_ (by unfold maxLen; omega) (by omega) ?_
  · intro u hu
    simp only [List.mem_cons, List.not_mem_nil, or_false] at hu
    rcases hu with rfl | rfl <;> rfl
  · intro v' w' ho' _
    have e : cellsNm l ++ [.string y, .int .i64 c] = cellsNm (l ++ [(x, k)]) := by rw [cellsNm_app, hy, hc]; rfl
    rw [e] at ho'
    have ho2 : OwnNm w0 v' (l ++ [(x, k)]) w' := by
      unfold OwnNm
      rw [List.length_append]
      exact ho'
    obtain ⟨va, vc, hv⟩ := ownNm_slice ho2
    rw [List.length_append] at hv
    subst hv
    exact h va vc w' ho2
theorem nmGo_cons (nm : Nm) (no : Nat) (out : NL) (put : Bool) (q : Nm × Nat) (r : NL) : nmGo nm no out put (q :: r) = if q.1 = nm then nmGo nm no out put r else if put = false ∧ lessN nm q.1 = true then nmGo nm no (out ++ [(nm, no), q]) true r else nmGo nm no (out ++ [q]) put r := by rw [nmGo]
set_option maxRecDepth 20000 in
set_option maxHeartbeats 8000000 in
theorem namedRC (lv : Value) (l : NL) (nm : ByteArray) (z : Int) (no : Nat) (pt0 : Bool) (hz : (pt0 = true ∧ z = -1) ∨ (pt0 = false ∧ z = (no : Int))) (w : World) (hv : HoldsNm w lv l) (hl : l.length ≤ 900000000) :
    Calls Tryz.prog 65 #[lv, .string nm, .int .i64 z] w fun e w' => ∃ u, e = .returned u ∧ OwnNm w u (nmGo nm.data.toList no [] pt0 l) w' := by
  obtain ⟨a0, c0, hlv⟩ := nm_slice hv
  subst hlv
  obtain ⟨_, _, _, hc⟩ := nm_open hv
  have HC := hide' hc
  obtain ⟨n0, hn⟩ : ∃ n, n = l.length := ⟨_, rfl⟩
  have HN := hide' hn
  rw [← hn] at hl ⊢
  have q0 : decide (z < 0) = pt0 := by
    rcases hz with ⟨rfl, rfl⟩ | ⟨rfl, rfl⟩
    · decide
    · simp
  have HZ : Hid (pt0 = false → z = (no : Int)) := fun e => by
    rcases hz with ⟨h, _⟩ | ⟨_, h⟩
    · rw [h] at e; cases e
    · exact h
  clear hz hv hc hn
  go_enter Tryz.func65, Tryz.ntmps65
  go_wp2_with fail
  go_loopw [7, 8, 9] (fun u p i wr => ∃ (k : Nat) (ob : NL) (pt : Bool) (va : Option Addr) (on vc : Nat), k ≤ n0 ∧ on ≤ k + 1 ∧ (pt = false → on ≤ k) ∧ i = .int .i64 k ∧ p = .bool pt ∧ u = .slice va on vc ∧ Hid (on = ob.length) ∧ Hid (OwnNm w (.slice va on vc) ob wr) ∧ Hid (nmGo nm.data.toList no ob pt (l.drop k) = nmGo nm.data.toList no [] pt0 l) ∧ Hid (pt = false → z = (no : Int))) (fun _ _ i _ => n0 - (intOf i).toNat)
  case atStart => exact ⟨0, [], pt0, some ⟨w.heap.size, 0, none⟩, 0, 0, by omega, by omega, fun _ => by omega, rfl, rfl, rfl, rfl, ownV_empty w _ 2, by unfold Hid; rw [List.drop_zero], HZ⟩
  case round =>
    obtain ⟨k, ob, pt, va, on, vc, hk, hon, hon2, rfl, rfl, rfl, HL, HO, HG, HP⟩ := hrel
    by_cases hlt : k < n0
    · have hk' : k < l.length := by rw [← HN.out]; exact hlt
      obtain ⟨b, off, rfl, hb, hcell⟩ := HC.out (by have := HN.out; omega)
      obtain ⟨y1, y2⟩ := hcell k hk'
      rw [← HO.out.2.cell (p := ⟨b, off + k * 2, none⟩) hb] at y1
      rw [← HO.out.2.cell (p := ⟨b, off + k * 2 + 1, none⟩) hb] at y2
      unfold S at y1
      have hg := HG.out
      rw [List.drop_eq_getElem_cons hk', nmGo_cons] at hg
      obtain ⟨yn, hyn⟩ : ∃ y : ByteArray, y = ⟨((l[k]'hk').1).toArray⟩ := ⟨_, rfl⟩
      obtain ⟨yz, hyz⟩ : ∃ y : Int, y = (((l[k]'hk').2 : Nat) : Int) := ⟨_, rfl⟩
      have YX := hide' hyn
      have YC := hide' hyz
      by_cases he : (l[k]'hk').1 = nm.data.toList
      · rw [if_pos he] at hg
        have G2 := hide' hg
        have q1 : ((⟨((l[k]'hk').1).toArray⟩ : ByteArray).toList == nm.toList) = true := by rw [ba_same]; simpa using he
        rw [← hyn] at y1 q1
        clear hyn
        clear hcell hg he y2 YX YC hyz
        go_wp2_with fail
        go_roundw
        case rel => exact ⟨k + 1, ob, pt, va, on, vc, by omega, by omega, fun h => by have := hon2 h; omega, by go_num, rfl, rfl, HL, HO, G2, HP⟩
        case measure => simp [intOf]; omega
      · rw [if_neg he] at hg
        have q1 : ((⟨((l[k]'hk').1).toArray⟩ : ByteArray).toList == nm.toList) = false := by rw [ba_same]; simpa using he
        have hgt : (!(Op.bytesLess (⟨((l[k]'hk').1).toArray⟩ : ByteArray).toList nm.toList || (⟨((l[k]'hk').1).toArray⟩ : ByteArray).toList == nm.toList)) = lessN nm.data.toList (l[k]'hk').1 := by
          rw [Lib.toList_data, Lib.toList_data]
          exact gt_less _ _ he
        cases pt with
        | true =>
          rw [if_neg (fun h => by cases h.1)] at hg
          have G2 := hide' hg
          rw [← hyn] at y1 q1
          clear hyn
          rw [← hyz] at y2
          clear hyz
          clear hcell hg he hgt
          go_wp2_with (at_builtin; refine appNm rfl (.tmp 43) (.tmp 48) rfl w _ ob rfl (by exact HO.out) yn (l[k]'hk').1 YX.out yz (l[k]'hk').2 YC.out rfl (by rw [← HL.out]; omega) ?_; rw [← HL.out]; intro va2 vc2 w2 ho2; have O2 := hide' ho2; clear ho2)
          go_roundw
          case rel => exact ⟨k + 1, ob ++ [l[k]'hk'], true, va2, on + 1, vc2, by omega, by omega, fun h => (by cases h), by go_num, rfl, rfl, by unfold Hid; rw [List.length_append, ← HL.out]; rfl, O2, G2, fun h => (by cases h)⟩
          case measure => simp [intOf]; omega
        | false =>
          cases hc : lessN nm.data.toList (l[k]'hk').1 with
          | true =>
            rw [if_pos ⟨rfl, hc⟩] at hg
            rw [hc] at hgt
            have G2 := hide' hg
            have hz2 := HP.out rfl
            have HZ2 := hide' hz2
            have NM : Hid (nm = ⟨nm.data.toList.toArray⟩) := by unfold Hid; simp
            have hon3 := hon2 rfl
            rw [← hyn] at y1 q1 hgt
            clear hyn
            rw [← hyz] at y2
            clear hyz
            have hr : ∀ W, Sem.run Tryz.prog (binOp .gtr 9 (.string yn) (.string nm)) W = .ok (.bool true) W := fun W => by
              show Result.ok (Value.bool (!(Op.bytesLess yn.toList nm.toList || yn.toList == nm.toList))) W = _
              rw [hgt]
            have BB : Hid (∀ Wx, Below w.heap.size w Wx → Wx.cell? ⟨b, off + k * 2, none⟩ = some (.string yn) ∧ Wx.cell? ⟨b, off + k * 2 + 1, none⟩ = some (.int .i64 yz)) := fun Wx hbw => ⟨by rw [hbw.cell (p := ⟨b, off + k * 2, none⟩) hb, ← HO.out.2.cell (p := ⟨b, off + k * 2, none⟩) hb]; exact y1, by rw [hbw.cell (p := ⟨b, off + k * 2 + 1, none⟩) hb, ← HO.out.2.cell (p := ⟨b, off + k * 2 + 1, none⟩) hb]; exact y2⟩
            clear hcell hg he hgt hz2 hc
            go_wp2_with (first
              | (at_builtin; refine appNm rfl (.tmp 37) (.tmp 41) rfl w _ ob rfl (by exact HO.out) nm nm.data.toList NM.out z no HZ2.out rfl (by rw [← HL.out]; omega) ?_; rw [← HL.out]; intro va2 vc2 w2 ho2; have O2 := hide' ho2; obtain ⟨z1, z2⟩ := BB.out w2 ho2.2; clear ho2)
              | (at_builtin; refine appNm rfl (.tmp 43) (.tmp 48) rfl w _ (ob ++ [(nm.data.toList, no)]) rfl (by exact O2.out) yn (l[k]'hk').1 YX.out yz (l[k]'hk').2 YC.out rfl (by rw [List.length_append, ← HL.out]; show on + 1 ≤ _; omega) ?_; rw [List.length_append, ← HL.out]; intro va3 vc3 w3 ho3; have O3 := hide' ho3; clear ho3))
            go_roundw
            case rel => exact ⟨k + 1, ob ++ [(nm.data.toList, no)] ++ [l[k]'hk'], true, va3, on + 1 + 1, vc3, by omega, by omega, fun h => (by cases h), by go_num, rfl, rfl, by unfold Hid; rw [List.length_append, List.length_append, ← HL.out]; rfl, O3, by unfold Hid; rw [List.append_assoc]; exact G2.out, fun h => (by cases h)⟩
            case measure => simp [intOf]; omega
          | false =>
            rw [if_neg (fun h => by rw [hc] at h; cases h.2)] at hg
            rw [hc] at hgt
            have G2 := hide' hg
            have hon3 := hon2 rfl
            rw [← hyn] at y1 q1 hgt
            clear hyn
            rw [← hyz] at y2
            clear hyz
            have hr : ∀ W, Sem.run Tryz.prog (binOp .gtr 9 (.string yn) (.string nm)) W = .ok (.bool false) W := fun W => by
              show Result.ok (Value.bool (!(Op.bytesLess yn.toList nm.toList || yn.toList == nm.toList))) W = _
              rw [hgt]
            clear hcell hg he hgt hc
            go_wp2_with (at_builtin; refine appNm rfl (.tmp 43) (.tmp 48) rfl w _ ob rfl (by exact HO.out) yn (l[k]'hk').1 YX.out yz (l[k]'hk').2 YC.out rfl (by rw [← HL.out]; omega) ?_; rw [← HL.out]; intro va2 vc2 w2 ho2; have O2 := hide' ho2; clear ho2)
            go_roundw
            case rel => exact ⟨k + 1, ob ++ [l[k]'hk'], false, va2, on + 1, vc2, by omega, by omega, fun _ => by omega, by go_num, rfl, rfl, by unfold Hid; rw [List.length_append, ← HL.out]; rfl, O2, G2, HP⟩
            case measure => simp [intOf]; omega
    · have ed : l.drop k = [] := List.drop_eq_nil_of_le (by rw [← HN.out]; omega)
      have hg := HG.out
      rw [ed] at hg
      cases pt with
      | true =>
        have hg2 : ob = nmGo nm.data.toList no [] pt0 l := by rw [← hg]; rfl
        have G2 := hide' hg2
        clear hg hg2
        go_wp2_with fail
        go_ret
        rw [← G2.out]
        exact ⟨_, rfl, HO.out⟩
      | false =>
        have hg2 : ob ++ [(nm.data.toList, no)] = nmGo nm.data.toList no [] pt0 l := by rw [← hg]; rfl
        have G2 := hide' hg2
        have HZ2 := hide' (HP.out rfl)
        have NM : Hid (nm = ⟨nm.data.toList.toArray⟩) := by unfold Hid; simp
        have hon3 := hon2 rfl
        clear hg hg2
        go_wp2_with (at_builtin; refine appNm rfl (.tmp 52) (.tmp 56) rfl w _ ob rfl (by exact HO.out) nm nm.data.toList NM.out z no HZ2.out rfl (by rw [← HL.out]; omega) ?_; rw [← HL.out]; intro va2 vc2 w2 ho2; have O2 := hide' ho2; clear ho2)
        go_ret
        rw [← G2.out]
        exact ⟨_, rfl, O2.out⟩
end Go.Proofs.YtijnjgnckipghaaGreat
namespace Go.Proofs.YtijnjgnckipghaaGreat
open Go.RowKit
theorem cells_9a {b : Nat} {W : World} {v0 v1 v2 v3 v4 v5 v6 v7 v8 : Value} (h : Blk b W [v0, v1, v2, v3, v4, v5, v6, v7, v8]) : (W.cell? ⟨b, 0, none⟩ = some v0 ∧ W.cell? ⟨b, 1, none⟩ = some v1 ∧ W.cell? ⟨b, 2, none⟩ = some v2 ∧ W.cell? ⟨b, 3, none⟩ = some v3 ∧ W.cell? ⟨b, 4, none⟩ = some v4 ∧ W.cell? ⟨b, 5, none⟩ = some v5 ∧ W.cell? ⟨b, 6, none⟩ = some v6 ∧ W.cell? ⟨b, 7, none⟩ = some v7 ∧ W.cell? ⟨b, 8, none⟩ = some v8) ∧ (W.frozen? ⟨b, 0, none⟩ = false ∧ W.frozen? ⟨b, 1, none⟩ = false ∧ W.frozen? ⟨b, 2, none⟩ = false ∧ W.frozen? ⟨b, 3, none⟩ = false ∧ W.frozen? ⟨b, 4, none⟩ = false ∧ W.frozen? ⟨b, 5, none⟩ = false ∧ W.frozen? ⟨b, 6, none⟩ = false ∧ W.frozen? ⟨b, 7, none⟩ = false ∧ W.frozen? ⟨b, 8, none⟩ = false) := ⟨cells_9 h, cells_9f h⟩
/-- two blocks of nine cells, one behind the other: the receiver's and the result's -/
structure Two9 (w : World) (vs : List Value) (us : List Value) (W : World) : Prop where
  b0 : Blk w.heap.size W vs
  b1 : Blk (w.heap.size + 1) W us
  bel : Below w.heap.size w W
theorem two9_below {w W W' : World} {vs us : List Value} (h : Two9 w vs us W) (hb : Below W.heap.size W W') : Two9 w vs us W' := ⟨cells_below h.b0 hb, cells_below h.b1 hb, h.bel.trans (hb.mono h.bel.size)⟩
theorem two9_set {w W : World} {vs us : List Value} (h : Two9 w vs us W) (j : Nat) (hj : j < vs.length) (x : Value) : Two9 w (vs.set j x) us (W.setCell ⟨w.heap.size, j, none⟩ x) :=
  ⟨cells_set h.b0 hj x, cells_other h.b1 (by omega) x, h.bel.setCell (Nat.le_refl _) x⟩
theorem two9_grown {w W W' : World} {vs us : List Value} {row : Option Nat} (h : Two9 w vs us W) (hg : W.grownBy W' row) (hr : ∀ k, row = some k → w.heap.size + 2 ≤ k) : Two9 w vs us W' :=
  ⟨blk_grownR h.b0 hg hr (by omega), blk_grownR h.b1 hg hr (by omega), Below.grown h.bel hg (by have := h.b0.2; omega) (fun k hk => by have := hr k hk; omega)⟩
/-- what a row of one's own holds, where all that was there is hidden, and blocks below it are written -/
theorem held_base {W : World} {base m : Nat} {t : TypeId} {k n : Nat} {v : Value} {cs : List Value} (h : W.ownsRow base t k v n cs) (hm : m ≤ base) : Held (mask (fun x => x < m) W) v k n cs := by
  obtain ⟨hl, ao, cap, rfl, h0, hcp, hc⟩ := held_row h
  refine ⟨hl, ao, cap, rfl, h0, hcp, fun hne => ?_⟩
  obtain ⟨b, off, rfl, hlt, hcell⟩ := hc hne
  have hb : base ≤ b := (h.lt b rfl).1
  exact ⟨b, off, rfl, by rw [mask_size]; exact hlt, fun j u hj => by rw [mask_cell W (show ¬ (⟨b, off + j, none⟩ : Addr).block < m by show ¬ b < m; omega)]; exact hcell j u hj⟩
def nine (x0 x1 x2 x3 x4 : Value) (room : Int) (x6 : Value) (power : Int) (n : Nat) : List Value := [x0, x1, x2, x3, x4, .int .i64 room, x6, .int .i64 power, .int .i64 (n : Int)]
theorem zero9 (w : World) (v0 v1 v2 v3 v4 v5 v6 v7 v8 u0 u1 u2 u3 u4 u5 u6 u7 u8 : Value) (t : TypeId) : Two9 w [v0, v1, v2, v3, v4, v5, v6, v7, v8] [u0, u1, u2, u3, u4, u5, u6, u7, u8] ((w.alloc (.cells #[v0, v1, v2, v3, v4, v5, v6, v7, v8] t)).alloc (.cells #[u0, u1, u2, u3, u4, u5, u6, u7, u8] t)) := by
  have a1 := box9 w v0 v1 v2 v3 v4 v5 v6 v7 v8 t
  have a2 := box9 (w.alloc (.cells #[v0, v1, v2, v3, v4, v5, v6, v7, v8] t)) u0 u1 u2 u3 u4 u5 u6 u7 u8 t
  have z1 : (w.alloc (.cells #[v0, v1, v2, v3, v4, v5, v6, v7, v8] t)).heap.size = w.heap.size + 1 := by simp
  rw [z1] at a2
  exact ⟨cells_base a1.1 a2.2 (by omega), a2.1, a1.2.trans (a2.2.mono (by omega))⟩
/-- the result's nine cells written -/
theorem two9_put {w W : World} {us : List Value} {v0 v1 v2 v3 v4 v5 v6 v7 v8 : Value} (h : Blk (w.heap.size + 1) W us) (hu : us.length = 9) : Blk (w.heap.size + 1) (putFrom (w.heap.size + 1) 0 W [v0, v1, v2, v3, v4, v5, v6, v7, v8]) [v0, v1, v2, v3, v4, v5, v6, v7, v8] := by
  have := cells_putFrom [v0, v1, v2, v3, v4, v5, v6, v7, v8] 0 W us h (by simp [hu])
  have e : us.drop (0 + [v0, v1, v2, v3, v4, v5, v6, v7, v8].length) = [] := List.drop_eq_nil_of_le (by simp [hu])
  rw [e] at this
  simpa using this
theorem row_putE {base k n b : Nat} {t : TypeId} {v : Value} {cs : List Value} (hb : b < base) : ∀ (us : List Value) (o : Nat) (W : World), W.ownsRow base t k v n cs → (putFrom b o W us).ownsRow base t k v n cs := by
  intro us
  induction us with
  | nil => intro o W h; exact h
  | cons u r ih => intro o W h; exact ih (o + 1) _ (row_poke h hb)
theorem below_put {m b : Nat} {w : World} (hb : m ≤ b) : ∀ (us : List Value) (o : Nat) (W : World), Below m w W → Below m w (putFrom b o W us) := by
  intro us
  induction us with
  | nil => intro o W h; exact h
  | cons u r ih => intro o W h; exact ih (o + 1) _ (h.setCell hb u)
set_option maxRecDepth 20000 in
set_option maxHeartbeats 8000000 in
theorem renamedRC (x0 x1 x2 x3 x4 x6 y : Sl) (room power : Int) (n : Nat) (vs : List Value) (w : World) (hp : Held w (.slice x2.a x2.n x2.c) 1 x2.n vs) (h1 : ∀ x ∈ vs, x.oneCell' = true) (hl : x2.n ≤ 900000000) :
    Calls Tryz.prog 64 #[stV x0 x1 x2 x3 x4 x6 room power n, .slice y.a y.n y.c] w fun e w' => ∃ z : Sl, e = .returned (stV y x1 z x3 x4 x6 room power n) ∧ Held (mask (fun x => x < w.heap.size) w') (.slice z.a z.n z.c) 1 (x2.n + 1) (vs ++ [.slice y.a y.n y.c]) ∧ Below w.heap.size w w' := by
  unfold stV
  obtain ⟨a0, n0, c0⟩ := x0
  obtain ⟨a1, n1, c1⟩ := x1
  obtain ⟨a2, n2, c2⟩ := x2
  obtain ⟨a3, n3, c3⟩ := x3
  obtain ⟨a4, n4, c4⟩ := x4
  obtain ⟨a6, n6, c6⟩ := x6
  obtain ⟨ya, yn, yc⟩ := y
  dsimp only at hp hl ⊢
  have T0 := hide' (zero9 w (.slice ya yn yc) (.slice a1 n1 c1) (.slice a2 n2 c2) (.slice a3 n3 c3) (.slice a4 n4 c4) (.int .i64 room) (.slice a6 n6 c6) (.int .i64 power) (.int .i64 (n : Int)) (.slice none 0 0) (.slice none 0 0) (.slice none 0 0) (.slice none 0 0) (.slice none 0 0) (.int .i64 0) (.slice none 0 0) (.int .i64 0) (.int .i64 0) 38)
  have Z0 : Hid (((w.alloc (.cells #[.slice ya yn yc, .slice a1 n1 c1, .slice a2 n2 c2, .slice a3 n3 c3, .slice a4 n4 c4, .int .i64 room, .slice a6 n6 c6, .int .i64 power, .int .i64 (n : Int)] 38)).alloc (.cells #[.slice none 0 0, .slice none 0 0, .slice none 0 0, .slice none 0 0, .slice none 0 0, .int .i64 0, .slice none 0 0, .int .i64 0, .int .i64 0] 38)).heap.size = w.heap.size + 1 + 1) := by unfold Hid; simp
  have FIN1 : Hid (∀ W2, Two9 w [.slice ya yn yc, .slice a1 n1 c1, .slice a2 n2 c2, .slice a3 n3 c3, .slice a4 n4 c4, .int .i64 room, .slice a6 n6 c6, .int .i64 power, .int .i64 (n : Int)] [.slice none 0 0, .slice none 0 0, .slice none 0 0, .slice none 0 0, .slice none 0 0, .int .i64 0, .slice none 0 0, .int .i64 0, .int .i64 0] W2 → W2.heap.size = w.heap.size + 1 + 1 → ∀ v' w', w'.ownsRow (w.heap.size + 2) 34 1 v' (0 + n2) ([] ++ vs) → (W2.alloc (.cells #[] 34)).grownBy w' (some (w.heap.size + 1 + 1)) → ∃ va vc, v' = .slice va n2 vc ∧ Hid (w'.ownsRow (w.heap.size + 2) 34 1 (.slice va n2 vc) n2 vs ∧ Two9 w [.slice ya yn yc, .slice a1 n1 c1, .slice a2 n2 c2, .slice a3 n3 c3, .slice a4 n4 c4, .int .i64 room, .slice a6 n6 c6, .int .i64 power, .int .i64 (n : Int)] [.slice none 0 0, .slice none 0 0, .slice none 0 0, .slice none 0 0, .slice none 0 0, .int .i64 0, .slice none 0 0, .int .i64 0, .int .i64 0] w')) := fun W2 t2 _ v' w' r g => by
    rw [Nat.zero_add, List.nil_append] at r
    obtain ⟨va, vc, hv⟩ := row_slk r
    subst hv
    exact ⟨va, vc, rfl, r, two9_grown (two9_below t2 (below_alloc' _ _)) g (fun k e => by have := Option.some.inj e; omega)⟩
  have HP : Hid (∀ Wx, Below w.heap.size w Wx → Held Wx (.slice a2 n2 c2) 1 n2 vs) := fun Wx hb => held_mono hp hb
  have H1 := hide' h1
  have RL : Hid (∀ W2 : World, W2.heap.size = w.heap.size + 1 + 1 → (W2.alloc (.cells #[] 34)).ownsRow (w.heap.size + 2) 34 1 (.slice (some ⟨w.heap.size + 1 + 1, 0, none⟩) 0 0) 0 []) := fun W2 e => by
    have := World.ownsRow_lit (base := w.heap.size + 2) (e := 34) (size := 1) W2 #[] 0 (by omega) (by unfold maxLen; omega) (by simp)
    rw [e] at this
    exact this
  clear hp h1
  go_enter Tryz.func64, Tryz.ntmps64
  go_wp2_with (first
    | (at_builtin; refine appRow rfl (.tmp 9) (.tmp 11) 35 34 (.slice none 0 0) 1 24 Tryz.underlying35 Tryz.info34 rfl (by decide) rfl (w.heap.size + 2) _ 0 [] rfl (by simp) (by exact RL.out _ Z0.out) _ n2 vs rfl (HP.out _ (by exact T0.out.bel.trans ((below_alloc' _ _).mono T0.out.bel.size))) H1.out (by unfold maxLen; omega) (by omega) ?_; intro v6 w6 r6 g6; obtain ⟨va, vc, hv6, R6⟩ := FIN1.out _ T0.out Z0.out v6 w6 r6 g6; clear r6 g6; subst hv6; obtain ⟨⟨p0, p1, p2, p3, p4, p5, p6, p7, p8⟩, p10, p11, p12, p13, p14, p15, p16, p17, p18⟩ := cells_9a R6.out.2.b0)
    | (at_builtin; refine appRow rfl (.tmp 13) (.tmp 15) 35 34 (.slice none 0 0) 1 24 Tryz.underlying35 Tryz.info34 rfl (by decide) rfl (w.heap.size + 2) _ n2 vs rfl (by have := R6.out.2.b1.2; simp; omega) (by exact row_below R6.out.1 (below_alloc' _ _)) _ 1 [.slice ya yn yc] rfl (held_lit _ #[.slice ya yn yc] _ 1 1 rfl) (by intro x hx; simp at hx; subst hx; rfl) (by unfold maxLen; omega) (by omega) ?_; intro v7 w7 r7 g7; obtain ⟨vb, vd, hv7⟩ := row_slk r7; subst hv7; have R7 := hide' r7; have T7 := hide' (two9_grown (two9_below R6.out.2 (below_alloc' _ _)) g7 (fun k e => by exact (R6.out.1.lt k e).1)); clear r7 g7 p0 p1 p2 p3 p4 p5 p6 p7 p8 p10 p11 p12 p13 p14 p15 p16 p17 p18; obtain ⟨⟨p0, p1, p2, p3, p4, p5, p6, p7, p8⟩, p10, p11, p12, p13, p14, p15, p16, p17, p18⟩ := cells_9a T7.out.b0; obtain ⟨⟨s0, s1, s2, s3, s4, s5, s6, s7, s8⟩, s10, s11, s12, s13, s14, s15, s16, s17, s18⟩ := cells_9a T7.out.b1))
  have T8 := two9_set T7.out 2 (by simp) (.slice vb (n2 + 1) vd)
  obtain ⟨q0, q1, q2, q3, q4, q5, q6, q7, q8⟩ := cells_9 (two9_put (v0 := .slice ya yn yc) (v1 := .slice a1 n1 c1) (v2 := .slice vb (n2 + 1) vd) (v3 := .slice a3 n3 c3) (v4 := .slice a4 n4 c4) (v5 := .int .i64 room) (v6 := .slice a6 n6 c6) (v7 := .int .i64 power) (v8 := .int .i64 (n : Int)) T8.b1 rfl)
  have hr := row_putE (b := w.heap.size + 1) (by omega) [.slice ya yn yc, .slice a1 n1 c1, .slice vb (n2 + 1) vd, .slice a3 n3 c3, .slice a4 n4 c4, .int .i64 room, .slice a6 n6 c6, .int .i64 power, .int .i64 (n : Int)] 0 _ (row_poke (b := w.heap.size) (o := 2) (x := .slice vb (n2 + 1) vd) R7.out (by omega))
  have hb := below_put (b := w.heap.size + 1) (Nat.le_succ _) [.slice ya yn yc, .slice a1 n1 c1, .slice vb (n2 + 1) vd, .slice a3 n3 c3, .slice a4 n4 c4, .int .i64 room, .slice a6 n6 c6, .int .i64 power, .int .i64 (n : Int)] 0 _ T8.bel
  simp only [putFrom] at q0 q1 q2 q3 q4 q5 q6 q7 q8
  exact bodyPost_ret (v := .agg #[.slice ya yn yc, .slice a1 n1 c1, .slice vb (n2 + 1) vd, .slice a3 n3 c3, .slice a4 n4 c4, .int .i64 room, .slice a6 n6 c6, .int .i64 power, .int .i64 (n : Int)]) (by simp [results, Tryz.results64, go_sem, q0, q1, q2, q3, q4, q5, q6, q7, q8]) rfl ⟨⟨vb, n2 + 1, vd⟩, rfl, held_base hr (by omega), hb⟩
end Go.Proofs.YtijnjgnckipghaaGreat
namespace Go.Proofs.YtijnjgnckipghaaGreat
open Go.RowKit
theorem st_down {s : Dk} (o : DOp) (h : s.down = true) : s.step o = (s, 93) := by unfold Dk.step; rw [if_pos h]
theorem st_fault {s : Dk} (o : DOp) (h : s.down = false) (hf : s.fault = true) : s.step o = ({ s with n := s.n + 1 }, 94) := by
  unfold Dk.step
  rw [if_neg (by rw [h]; decide), if_pos hf]
theorem st_name {s : Dk} (o : DOp) (h : s.down = false) (hf : s.fault = false) (hn : (o.what ≠ 4 ∧ goodN o.name = false) ∨ (o.what = 5 ∧ goodN o.to = false)) : s.step o = ({ s with n := s.n + 1 }, 95) := by
  unfold Dk.step
  rw [if_neg (by rw [h]; decide), if_neg (by rw [hf]; decide), if_pos hn]
theorem st_none {s : Dk} (o : DOp) (h : s.down = false) (hf : s.fault = false) (hn : ¬ ((o.what ≠ 4 ∧ goodN o.name = false) ∨ (o.what = 5 ∧ goodN o.to = false))) (ha : atN s.now o.name = none) : s.step o = if o.what = 1 ∨ o.what = 4 then { s with n := s.n + 1 }.act o 0 else ({ s with n := s.n + 1 }, 90) := by
  unfold Dk.step
  rw [if_neg (by rw [h]; decide), if_neg (by rw [hf]; decide), if_neg hn, ha]
theorem st_some {s : Dk} (o : DOp) (h : s.down = false) (hf : s.fault = false) (hn : ¬ ((o.what ≠ 4 ∧ goodN o.name = false) ∨ (o.what = 5 ∧ goodN o.to = false))) {k : Nat} (ha : atN s.now o.name = some k) : s.step o = if o.what = 1 then ({ s with n := s.n + 1 }, 91) else { s with n := s.n + 1 }.act o k := by
  unfold Dk.step
  rw [if_neg (by rw [h]; decide), if_neg (by rw [hf]; decide), if_neg hn, ha]
theorem refV_n {w : World} {x0 x1 x2 x3 x4 x6 : Sl} {s : Dk} (h : RefV w x0 x1 x2 x3 x4 x6 s) (n : Nat) : RefV w x0 x1 x2 x3 x4 x6 { s with n := n } := ⟨h.now, h.safe, h.pend, h.data, h.firm, h.fails⟩
/-- the blocks of a step: the state, the op, the result -/
structure Frm (w : World) (vs ov us : List Value) (W : World) : Prop where
  b0 : Blk w.heap.size W vs
  b1 : Blk (w.heap.size + 1) W ov
  b2 : Blk (w.heap.size + 2) W us
  bel : Below w.heap.size w W
theorem frm_below {w W W' : World} {vs ov us : List Value} (h : Frm w vs ov us W) (hb : Below W.heap.size W W') : Frm w vs ov us W' := ⟨cells_below h.b0 hb, cells_below h.b1 hb, cells_below h.b2 hb, h.bel.trans (hb.mono h.bel.size)⟩
theorem frm_set {w W : World} {vs ov us : List Value} (h : Frm w vs ov us W) (j : Nat) (hj : j < vs.length) (x : Value) : Frm w (vs.set j x) ov us (W.setCell ⟨w.heap.size, j, none⟩ x) :=
  ⟨cells_set h.b0 hj x, cells_other h.b1 (by omega) x, cells_other h.b2 (by omega) x, h.bel.setCell (Nat.le_refl _) x⟩
theorem frm_grown {w W W' : World} {vs ov us : List Value} {row : Option Nat} (h : Frm w vs ov us W) (hg : W.grownBy W' row) (hr : ∀ k, row = some k → w.heap.size + 3 ≤ k) : Frm w vs ov us W' :=
  ⟨blk_grownR h.b0 hg hr (by omega), blk_grownR h.b1 hg hr (by omega), blk_grownR h.b2 hg hr (by omega), Below.grown h.bel hg (by have := h.b0.2; omega) (fun k hk => by have := hr k hk; omega)⟩
theorem frm_poke {w W : World} {vs ov us : List Value} (h : Frm w vs ov us W) {g j : Nat} (hg : w.heap.size + 3 ≤ g) (x : Value) : Frm w vs ov us (W.setCell ⟨g, j, none⟩ x) :=
  ⟨cells_other h.b0 (by omega) x, cells_other h.b1 (by omega) x, cells_other h.b2 (by omega) x, h.bel.setCell (show w.heap.size ≤ g by omega) x⟩
theorem frm_start (w : World) (v0 v1 v2 v3 v4 v5 v6 v7 v8 o0 o1 o2 o3 u0 u1 u2 u3 u4 u5 u6 u7 u8 : Value) (t t2 : TypeId) : Frm w [v0, v1, v2, v3, v4, v5, v6, v7, v8] [o0, o1, o2, o3] [u0, u1, u2, u3, u4, u5, u6, u7, u8] (((w.alloc (.cells #[v0, v1, v2, v3, v4, v5, v6, v7, v8] t)).alloc (.cells #[o0, o1, o2, o3] t2)).alloc (.cells #[u0, u1, u2, u3, u4, u5, u6, u7, u8] t)) := by
  have a1 := box9 w v0 v1 v2 v3 v4 v5 v6 v7 v8 t
  have z1 : (w.alloc (.cells #[v0, v1, v2, v3, v4, v5, v6, v7, v8] t)).heap.size = w.heap.size + 1 := by simp
  have a2 := cells_lit (w.alloc (.cells #[v0, v1, v2, v3, v4, v5, v6, v7, v8] t)) #[o0, o1, o2, o3] t2
  have e2 := below_alloc' (w.alloc (.cells #[v0, v1, v2, v3, v4, v5, v6, v7, v8] t)) (.cells #[o0, o1, o2, o3] t2)
  have z2 : ((w.alloc (.cells #[v0, v1, v2, v3, v4, v5, v6, v7, v8] t)).alloc (.cells #[o0, o1, o2, o3] t2)).heap.size = w.heap.size + 1 + 1 := by simp
  have a3 := box9 ((w.alloc (.cells #[v0, v1, v2, v3, v4, v5, v6, v7, v8] t)).alloc (.cells #[o0, o1, o2, o3] t2)) u0 u1 u2 u3 u4 u5 u6 u7 u8 t
  rw [z1] at a2 e2
  rw [z2] at a3
  exact ⟨cells_base (cells_base a1.1 e2 (by omega)) a3.2 (by omega), cells_base a2 a3.2 (by omega), a3.1, (a1.2.trans (e2.mono (by omega))).trans (a3.2.mono (by omega))⟩
/-- a world without a step's own three blocks and without those of S -/
noncomputable def hidM (S : Nat → Prop) (w W : World) : World := mask (fun k => S k ∨ (w.heap.size ≤ k ∧ k < w.heap.size + 3)) W
theorem old_sub {S : Nat → Prop} {w W : World} (hb : Below w.heap.size w W) : Sub (mask S w) (hidM S w W) :=
  ⟨by unfold hidM; rw [mask_size, mask_size]; exact hb.size, fun a v h => by
    have hn := mask_not h
    rw [mask_cell w hn] at h
    have hl := cell_lt h
    unfold hidM
    rw [mask_cell W (show ¬ (S a.block ∨ (w.heap.size ≤ a.block ∧ a.block < w.heap.size + 3)) from fun e => e.elim hn (fun e => by omega)), hb.cell hl]
    exact h⟩
theorem new_sub {S : Nat → Prop} {w W : World} {m : Nat} (hS : ∀ k, S k → k < w.heap.size) (hm : w.heap.size + 3 ≤ m) : Sub (mask (fun x => x < m) W) (hidM S w W) := mask_mono (fun k hk => by
  rcases hk with hk | hk
  · have := hS k hk; omega
  · omega)
theorem off_put {S : Nat → Prop} {b : Nat} (hb : S b) : ∀ (us : List Value) (o : Nat) (W : World), Off S W (putFrom b o W us) := by
  intro us
  induction us with
  | nil => intro o W; exact Off.refl _ _
  | cons u r ih =>
    intro o W
    exact (off_poke (W := W) ⟨b, o, none⟩ hb u).trans (ih (o + 1) _) (fun i hi => .inl hi)
/-- a step's end: the state is copied into the result -/
theorem frm_end {S : Nat → Prop} {w W : World} {vs ov us : List Value} {x0 x1 x2 x3 x4 x6 : Sl} {s' : Dk} {v0 v1 v2 v3 v4 v5 v6 v7 v8 : Value} (h : Frm w vs ov us W) (hu : us.length = 9) (hM : RefV (hidM S w W) x0 x1 x2 x3 x4 x6 s') :
    Blk (w.heap.size + 2) (putFrom (w.heap.size + 2) 0 W [v0, v1, v2, v3, v4, v5, v6, v7, v8]) [v0, v1, v2, v3, v4, v5, v6, v7, v8] ∧ RefV (mask S (putFrom (w.heap.size + 2) 0 W [v0, v1, v2, v3, v4, v5, v6, v7, v8])) x0 x1 x2 x3 x4 x6 s' ∧ Below w.heap.size w (putFrom (w.heap.size + 2) 0 W [v0, v1, v2, v3, v4, v5, v6, v7, v8]) := by
  refine ⟨?_, ?_, below_put (by omega) _ 0 W h.bel⟩
  · have := cells_putFrom [v0, v1, v2, v3, v4, v5, v6, v7, v8] 0 W us h.b2 (by simp [hu])
    have e : us.drop (0 + [v0, v1, v2, v3, v4, v5, v6, v7, v8].length) = [] := List.drop_eq_nil_of_le (by simp [hu])
    rw [e] at this
    simpa using this
  · refine refV_sub hM ?_
    exact off_mask (S := fun k => S k ∨ (w.heap.size ≤ k ∧ k < w.heap.size + 3)) (S' := S) (off_put (.inr (by omega)) _ 0 W) (fun _ hk => .inl (.inl hk))
def StepR (S : Nat → Prop) (s : Dk) (op : DOp) (w : World) (e : Ending) (w' : World) : Prop :=
  ∃ z0 z1 z2 z3 z4 z6 : Sl, e = .returned (.tuple #[stV z0 z1 z2 z3 z4 z6 (s.step op).1.room (s.step op).1.power (s.step op).1.n, .int .i64 (s.step op).2]) ∧ RefV (mask S w') z0 z1 z2 z3 z4 z6 (s.step op).1 ∧ Below w.heap.size w w'
theorem stepR_mk {S : Nat → Prop} {s s' : Dk} {op : DOp} {er : Int} {w w' : World} (hst : s.step op = (s', er)) (z0 z1 z2 z3 z4 z6 : Sl) (hr : RefV (mask S w') z0 z1 z2 z3 z4 z6 s') (hb : Below w.heap.size w w') (room power : Int) (n : Nat) (h1 : room = s'.room) (h2 : power = s'.power) (h3 : n = s'.n) :
    StepR S s op w (.returned (.tuple #[.agg #[.slice z0.a z0.n z0.c, .slice z1.a z1.n z1.c, .slice z2.a z2.n z2.c, .slice z3.a z3.n z3.c, .slice z4.a z4.n z4.c, .int .i64 room, .slice z6.a z6.n z6.c, .int .i64 power, .int .i64 (n : Int)], .int .i64 er])) w' := by
  subst h1 h2 h3
  refine ⟨z0, z1, z2, z3, z4, z6, ?_, ?_, hb⟩
  · rw [hst]; rfl
  · rw [hst]; exact hr
theorem fault_yes {s : Dk} {M : Nat} (hM : M = s.n + 1) {k : Nat} (hk : k < s.fails.length) (e : s.fails[k] = (M : Int)) : s.fault = true := by
  unfold Dk.fault
  rw [decide_eq_true_iff, ← hM, ← e]
  exact List.getElem_mem hk
theorem fault_no {s : Dk} {M : Nat} (hM : M = s.n + 1) (h : ∀ z ∈ s.fails, z ≠ (M : Int)) : s.fault = false := by
  unfold Dk.fault
  rw [decide_eq_false_iff_not, ← hM]
  exact fun hm => h _ hm rfl
theorem i_at {w : World} {ao : Option Addr} {n cap : Nat} {zs : List Int} (h : HoldsI w (.slice ao n cap) zs) : n = zs.length ∧ (0 < n → ∃ b off, ao = some ⟨b, off, none⟩ ∧ b < w.heap.size ∧ ∀ j (hj : j < zs.length), w.cell? ⟨b, off + j, none⟩ = some (.int .i64 zs[j])) := by
  obtain ⟨ao', cap', e, _, _, hc⟩ := h
  simp only [Value.slice.injEq] at e
  obtain ⟨rfl, hn, rfl⟩ := e
  refine ⟨hn, fun hp => ?_⟩
  exact hc (fun e => by rw [e] at hn; simp at hn; omega)
theorem rows_apart {W : World} {b1 b2 k1 k2 n1 n2 : Nat} {t1 t2 : TypeId} {v1 v2 : Value} {c1 c2 : List Value} (h1 : W.ownsRow b1 t1 k1 v1 n1 c1) (h2 : W.ownsRow b2 t2 k2 v2 n2 c2) (ht : t1 ≠ t2) : v1.ownBlock = none ∨ v1.ownBlock ≠ v2.ownBlock := by
  rcases h1.2 with ⟨rfl, _⟩ | ⟨g, cap, cur, rfl, _, hh, _⟩
  · exact .inl rfl
  · right
    rcases h2.2 with ⟨rfl, _⟩ | ⟨g2, cap2, cur2, rfl, _, hh2, _⟩
    · exact fun e => by cases e
    · intro e
      have : g = g2 := Option.some.inj e
      subst this
      rw [hh] at hh2
      simp only [Option.some.injEq, Obj.cells.injEq] at hh2
      exact ht hh2.2.1
end Go.Proofs.YtijnjgnckipghaaGreat
namespace Go.Proofs.YtijnjgnckipghaaGreat
open Go.RowKit
theorem heldL_raw {α : Type} {R : World → Value → α → Prop} {w : World} {a2 : Option Addr} {n2 c2 : Nat} {ps : List α} (h : HeldL R w (.slice a2 n2 c2) ps) : ∃ vs : List Value, Held w (.slice a2 n2 c2) 1 n2 vs ∧ (∀ x ∈ vs, x.oneCell' = true) ∧ n2 = ps.length ∧ vs.length = n2 ∧ ∀ (i : Nat) (u : Value) (x : α), vs[i]? = some u → ps[i]? = some x → R w u x ∧ ∃ a n c, u = .slice a n c := by
  obtain ⟨vs, h1, h2, h3⟩ := h
  obtain ⟨hl, ao, cap, e, _⟩ := id h1
  simp only [Value.slice.injEq] at e
  have en : n2 = vs.length := e.2.1
  refine ⟨vs, by rw [en] at h1 ⊢; exact h1, fun x hx => ?_, by omega, en.symm, h3⟩
  obtain ⟨i, hi, rfl⟩ := List.getElem_of_mem hx
  obtain ⟨_, a, n, c, e⟩ := h3 i vs[i] (ps[i]'(by omega)) (by simp [hi]) (by simp)
  rw [e]
  rfl
theorem heldL_more {α : Type} {R : World → Value → α → Prop} (hR : ∀ w w' u x, R w u x → Sub w w' → R w' u x) {w M : World} {n2 : Nat} {vs : List Value} {ps : List α} (hv : vs.length = n2) (hp : n2 = ps.length) (h3 : ∀ (i : Nat) (u : Value) (x : α), vs[i]? = some u → ps[i]? = some x → R w u x ∧ ∃ a n c, u = .slice a n c) (hs : Sub w M) {z : Value} {ya : Option Addr} {yn yc : Nat} {l : α} (hz : Held M z 1 (n2 + 1) (vs ++ [.slice ya yn yc])) (hy : R M (.slice ya yn yc) l) : HeldL R M z (ps ++ [l]) := by
  refine ⟨vs ++ [.slice ya yn yc], by rw [List.length_append, hv]; exact hz, by rw [List.length_append, List.length_append, hv, hp]; rfl, fun i u x e1 e2 => ?_⟩
  rcases Nat.lt_or_ge i vs.length with hi | hi
  · rw [List.getElem?_append_left hi] at e1
    rw [List.getElem?_append_left (by omega)] at e2
    obtain ⟨q1, q2⟩ := h3 i u x e1 e2
    exact ⟨hR _ _ _ _ q1 hs, q2⟩
  · rw [List.getElem?_append_right hi] at e1
    rw [List.getElem?_append_right (by omega)] at e2
    have ez : i - vs.length = 0 := by
      rcases Nat.eq_zero_or_pos (i - vs.length) with h0 | h0
      · exact h0
      · rw [List.getElem?_eq_none (by simp; omega)] at e1; cases e1
    have ez2 : i - ps.length = 0 := by omega
    rw [ez] at e1
    rw [ez2] at e2
    simp only [List.getElem?_cons_zero, Option.some.injEq] at e1 e2
    subst e1 e2
    exact ⟨hy, ya, yn, yc, rfl⟩
theorem heldL_put {α : Type} {R : World → Value → α → Prop} (hR : ∀ w w' u x, R w u x → Sub w w' → R w' u x) {w M : World} {n2 : Nat} {vs : List Value} {ps : List α} (hv : vs.length = n2) (hp : n2 = ps.length) (h3 : ∀ (i : Nat) (u : Value) (x : α), vs[i]? = some u → ps[i]? = some x → R w u x ∧ ∃ a n c, u = .slice a n c) (hs : Sub w M) {z : Value} {ya : Option Addr} {yn yc k : Nat} {l : α} (hz : Held M z 1 n2 (vs.set k (.slice ya yn yc))) (hy : R M (.slice ya yn yc) l) : HeldL R M z (ps.set k l) := by
  refine ⟨vs.set k (.slice ya yn yc), by rw [List.length_set, hv]; exact hz, by rw [List.length_set, List.length_set, hv, hp], fun i u x e1 e2 => ?_⟩
  rw [List.getElem?_set] at e1 e2
  by_cases h : k = i
  · rw [if_pos h] at e1 e2
    split at e1
    · split at e2
      · simp only [Option.some.injEq] at e1 e2
        subst e1 e2
        exact ⟨hy, ya, yn, yc, rfl⟩
      · cases e2
    · cases e1
  · rw [if_neg h] at e1 e2
    obtain ⟨q1, q2⟩ := h3 i u x e1 e2
    exact ⟨hR _ _ _ _ q1 hs, q2⟩
theorem nm_sub : ∀ (w w' : World) (u : Value) (x : NL), HoldsNm w u x → Sub w w' → HoldsNm w' u x := fun _ _ _ _ h hb => held_sub hb h
theorem by_sub : ∀ (w w' : World) (u : Value) (x : List UInt8), HoldsB w u x → Sub w w' → HoldsB w' u x := fun _ _ _ _ h hb => holdsB_sub hb h
theorem nmGo_del (nm : Nm) (l : NL) : nmGo nm 0 [] true l = delN l nm := by rw [nm_true]; rfl
theorem nmGo_put (nm : Nm) (no : Nat) (l : NL) : nmGo nm no [] false l = putN l nm no := by rw [nm_false]; rfl
end Go.Proofs.YtijnjgnckipghaaGreat
namespace Go.Proofs.YtijnjgnckipghaaGreat
open Go.RowKit
theorem Tryz.info67 : (Tryz.prog.info? 67).map (fun i => (i.zero, i.size, i.bytes)) = some (some (.slice none 0 0), 1, 24) := by kernel_rfl
theorem act5_same (s : Dk) (nm to : Nm) (d : List UInt8) (k : Nat) (h : nm = to) : s.act ⟨5, nm, to, d⟩ k = (s, 0) := by
  subst h
  unfold Dk.act
  rw [if_neg (show ¬ (5 : Int) = 1 by decide), if_neg (show ¬ (5 : Int) = 2 by decide), if_neg (show ¬ (5 : Int) = 3 by decide), if_neg (show ¬ (5 : Int) = 4 by decide), if_pos rfl, if_pos rfl]
theorem act5_other (s : Dk) (nm to : Nm) (d : List UInt8) (k : Nat) (h : ¬ nm = to) : s.act ⟨5, nm, to, d⟩ k = (s.named (putN (delN s.now nm) to k), 0) := by
  unfold Dk.act
  rw [if_neg (show ¬ (5 : Int) = 1 by decide), if_neg (show ¬ (5 : Int) = 2 by decide), if_neg (show ¬ (5 : Int) = 3 by decide), if_neg (show ¬ (5 : Int) = 4 by decide), if_pos rfl, if_neg h]
theorem act2_full (s : Dk) (nm to : Nm) (d : List UInt8) (k : Nat) (h : d ≠ [] ∧ s.room < ((s.used + d.length : Nat) : Int)) : s.act ⟨2, nm, to, d⟩ k = (s, 92) := by
  unfold Dk.act
  rw [if_neg (show ¬ (2 : Int) = 1 by decide), if_pos rfl, if_pos h]
theorem act2_ok (s : Dk) (nm to : Nm) (d : List UInt8) (k : Nat) (h : ¬ (d ≠ [] ∧ s.room < ((s.used + d.length : Nat) : Int))) : s.act ⟨2, nm, to, d⟩ k = ({ s with data := s.data.set k (s.data.getD k [] ++ d) }, 0) := by
  unfold Dk.act
  rw [if_neg (show ¬ (2 : Int) = 1 by decide), if_pos rfl, if_neg h]
theorem held_of_I {w : World} {v : Value} {zs : List Int} (h : HoldsI w v zs) : Held w v 1 zs.length (zs.map I) := by
  obtain ⟨ao, cap, rfl, h0, hcp, hc⟩ := h
  refine ⟨by simp, ao, cap, rfl, h0, hcp, fun hp => ?_⟩
  obtain ⟨b, off, rfl, hlt, hcell⟩ := hc (fun e => by rw [e] at hp; simp at hp)
  refine ⟨b, off, rfl, hlt, fun j u hj => ?_⟩
  obtain ⟨hj1, hj2⟩ := List.getElem?_eq_some_iff.1 hj
  rw [List.length_map] at hj1
  rw [hcell j hj1, ← hj2]
  simp [I]
theorem held_to_I {w : World} {ao : Option Addr} {n cap : Nat} {zs : List Int} (h : Held w (.slice ao n cap) 1 n (zs.map I)) : HoldsI w (.slice ao n cap) zs := by
  obtain ⟨hl, ao', cap', e, h0, hcp, hc⟩ := h
  simp only [Value.slice.injEq] at e
  obtain ⟨rfl, _, rfl⟩ := e
  have en : zs.length = n := by simpa using hl
  refine ⟨ao, cap, by rw [en], h0, by omega, fun hne => ?_⟩
  have hp : 0 < n := by rw [← en]; exact List.length_pos_iff.2 hne
  obtain ⟨b, off, rfl, hlt, hcell⟩ := hc hp
  exact ⟨b, off, rfl, hlt, fun j hj => hcell j _ (by simp [hj, I])⟩
theorem oneI (zs : List Int) : ∀ x ∈ zs.map I, x.oneCell' = true := by
  intro x hx
  obtain ⟨z, _, rfl⟩ := List.mem_map.1 hx
  rfl
theorem row_addr {W : World} {base k n : Nat} {t : TypeId} {v : Value} {cs : List Value} (h : W.ownsRow base t k v n cs) (hn : 0 < n) : ∃ g c, v = .slice (some ⟨g, 0, none⟩) n c ∧ base ≤ g := by
  rcases h.2 with ⟨rfl, rfl⟩ | ⟨g, cap, cur, rfl, hg, _⟩
  · exact absurd hn (Nat.lt_irrefl _)
  · exact ⟨g, cap, rfl, hg⟩
/-- an empty list that a call makes, as a row at block b -/
theorem row_lit0 {base : Nat} (t : TypeId) (W : World) (k : Nat) (hb : base ≤ W.heap.size) : (W.alloc (.cells #[] t)).ownsRow base t k (.slice (some ⟨W.heap.size, 0, none⟩) 0 0) 0 [] :=
  World.ownsRow_lit (base := base) (e := t) (size := k) W #[] 0 hb (by unfold maxLen; omega) (by simp)
theorem firm_len {s : Dk} (h : Wf s) : (s.firm.map (fun n : Nat => (n : Int))).length = s.data.length := by rw [List.length_map, h.len]
theorem sum_le_mul2 (l : List Nat) (m : Nat) (h : ∀ x ∈ l, x ≤ m) : l.sum ≤ l.length * m := by
  induction l with
  | nil => simp
  | cons a r ih =>
    have h1 := h a (by simp)
    have h2 := ih (fun x hx => h x (by simp [hx]))
    rw [List.sum_cons, List.length_cons, Nat.add_mul]
    omega
theorem used_bd8 {s : Dk} (h : Bd 80000000 s) : s.used ≤ 10000000000000000 := by
  unfold Dk.used
  have h1 := sum_le_mul2 (s.now.map (fun p => (s.data.getD p.2 []).length)) 80000000 (fun x hx => by
    obtain ⟨p, _, rfl⟩ := List.mem_map.1 hx
    exact h.2.2.2.2.2 p.2)
  rw [List.length_map] at h1
  have h2 := h.2.2.1
  have h3 : s.now.length * 80000000 ≤ 80000000 * 80000000 := Nat.mul_le_mul_right _ h2
  omega
end Go.Proofs.YtijnjgnckipghaaGreat
namespace Go.Proofs.YtijnjgnckipghaaGreat
open Go.RowKit
theorem held_of_B {w : World} {v : Value} {bs : List UInt8} (h : HoldsB w v bs) : Held w v 1 bs.length (bs.map B) := by
  obtain ⟨ao, cap, rfl, h0, hcp, hc⟩ := h
  refine ⟨by simp, ao, cap, rfl, h0, hcp, fun hp => ?_⟩
  obtain ⟨b, off, rfl, hlt, hcell⟩ := hc (fun e => by rw [e] at hp; simp at hp)
  refine ⟨b, off, rfl, hlt, fun j u hj => ?_⟩
  obtain ⟨hj1, hj2⟩ := List.getElem?_eq_some_iff.1 hj
  rw [List.length_map] at hj1
  rw [hcell j hj1, ← hj2]
  simp
theorem held_to_B {w : World} {ao : Option Addr} {n cap : Nat} {bs : List UInt8} (h : Held w (.slice ao n cap) 1 n (bs.map B)) : HoldsB w (.slice ao n cap) bs := by
  obtain ⟨hl, ao', cap', e, h0, hcp, hc⟩ := h
  simp only [Value.slice.injEq] at e
  obtain ⟨rfl, _, rfl⟩ := e
  have en : bs.length = n := by simpa using hl
  refine ⟨ao, cap, by rw [en], h0, by omega, fun hne => ?_⟩
  have hp : 0 < n := by rw [← en]; exact List.length_pos_iff.2 hne
  obtain ⟨b, off, rfl, hlt, hcell⟩ := hc hp
  exact ⟨b, off, rfl, hlt, fun j hj => hcell j _ (by simp [hj])⟩
theorem oneB (bs : List UInt8) : ∀ x ∈ bs.map B, x.oneCell' = true := by
  intro x hx
  obtain ⟨z, _, rfl⟩ := List.mem_map.1 hx
  rfl
theorem hold_len {w : World} {ao : Option Addr} {n cap : Nat} {bs : List UInt8} (h : HoldsB w (.slice ao n cap) bs) : n = bs.length := by
  obtain ⟨_, _, e, _⟩ := h
  simp only [Value.slice.injEq] at e
  exact e.2.1
end Go.Proofs.YtijnjgnckipghaaGreat
namespace Go.Proofs.YtijnjgnckipghaaGreat
open Go.RowKit
set_option maxRecDepth 20000 in
set_option maxHeartbeats 4000000 in
theorem readRC {w : World} {v : Value} {s : Dk} (h : RefS w v s) (hw : Wf s) (nm : ByteArray) (hs : nm.size ≤ 140737488351232) (hl : s.now.length ≤ 1000000000) (hd : ∀ i, (s.data.getD i []).length ≤ 1000000000) :
    Calls Tryz.prog 30 #[v, .string nm] w fun e w' => ∃ u, e = .returned (.tuple #[u, .int .i64 (s.read nm.data.toList).2]) ∧ HoldsB w' u (s.read nm.data.toList).1 ∧ Below w.heap.size w w' := by
  obtain ⟨⟨a0, n0, c0⟩, ⟨a1, n1, c1⟩, ⟨a2, n2, c2⟩, ⟨a3, n3, c3⟩, ⟨a4, n4, c4⟩, ⟨a6, n6, c6⟩, rfl, h⟩ := h
  unfold stV
  dsimp only
  have HR := hide' h
  have HW := hide' hw
  have HD := hide' hd
  have HL := hide' hl
  have BX := hide' (box9 w (.slice a0 n0 c0) (.slice a1 n1 c1) (.slice a2 n2 c2) (.slice a3 n3 c3) (.slice a4 n4 c4) (.int .i64 s.room) (.slice a6 n6 c6) (.int .i64 s.power) (.int .i64 (s.n : Int)) 38)
  have HN : Hid (∀ Wx : World, HoldsB Wx (.slice none 0 0) []) := fun Wx => ⟨none, 0, rfl, fun _ => rfl, Nat.le_refl _, fun h => absurd rfl h⟩
  clear h hw hd hl
  go_enter Tryz.func30, Tryz.ntmps30
  go_wp2_with fail
  generalize w.alloc (.cells #[.slice a0 n0 c0, .slice a1 n1 c1, .slice a2 n2 c2, .slice a3 n3 c3, .slice a4 n4 c4, .int .i64 s.room, .slice a6 n6 c6, .int .i64 s.power, .int .i64 (s.n : Int)] 38) = W at BX ⊢
  have RS : Hid (∀ Wx, Below w.heap.size w Wx → RefS Wx (.agg #[.slice a0 n0 c0, .slice a1 n1 c1, .slice a2 n2 c2, .slice a3 n3 c3, .slice a4 n4 c4, .int .i64 s.room, .slice a6 n6 c6, .int .i64 s.power, .int .i64 (s.n : Int)]) s) := fun Wx hb => ⟨⟨a0, n0, c0⟩, ⟨a1, n1, c1⟩, ⟨a2, n2, c2⟩, ⟨a3, n3, c3⟩, ⟨a4, n4, c4⟩, ⟨a6, n6, c6⟩, rfl, refV_mono HR.out hb⟩
  have CD := hide' (downRC (RS.out W BX.out.2))
  cases hdn : s.down with
  | true =>
    have E : Hid (s.read nm.data.toList = ([], 93)) := by unfold Hid Dk.read; rw [if_pos hdn]
    rw [hdn] at CD
    clear hdn
    refine CD.out.mono ?_
    rintro e w1 ⟨rfl, hb1⟩
    have B1 := hide' (BX.out.2.trans (hb1.mono BX.out.2.size))
    clear hb1 CD
    go_wp2_with fail
    go_ret2
    rw [E.out]
    exact ⟨_, rfl, HN.out _, B1.out⟩
  | false =>
    have DN := hide' hdn
    rw [hdn] at CD
    clear hdn
    refine CD.out.mono ?_
    rintro e w1 ⟨rfl, hb1⟩
    have B1 := hide' (BX.out.2.trans (hb1.mono BX.out.2.size))
    have K1 := hide' (cells_below BX.out.1 hb1)
    clear hb1 CD
    have CG := hide' (goodRC nm w1 hs)
    cases hg : goodN nm.data.toList with
    | false =>
      have E : Hid (s.read nm.data.toList = ([], 95)) := by unfold Hid Dk.read; rw [if_neg (by rw [DN.out]; decide), if_pos hg]
      rw [hg] at CG
      clear hg
      go_wp2_with fail
      refine CG.out.mono ?_
      rintro e w2 ⟨rfl, ew⟩
      rw [ew]
      clear ew w2
      go_wp2_with fail
      go_ret2
      rw [E.out]
      exact ⟨_, rfl, HN.out _, B1.out⟩
    | true =>
      have GD := hide' hg
      rw [hg] at CG
      clear hg
      go_wp2_with fail
      refine CG.out.mono ?_
      rintro e w2 ⟨rfl, ew⟩
      rw [ew]
      clear ew w2
      obtain ⟨k0, k1, k2, k3, k4, k5, k6, k7, k8⟩ := cells_9 K1.out
      have CA := hide' (atRC (RS.out w1 B1.out) nm HL.out)
      go_wp2_with fail
      refine CA.out.mono ?_
      rintro e w3 ⟨rfl, hb3⟩
      have B3 := hide' (B1.out.trans (hb3.mono B1.out.size))
      have K3 := hide' (cells_below K1.out hb3)
      clear CA hb3 k0 k1 k2 k3 k4 k5 k6 k7 k8
      cases ha : atN s.now nm.data.toList with
      | none =>
        have E : Hid (s.read nm.data.toList = ([], 90)) := by unfold Hid Dk.read; rw [if_neg (by rw [DN.out]; decide), if_neg (by rw [GD.out]; decide), ha]
        have EA : atI s.now nm.data.toList = -1 := by unfold atI; rw [ha]
        rw [EA]
        clear EA ha
        go_wp2_with fail
        go_ret2
        rw [E.out]
        exact ⟨_, rfl, HN.out _, B3.out⟩
      | some kk =>
        have E : Hid (s.read nm.data.toList = (s.data.getD kk [], 0)) := by unfold Hid Dk.read; rw [if_neg (by rw [DN.out]; decide), if_neg (by rw [GD.out]; decide), ha]
        have EA : atI s.now nm.data.toList = (kk : Int) := by unfold atI; rw [ha]
        have hno := (HW.out.now.2 _ (at_some ha)).1
        rw [EA]
        clear EA
        obtain ⟨e3, b3, o3, ea3, hb3, ua, un, uc, y3, hB3⟩ := heldL_at HR.out.data kk hno
        replace ea3 : a3 = some ⟨b3, o3, none⟩ := ea3
        replace e3 : n3 = s.data.length := e3
        subst ea3
        have eg : s.data.getD kk [] = s.data[kk]'hno := by simp [List.getD, hno]
        have y3' := (B3.out.cell (p := ⟨b3, o3 + kk, none⟩) hb3).trans y3
        have CB := hide' (copyB (.slice ua un uc) _ w3 (holdsB_mono hB3 B3.out) (by have := HD.out kk; rw [eg] at this; omega))
        rw [← eg] at CB
        have qk0 : (0 : Int) ≤ (kk : Int) := by omega
        have qk1 : (kk : Int) < (n3 : Int) := by omega
        obtain ⟨k0, k1, k2, k3, k4, k5, k6, k7, k8⟩ := cells_9 K3.out
        clear y3 hB3 ha e3 eg
        go_wp2_with fail
        refine CB.out.mono ?_
        rintro e w4 ⟨u, rfl, ho⟩
        have HO := hide' (And.intro (holdsB_own ho) (B3.out.trans (ho.2.mono B3.out.size)))
        clear ho CB
        go_wp2_with fail
        go_ret2
        rw [E.out]
        exact ⟨u, rfl, HO.out.1, HO.out.2⟩
set_option maxRecDepth 20000 in
set_option maxHeartbeats 4000000 in
theorem listRC {w : World} {v : Value} {s : Dk} (h : RefS w v s) (hl : s.now.length ≤ 1000000000) :
    Calls Tryz.prog 28 #[v] w fun e w' => ∃ u, e = .returned u ∧ Holds w' u s.list ∧ Below w.heap.size w w' := by
  obtain ⟨⟨a0, n0, c0⟩, ⟨a1, n1, c1⟩, ⟨a2, n2, c2⟩, ⟨a3, n3, c3⟩, ⟨a4, n4, c4⟩, ⟨a6, n6, c6⟩, rfl, h⟩ := h
  obtain ⟨hn, _, _, hc⟩ := nm_open h.now
  replace hn : n0 = s.now.length := hn
  unfold stV
  dsimp only
  have HR := hide' h
  have HC := hide' hc
  have HN := hide' hn
  have hl0 : n0 ≤ 1000000000 := by omega
  have BX := hide' (box9 w (.slice a0 n0 c0) (.slice a1 n1 c1) (.slice a2 n2 c2) (.slice a3 n3 c3) (.slice a4 n4 c4) (.int .i64 s.room) (.slice a6 n6 c6) (.int .i64 s.power) (.int .i64 (s.n : Int)) 38)
  have ZW : Hid ((w.alloc (.cells #[.slice a0 n0 c0, .slice a1 n1 c1, .slice a2 n2 c2, .slice a3 n3 c3, .slice a4 n4 c4, .int .i64 s.room, .slice a6 n6 c6, .int .i64 s.power, .int .i64 (s.n : Int)] 38)).heap.size = w.heap.size + 1) := by unfold Hid; simp
  rename_i y1 y2
  clear y1 y2 h hc hn hl
  go_enter Tryz.func28, Tryz.ntmps28
  go_wp2_with fail
  generalize w.alloc (.cells #[.slice a0 n0 c0, .slice a1 n1 c1, .slice a2 n2 c2, .slice a3 n3 c3, .slice a4 n4 c4, .int .i64 s.room, .slice a6 n6 c6, .int .i64 s.power, .int .i64 (s.n : Int)] 38) = W at BX ZW ⊢
  have RS : Hid (∀ Wx, Below w.heap.size w Wx → RefS Wx (.agg #[.slice a0 n0 c0, .slice a1 n1 c1, .slice a2 n2 c2, .slice a3 n3 c3, .slice a4 n4 c4, .int .i64 s.room, .slice a6 n6 c6, .int .i64 s.power, .int .i64 (s.n : Int)]) s) := fun Wx hb => ⟨⟨a0, n0, c0⟩, ⟨a1, n1, c1⟩, ⟨a2, n2, c2⟩, ⟨a3, n3, c3⟩, ⟨a4, n4, c4⟩, ⟨a6, n6, c6⟩, rfl, refV_mono HR.out hb⟩
  go_loopw [3, 4] (fun u i wr => ∃ k : Nat, k ≤ n0 ∧ i = .int .i64 k ∧ Hid (0 < k → s.down = false) ∧ Hid (OwnS W u ((s.now.take k).map (fun p => p.1)) wr)) (fun _ i _ => n0 - (intOf i).toNat)
  case atStart => exact ⟨0, by omega, rfl, fun h => absurd h (Nat.lt_irrefl _), by have h := ownS_empty W; rw [ZW.out] at h; exact h⟩
  case round =>
    obtain ⟨k, hk, rfl, hdk, HO⟩ := hrel
    have KB := hide' (cells_below BX.out.1 HO.out.2)
    have BW := hide' (BX.out.2.trans (HO.out.2.mono BX.out.2.size))
    obtain ⟨k0, k1, k2, k3, k4, k5, k6, k7, k8⟩ := cells_9 KB.out
    by_cases hlt : k < n0
    · have hk' : k < s.now.length := by rw [← HN.out]; exact hlt
      have CD := hide' (downRC (RS.out wr BW.out))
      have qlt : decide ((k : Int) < (n0 : Int)) = true := by simp; omega
      cases hdn : s.down with
      | true =>
        have E : Hid (s.list = (s.now.take k).map (fun p => p.1)) := by
          have e0 : k = 0 := by
            rcases Nat.eq_zero_or_pos k with h0 | h0
            · exact h0
            · rw [hdk.out h0] at hdn; cases hdn
          unfold Hid Dk.list
          rw [if_pos hdn, e0]
          rfl
        rw [hdn] at CD
        clear hdn hdk
        go_wp2_with fail
        refine CD.out.mono ?_
        rintro e w1 ⟨rfl, hb1⟩
        have HO1 := hide' (ownS_mono HO.out hb1)
        clear CD hb1
        go_wp2_with fail
        go_ret
        rw [E.out]
        exact ⟨_, rfl, holds_own HO1.out, BX.out.2.trans (HO1.out.2.mono BX.out.2.size)⟩
      | false =>
        have DN := hide' hdn
        rw [hdn] at CD
        clear hdn
        obtain ⟨b, off, rfl, hb, hcell⟩ := HC.out (by omega)
        have y1 := (hcell k hk').1
        unfold S at y1
        have Y1 : Hid (∀ Wx, Below wr.heap.size wr Wx → Wx.cell? ⟨b, off + k * 2, none⟩ = some (.string ⟨((s.now[k]'hk').1).toArray⟩)) := fun Wx hbx => by
          have hbw := BW.out.trans (hbx.mono BW.out.size)
          rw [hbw.cell (p := ⟨b, off + k * 2, none⟩) hb]
          exact y1
        have E2 : Hid ((s.now.take (k + 1)).map (fun p => p.1) = (s.now.take k).map (fun p => p.1) ++ [(s.now[k]'hk').1]) := by unfold Hid; rw [List.take_succ_eq_append_getElem hk', List.map_append]; rfl
        have hln : Hid (((s.now.take k).map (fun p => p.1)).length = k) := by unfold Hid; simp; omega
        clear hcell y1
        go_wp2_with fail
        refine CD.out.mono ?_
        rintro e w1 ⟨rfl, hb1⟩
        have HO1 := hide' (ownS_mono HO.out hb1)
        have z1 := Y1.out w1 hb1
        obtain ⟨m0, m1, m2, m3, m4, m5, m6, m7, m8⟩ := cells_9 (cells_below KB.out hb1)
        clear CD hb1 k0 k1 k2 k3 k4 k5 k6 k7 k8
        go_wp2_with (at_builtin; refine appS rfl (.tmp 18) (.tmp 25) rfl W _ _ rfl HO1.out (s.now[k]'hk').1 rfl rfl (by rw [hln.out]; omega) ?_; intro v2 w2 hown2; rw [← E2.out] at hown2; have O2 := hide' hown2; clear hown2)
        go_roundw
        case rel => exact ⟨k + 1, by omega, by go_num, fun _ => (by first | exact DN.out | trivial), O2⟩
        case measure => simp [intOf]; omega
    · have E : Hid (s.list = (s.now.take k).map (fun p => p.1)) := by
        have et : s.now.take k = s.now := List.take_of_length_le (by rw [← HN.out]; omega)
        unfold Hid Dk.list
        rw [et]
        cases hdn : s.down with
        | false => rfl
        | true =>
          have e0 : k = 0 := by
            rcases Nat.eq_zero_or_pos k with h0 | h0
            · exact h0
            · rw [hdk.out h0] at hdn; cases hdn
          have : s.now = [] := List.eq_nil_of_length_eq_zero (by have := HN.out; omega)
          rw [this]
          rfl
      have qlt : decide ((k : Int) < (n0 : Int)) = false := by simp; omega
      clear hdk
      go_wp2_with fail
      go_ret
      rw [E.out]
      exact ⟨_, rfl, holds_own HO.out, BX.out.2.trans (HO.out.2.mono BX.out.2.size)⟩
end Go.Proofs.YtijnjgnckipghaaGreat
