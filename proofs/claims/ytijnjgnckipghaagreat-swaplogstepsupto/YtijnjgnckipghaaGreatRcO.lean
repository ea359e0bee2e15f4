/- Rows of records: four cells a record; one that the call itself made, more appended to it; what it holds in later worlds; a list of records that came in. -/
import Derived.Test.YtijnjgnckipghaaGreatBw8
import Derived.Laws.AppendOwnNone
namespace Go.Proofs.YtijnjgnckipghaaGreat
open Go.RowKit
/-- a record: its number, what it does, a file's number, an id -/
abbrev Rc := Int × Int × Int × List UInt8
abbrev RL := List Rc
def rcV (p : Rc) : Value := recV p.1 p.2.1 p.2.2.1 p.2.2.2
def celR (p : Rc) : List Value := [.int .i64 p.1, .int .i64 p.2.1, .int .i64 p.2.2.1, S p.2.2.2]
def cellsR (ps : RL) : List Value := ps.flatMap celR
theorem cellsR_len (ps : RL) : (cellsR ps).length = ps.length * 4 := by
  induction ps with
  | nil => rfl
  | cons p ps ih => simp only [cellsR, celR, List.flatMap_cons, List.length_append, List.length_cons, List.length_nil] at ih ⊢; omega
theorem cellsR_snoc (ps : RL) (p : Rc) : cellsR (ps ++ [p]) = cellsR ps ++ celR p := by simp [cellsR]
theorem cellsR_append (ps qs : RL) : cellsR (ps ++ qs) = cellsR ps ++ cellsR qs := by simp [cellsR]
theorem cellsR_at : ∀ (ps : RL) (j : Nat) (h : j < ps.length), (cellsR ps)[j * 4]? = some (.int .i64 ps[j].1) ∧ (cellsR ps)[j * 4 + 1]? = some (.int .i64 ps[j].2.1) ∧ (cellsR ps)[j * 4 + 2]? = some (.int .i64 ps[j].2.2.1) ∧ (cellsR ps)[j * 4 + 3]? = some (S ps[j].2.2.2) := by
  intro ps
  induction ps with
  | nil => intro j h; simp at h
  | cons p ps ih =>
    intro j h
    have e : cellsR (p :: ps) = .int .i64 p.1 :: .int .i64 p.2.1 :: .int .i64 p.2.2.1 :: S p.2.2.2 :: cellsR ps := by simp [cellsR, celR]
    rw [e]
    cases j with
    | zero => simp
    | succ j =>
      have := ih j (by simpa using h)
      rw [show (j + 1) * 4 = j * 4 + 4 by omega]
      simpa using this
theorem cellsR_one (ps : RL) : ∀ u ∈ cellsR ps, u.oneCell' = true := by
  intro u hu
  obtain ⟨p, _, hu⟩ := List.mem_flatMap.1 hu
  simp [celR] at hu; rcases hu with rfl | rfl | rfl | rfl <;> rfl
theorem Tryz.info53 : (Tryz.prog.info? 53).map (fun i => (i.zero, i.size, i.bytes)) = some (some (.agg #[.int .i64 0, .int .i64 0, .int .i64 0, .string ⟨#[]⟩]), 4, 40) := by kernel_rfl
def OwnR (w0 : World) (v : Value) (ps : RL) (w : World) : Prop := w.ownsRow w0.heap.size 53 4 v ps.length (cellsR ps) ∧ Below w0.heap.size w0 w
theorem ownR_nil (w0 w : World) (h : Below w0.heap.size w0 w) : OwnR w0 (.slice none 0 0) [] w := ⟨World.ownsRow_nil _ _ _ _, h⟩
theorem ownR_empty (w0 : World) : OwnR w0 (.slice (some ⟨w0.heap.size, 0, none⟩) 0 0) [] (w0.alloc (.cells #[] 53)) :=
  ⟨World.ownsRow_lit w0 #[] 0 (Nat.le_refl _) (by decide) rfl, (Below.refl _ _).alloc (Nat.le_refl _) _⟩
theorem ownR_mono {w0 w w' : World} {v : Value} {ps : RL} (h : OwnR w0 v ps w) (hb : Below w.heap.size w w') : OwnR w0 v ps w' := by
  have hz := h.2.size
  refine ⟨?_, h.2.trans (hb.mono hz)⟩
  obtain ⟨hl, h1 | ⟨g, cap, cur, rfl, hg, hh, hr⟩⟩ := h.1
  · exact ⟨hl, .inl h1⟩
  · have hlt : g < w.heap.size := by
      rcases Nat.lt_or_ge g w.heap.size with h | h
      · exact h
      · rw [Array.getElem?_eq_none (by omega)] at hh; cases hh
    exact ⟨hl, .inr ⟨g, cap, cur, rfl, hg, by rw [hb.block g hlt]; exact hh, hr⟩⟩
theorem ownR_base {w w1 w2 : World} {v : Value} {ps : RL} (h : OwnR w1 v ps w2) (hb : Below w.heap.size w w1) : OwnR w v ps w2 := by
  have hz := hb.size
  refine ⟨?_, hb.trans (h.2.mono hz)⟩
  obtain ⟨hl, h1 | ⟨g, cap, cur, hv, hg, hr⟩⟩ := h.1
  · exact ⟨hl, .inl h1⟩
  · exact ⟨hl, .inr ⟨g, cap, cur, hv, by omega, hr⟩⟩
/-- the four cells of a record at block b, from off on -/
def RcAt (w : World) (b off : Nat) (p : Rc) : Prop := w.cell? ⟨b, off, none⟩ = some (.int .i64 p.1) ∧ w.cell? ⟨b, off + 1, none⟩ = some (.int .i64 p.2.1) ∧ w.cell? ⟨b, off + 2, none⟩ = some (.int .i64 p.2.2.1) ∧ w.cell? ⟨b, off + 3, none⟩ = some (S p.2.2.2)
/-- v is a slice whose elements are the records ps -/
def HoldsR (w : World) (v : Value) (ps : RL) : Prop :=
  ∃ ao cap, v = .slice ao ps.length cap ∧ (ao = none → cap = 0) ∧ ps.length ≤ cap ∧ (ps ≠ [] → ∃ b off, ao = some ⟨b, off, none⟩ ∧ b < w.heap.size ∧ ∀ j (h : j < ps.length), RcAt w b (off + j * 4) ps[j])
theorem holdsR_own {w0 w : World} {v : Value} {ps : RL} (h : OwnR w0 v ps w) : HoldsR w v ps := by
  obtain ⟨hl, h1 | ⟨g, cap, cur, rfl, hg, hh, hr⟩⟩ := h.1
  · obtain ⟨rfl, hn⟩ := h1
    obtain rfl : ps = [] := List.eq_nil_of_length_eq_zero hn
    exact ⟨none, 0, rfl, fun _ => rfl, Nat.le_refl _, fun h => absurd rfl h⟩
  · refine ⟨_, cap, rfl, fun e => (by cases e), hr.1, fun _ => ⟨g, 0, rfl, (h.1.lt g rfl).2, fun j hj => ?_⟩⟩
    have c := cellsR_at ps j hj
    unfold RcAt
    rw [Nat.zero_add]
    exact ⟨by rw [h.1.cellAt (j * 4) (by omega)]; exact c.1, by rw [h.1.cellAt (j * 4 + 1) (by omega)]; exact c.2.1, by rw [h.1.cellAt (j * 4 + 2) (by omega)]; exact c.2.2.1, by rw [h.1.cellAt (j * 4 + 3) (by omega)]; exact c.2.2.2⟩
theorem rcAt_mono {w w' : World} {b off : Nat} {p : Rc} (h : RcAt w b off p) (hb : Below w.heap.size w w') (hlt : b < w.heap.size) : RcAt w' b off p :=
  ⟨(hb.cell (p := ⟨b, off, none⟩) hlt).trans h.1, (hb.cell (p := ⟨b, off + 1, none⟩) hlt).trans h.2.1, (hb.cell (p := ⟨b, off + 2, none⟩) hlt).trans h.2.2.1, (hb.cell (p := ⟨b, off + 3, none⟩) hlt).trans h.2.2.2⟩
theorem holdsR_mono {w w' : World} {v : Value} {ps : RL} (h : HoldsR w v ps) (hb : Below w.heap.size w w') : HoldsR w' v ps := by
  obtain ⟨ao, cap, rfl, h0, hcp, hc⟩ := h
  refine ⟨ao, cap, rfl, h0, hcp, fun hne => ?_⟩
  obtain ⟨b, off, rfl, hlt, hcell⟩ := hc hne
  have := hb.size
  exact ⟨b, off, rfl, by omega, fun j hj => rcAt_mono (hcell j hj) hb hlt⟩
theorem holdsR_nil (w : World) : HoldsR w (.slice none 0 0) [] := ⟨none, 0, rfl, fun _ => rfl, Nat.le_refl _, fun h => absurd rfl h⟩
/-- one record appended -/
theorem appR {ops : Array Oper} {rest : List Oper} {o : Oper} {a : Act} {Q : Exit → Act → World → Prop} {wr : World} {q0 q1 q2 : Int} {x : ByteArray} {H : Nat} (hgd : o.guard = none) (s z : Operand)
    (ho : o.op = .call { callee := .builtin .append, args := #[s, z], argTypes := #[42, 42] }) (w0 : World) (v : Value) (ps : RL) (hs : a.eval s = v) (hown : OwnR w0 v ps wr)
    (p : Rc) (h0 : q0 = p.1) (h1 : q1 = p.2.1) (h2 : q2 = p.2.2.1) (hx : x = ⟨p.2.2.2.toArray⟩) (hz : a.eval z = .slice (some ⟨H, 0, none⟩) 1 1) (hH : wr.heap.size = H) (hlen : (ps.length + 1) * 40 ≤ 140737488355328)
    (h : ∀ v' w', OwnR w0 v' (ps ++ [p]) w' → wpList Tryz.prog ops Q rest (a.put o.dst v') w') : wpList Tryz.prog ops Q (o :: rest) a (wr.alloc (.cells #[.int .i64 q0, .int .i64 q1, .int .i64 q2, .string x] 53)) := by
  subst hx h0 h1 h2 hH
  obtain ⟨i0, hi, hz0, hz1, hz2⟩ := info_parts Tryz.info53
  have hsz := hown.2.size
  refine wpList_append_own _ hgd s z 42 ho w0.heap.size 53 i0 (.agg #[.int .i64 0, .int .i64 0, .int .i64 0, .string ⟨#[]⟩]) 4 40 Tryz.underlying42 hi hz0 hz1 hz2 rfl (by decide) v ps.length (cellsR ps) hs (hown.1.alloc _) ⟨wr.heap.size, 0, none⟩ 1 1 (celR p) hz rfl ?_ ?_ ?_ ?_ ?_ ?_
  · intro j u hj
    match j, hj with
    | 0, hj => simp [celR] at hj; subst hj; simp [Addr.add]
    | 1, hj => simp [celR] at hj; subst hj; simp [Addr.add]
    | 2, hj => simp [celR] at hj; subst hj; simp [Addr.add]
    | 3, hj => simp [celR] at hj; subst hj; simp [Addr.add, S]
  · intro u hu; simp [celR] at hu; rcases hu with rfl | rfl | rfl | rfl <;> rfl
  · unfold maxLen; omega
  · omega
  · simp; omega
  · intro v' w' h1 h2 _
    refine h v' w' ⟨by rw [cellsR_snoc]; simpa using h1, ?_⟩
    refine Below.grown (hown.2.alloc (by omega) _) h2 (by simp; omega) ?_
    intro k hk
    exact (hown.1.lt k hk).1
/-- a whole list of records appended -/
theorem appAllR {ops : Array Oper} {rest : List Oper} {o : Oper} {a : Act} {Q : Exit → Act → World → Prop} {wr : World} (hgd : o.guard = none) (s z : Operand)
    (ho : o.op = .call { callee := .builtin .append, args := #[s, z], argTypes := #[42, 42] }) (w0 : World) (v : Value) (ps : RL) (hs : a.eval s = v) (hown : OwnR w0 v ps wr)
    (u : Value) (qs : RL) (hz : a.eval z = u) (hu : HoldsR wr u qs) (hlen : (ps.length + qs.length) * 40 ≤ 140737488355328)
    (h : ∀ v' w', OwnR w0 v' (ps ++ qs) w' → wpList Tryz.prog ops Q rest (a.put o.dst v') w') : wpList Tryz.prog ops Q (o :: rest) a wr := by
  obtain ⟨i0, hi, hz0, hz1, hz2⟩ := info_parts Tryz.info53
  have hsz := hown.2.size
  obtain ⟨ao, cap, rfl, h0, hcp, hc⟩ := hu
  have key : ∀ (ad : Addr), ao = some ad → (∀ j x, (cellsR qs)[j]? = some x → wr.cell? (ad.add j) = some x) → wpList Tryz.prog ops Q (o :: rest) a wr := by
    intro ad e hnews
    subst e
    refine wpList_append_own _ hgd s z 42 ho w0.heap.size 53 i0 (.agg #[.int .i64 0, .int .i64 0, .int .i64 0, .string ⟨#[]⟩]) 4 40 Tryz.underlying42 hi hz0 hz1 hz2 rfl (by decide) v ps.length (cellsR ps) hs hown.1 ad qs.length cap (cellsR qs) hz (cellsR_len qs) hnews (cellsR_one qs) (by unfold maxLen; omega) (by omega) hsz ?_
    intro v' w' h1 h2 _
    refine h v' w' ⟨by rw [cellsR_append, List.length_append]; exact h1, ?_⟩
    refine Below.grown hown.2 h2 (by omega) ?_
    intro k hk
    exact (hown.1.lt k hk).1
  by_cases hq : qs = []
  · subst hq
    cases ao with
    | none =>
      obtain rfl := h0 rfl
      refine wpList_append_own_none hgd s z 42 ho w0.heap.size 53 i0 4 Tryz.underlying42 hi v ps.length (cellsR ps) hs hown.1 hz ?_
      exact h v wr (by rw [List.append_nil]; exact hown)
    | some ad => exact key ad rfl (fun j x hj => by simp [cellsR] at hj)
  · obtain ⟨b, off, rfl, hlt, hcell⟩ := hc hq
    refine key ⟨b, off, none⟩ rfl (fun j x hj => ?_)
    have hjl : j < qs.length * 4 := by
      rcases Nat.lt_or_ge j (qs.length * 4) with h | h
      · exact h
      · rw [List.getElem?_eq_none (by rw [cellsR_len]; omega)] at hj; cases hj
    have e : (⟨b, off, none⟩ : Addr).add j = ⟨b, off + j, none⟩ := Go.WideShapes.add_plain _ _ _
    rw [e]
    have hk : j / 4 < qs.length := by omega
    have c := cellsR_at qs (j / 4) hk
    have d := hcell (j / 4) hk
    unfold RcAt at d
    rcases (by omega : j = j / 4 * 4 ∨ j = j / 4 * 4 + 1 ∨ j = j / 4 * 4 + 2 ∨ j = j / 4 * 4 + 3) with hj2 | hj2 | hj2 | hj2
    · have c' := c.1
      rw [← hj2] at c'
      rw [c'] at hj
      have d' := d.1
      rw [← hj2] at d'
      rw [d']; exact hj
    · have c' := c.2.1
      rw [← hj2] at c'
      rw [c'] at hj
      have d' := d.2.1
      rw [Nat.add_assoc, ← hj2] at d'
      rw [d']; exact hj
    · have c' := c.2.2.1
      rw [← hj2] at c'
      rw [c'] at hj
      have d' := d.2.2.1
      rw [Nat.add_assoc, ← hj2] at d'
      rw [d']; exact hj
    · have c' := c.2.2.2
      rw [← hj2] at c'
      rw [c'] at hj
      have d' := d.2.2.2
      rw [Nat.add_assoc, ← hj2] at d'
      rw [d']; exact hj
end Go.Proofs.YtijnjgnckipghaaGreat
