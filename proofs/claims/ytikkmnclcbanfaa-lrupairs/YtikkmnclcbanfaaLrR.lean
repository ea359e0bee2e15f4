/- Rows of items: three cells an item; one that the call itself made, more appended to it; what it holds in later worlds. -/
import Derived.Test.YtikkmnclcbanfaaLrM
import Derived.Laws.AppendOwnNone
namespace Go.Proofs.Ytikkmnclcbanfaa
open Go.RowKit
abbrev ItI := It Int
abbrev IL := List ItI
def itV (p : ItI) : Value := .agg #[S p.key, .int .i64 p.v, .int .i64 p.size]
def celT (p : ItI) : List Value := [S p.key, .int .i64 p.v, .int .i64 p.size]
def cellsT (ps : IL) : List Value := ps.flatMap celT
theorem cellsT_len (ps : IL) : (cellsT ps).length = ps.length * 3 := by
  induction ps with
  | nil => rfl
  | cons p ps ih => simp only [cellsT, celT, List.flatMap_cons, List.length_append, List.length_cons, List.length_nil] at ih ⊢; omega
theorem cellsT_snoc (ps : IL) (p : ItI) : cellsT (ps ++ [p]) = cellsT ps ++ celT p := by simp [cellsT]
theorem cellsT_append (ps qs : IL) : cellsT (ps ++ qs) = cellsT ps ++ cellsT qs := by simp [cellsT]
theorem cellsT_at : ∀ (ps : IL) (j : Nat) (h : j < ps.length), (cellsT ps)[j * 3]? = some (S ps[j].key) ∧ (cellsT ps)[j * 3 + 1]? = some (.int .i64 ps[j].v) ∧ (cellsT ps)[j * 3 + 2]? = some (.int .i64 ps[j].size) := by
  intro ps
  induction ps with
  | nil => intro j h; simp at h
  | cons p ps ih =>
    intro j h
    have e : cellsT (p :: ps) = S p.key :: .int .i64 p.v :: .int .i64 p.size :: cellsT ps := by simp [cellsT, celT]
    rw [e]
    cases j with
    | zero => simp
    | succ j =>
      have := ih j (by simpa using h)
      rw [show (j + 1) * 3 = j * 3 + 3 by omega]
      simpa using this
theorem cellsT_one (ps : IL) : ∀ u ∈ cellsT ps, u.oneCell' = true := by
  intro u hu
  obtain ⟨p, _, hu⟩ := List.mem_flatMap.1 hu
  simp [celT] at hu; rcases hu with rfl | rfl | rfl <;> rfl
theorem Try.info35 : (Try.prog.info? 35).map (fun i => (i.zero, i.size, i.bytes)) = some (some (.agg #[.string ⟨#[]⟩, .int .i64 0, .int .i64 0]), 3, 32) := by kernel_rfl
def OwnI (w0 : World) (v : Value) (ps : IL) (w : World) : Prop := w.ownsRow w0.heap.size 35 3 v ps.length (cellsT ps) ∧ Below w0.heap.size w0 w
theorem ownI_nil (w0 w : World) (h : Below w0.heap.size w0 w) : OwnI w0 (.slice none 0 0) [] w := ⟨World.ownsRow_nil _ _ _ _, h⟩
theorem ownI_empty (w0 : World) : OwnI w0 (.slice (some ⟨w0.heap.size, 0, none⟩) 0 0) [] (w0.alloc (.cells #[] 35)) :=
  ⟨World.ownsRow_lit w0 #[] 0 (Nat.le_refl _) (by decide) rfl, (Below.refl _ _).alloc (Nat.le_refl _) _⟩
theorem ownI_mono {w0 w w' : World} {v : Value} {ps : IL} (h : OwnI w0 v ps w) (hb : Below w.heap.size w w') : OwnI w0 v ps w' := by
  have hz := h.2.size
  refine ⟨?_, h.2.trans (hb.mono hz)⟩
  obtain ⟨hl, h1 | ⟨g, cap, cur, rfl, hg, hh, hr⟩⟩ := h.1
  · exact ⟨hl, .inl h1⟩
  · have hlt : g < w.heap.size := by
      rcases Nat.lt_or_ge g w.heap.size with h | h
      · exact h
      · rw [Array.getElem?_eq_none (by omega)] at hh; cases hh
    exact ⟨hl, .inr ⟨g, cap, cur, rfl, hg, by rw [hb.block g hlt]; exact hh, hr⟩⟩
theorem ownI_base {w w1 w2 : World} {v : Value} {ps : IL} (h : OwnI w1 v ps w2) (hb : Below w.heap.size w w1) : OwnI w v ps w2 := by
  have hz := hb.size
  refine ⟨?_, hb.trans (h.2.mono hz)⟩
  obtain ⟨hl, h1 | ⟨g, cap, cur, hv, hg, hr⟩⟩ := h.1
  · exact ⟨hl, .inl h1⟩
  · exact ⟨hl, .inr ⟨g, cap, cur, hv, by omega, hr⟩⟩
/-- the three cells of an item at block b, from off on -/
def ItAt (w : World) (b off : Nat) (p : ItI) : Prop := w.cell? ⟨b, off, none⟩ = some (S p.key) ∧ w.cell? ⟨b, off + 1, none⟩ = some (.int .i64 p.v) ∧ w.cell? ⟨b, off + 2, none⟩ = some (.int .i64 p.size)
/-- v is a slice whose elements are the records ps -/
def HoldsI (w : World) (v : Value) (ps : IL) : Prop :=
  ∃ ao cap, v = .slice ao ps.length cap ∧ (ao = none → cap = 0) ∧ ps.length ≤ cap ∧ (ps ≠ [] → ∃ b off, ao = some ⟨b, off, none⟩ ∧ b < w.heap.size ∧ ∀ j (h : j < ps.length), ItAt w b (off + j * 3) ps[j])
theorem holdsI_own {w0 w : World} {v : Value} {ps : IL} (h : OwnI w0 v ps w) : HoldsI w v ps := by
  obtain ⟨hl, h1 | ⟨g, cap, cur, rfl, hg, hh, hr⟩⟩ := h.1
  · obtain ⟨rfl, hn⟩ := h1
    obtain rfl : ps = [] := List.eq_nil_of_length_eq_zero hn
    exact ⟨none, 0, rfl, fun _ => rfl, Nat.le_refl _, fun h => absurd rfl h⟩
  · refine ⟨_, cap, rfl, fun e => (by cases e), hr.1, fun _ => ⟨g, 0, rfl, (h.1.lt g rfl).2, fun j hj => ?_⟩⟩
    have c := cellsT_at ps j hj
    unfold ItAt
    rw [Nat.zero_add]
    exact ⟨by rw [h.1.cellAt (j * 3) (by omega)]; exact c.1, by rw [h.1.cellAt (j * 3 + 1) (by omega)]; exact c.2.1, by rw [h.1.cellAt (j * 3 + 2) (by omega)]; exact c.2.2⟩
theorem itAt_mono {w w' : World} {b off : Nat} {p : ItI} (h : ItAt w b off p) (hb : Below w.heap.size w w') (hlt : b < w.heap.size) : ItAt w' b off p :=
  ⟨(hb.cell (p := ⟨b, off, none⟩) hlt).trans h.1, (hb.cell (p := ⟨b, off + 1, none⟩) hlt).trans h.2.1, (hb.cell (p := ⟨b, off + 2, none⟩) hlt).trans h.2.2⟩
theorem holdsI_mono {w w' : World} {v : Value} {ps : IL} (h : HoldsI w v ps) (hb : Below w.heap.size w w') : HoldsI w' v ps := by
  obtain ⟨ao, cap, rfl, h0, hcp, hc⟩ := h
  refine ⟨ao, cap, rfl, h0, hcp, fun hne => ?_⟩
  obtain ⟨b, off, rfl, hlt, hcell⟩ := hc hne
  have := hb.size
  exact ⟨b, off, rfl, by omega, fun j hj => itAt_mono (hcell j hj) hb hlt⟩
theorem holdsI_nil (w : World) : HoldsI w (.slice none 0 0) [] := ⟨none, 0, rfl, fun _ => rfl, Nat.le_refl _, fun h => absurd rfl h⟩
/-- one item appended -/
theorem appI {ops : Array Oper} {rest : List Oper} {o : Oper} {a : Act} {Q : Exit → Act → World → Prop} {wr : World} {q1 q2 : Int} {x : ByteArray} {H : Nat} (hgd : o.guard = none) (s z : Operand)
    (ho : o.op = .call { callee := .builtin .append, args := #[s, z], argTypes := #[26, 26] }) (w0 : World) (v : Value) (ps : IL) (hs : a.eval s = v) (hown : OwnI w0 v ps wr)
    (p : ItI) (hx : x = ⟨p.key.toArray⟩) (h1 : q1 = p.v) (h2 : q2 = p.size) (hz : a.eval z = .slice (some ⟨H, 0, none⟩) 1 1) (hH : wr.heap.size = H) (hlen : (ps.length + 1) * 32 ≤ 140737488355328)
    (h : ∀ v' w', OwnI w0 v' (ps ++ [p]) w' → wpList Try.prog ops Q rest (a.put o.dst v') w') : wpList Try.prog ops Q (o :: rest) a (wr.alloc (.cells #[.string x, .int .i64 q1, .int .i64 q2] 35)) := by
  subst hx h1 h2 hH
  obtain ⟨i0, hi, hz0, hz1, hz2⟩ := info_parts Try.info35
  have hsz := hown.2.size
  refine wpList_append_own _ hgd s z 26 ho w0.heap.size 35 i0 (.agg #[.string ⟨#[]⟩, .int .i64 0, .int .i64 0]) 3 32 Try.underlying26 hi hz0 hz1 hz2 rfl (by decide) v ps.length (cellsT ps) hs (hown.1.alloc _) ⟨wr.heap.size, 0, none⟩ 1 1 (celT p) hz rfl ?_ ?_ ?_ ?_ ?_ ?_
  · intro j u hj
    match j, hj with
    | 0, hj => simp [celT] at hj; subst hj; simp [Addr.add, S]
    | 1, hj => simp [celT] at hj; subst hj; simp [Addr.add]
    | 2, hj => simp [celT] at hj; subst hj; simp [Addr.add]
  · intro u hu; simp [celT] at hu; rcases hu with rfl | rfl | rfl <;> rfl
  · unfold maxLen; omega
  · omega
  · simp; omega
  · intro v' w' h1 h2 _
    refine h v' w' ⟨by rw [cellsT_snoc]; simpa using h1, ?_⟩
    refine Below.grown (hown.2.alloc (by omega) _) h2 (by simp; omega) ?_
    intro k hk
    exact (hown.1.lt k hk).1
/-- a whole list of records appended -/
theorem appAllI {ops : Array Oper} {rest : List Oper} {o : Oper} {a : Act} {Q : Exit → Act → World → Prop} {wr : World} (hgd : o.guard = none) (s z : Operand)
    (ho : o.op = .call { callee := .builtin .append, args := #[s, z], argTypes := #[26, 26] }) (w0 : World) (v : Value) (ps : IL) (hs : a.eval s = v) (hown : OwnI w0 v ps wr)
    (u : Value) (qs : IL) (hz : a.eval z = u) (hu : HoldsI wr u qs) (hlen : (ps.length + qs.length) * 32 ≤ 140737488355328)
    (h : ∀ v' w', OwnI w0 v' (ps ++ qs) w' → wpList Try.prog ops Q rest (a.put o.dst v') w') : wpList Try.prog ops Q (o :: rest) a wr := by
  obtain ⟨i0, hi, hz0, hz1, hz2⟩ := info_parts Try.info35
  have hsz := hown.2.size
  obtain ⟨ao, cap, rfl, h0, hcp, hc⟩ := hu
  have key : ∀ (ad : Addr), ao = some ad → (∀ j x, (cellsT qs)[j]? = some x → wr.cell? (ad.add j) = some x) → wpList Try.prog ops Q (o :: rest) a wr := by
    intro ad e hnews
    subst e
    refine wpList_append_own _ hgd s z 26 ho w0.heap.size 35 i0 (.agg #[.string ⟨#[]⟩, .int .i64 0, .int .i64 0]) 3 32 Try.underlying26 hi hz0 hz1 hz2 rfl (by decide) v ps.length (cellsT ps) hs hown.1 ad qs.length cap (cellsT qs) hz (cellsT_len qs) hnews (cellsT_one qs) (by unfold maxLen; omega) (by omega) hsz ?_
    intro v' w' h1 h2 _
    refine h v' w' ⟨by rw [cellsT_append, List.length_append]; exact h1, ?_⟩
    refine Below.grown hown.2 h2 (by omega) ?_
    intro k hk
    exact (hown.1.lt k hk).1
  by_cases hq : qs = []
  · subst hq
    cases ao with
    | none =>
      obtain rfl := h0 rfl
      refine wpList_append_own_none hgd s z 26 ho w0.heap.size 35 i0 3 Try.underlying26 hi v ps.length (cellsT ps) hs hown.1 hz ?_
      exact h v wr (by rw [List.append_nil]; exact hown)
    | some ad => exact key ad rfl (fun j x hj => by simp [cellsT] at hj)
  · obtain ⟨b, off, rfl, hlt, hcell⟩ := hc hq
    refine key ⟨b, off, none⟩ rfl (fun j x hj => ?_)
    have hjl : j < qs.length * 3 := by
      rcases Nat.lt_or_ge j (qs.length * 3) with h | h
      · exact h
      · rw [List.getElem?_eq_none (by rw [cellsT_len]; omega)] at hj; cases hj
    have e : (⟨b, off, none⟩ : Addr).add j = ⟨b, off + j, none⟩ := Go.WideShapes.add_plain _ _ _
    rw [e]
    have hk : j / 3 < qs.length := by omega
    have c := cellsT_at qs (j / 3) hk
    have d := hcell (j / 3) hk
    unfold ItAt at d
    rcases (by omega : j = j / 3 * 3 ∨ j = j / 3 * 3 + 1 ∨ j = j / 3 * 3 + 2) with hj2 | hj2 | hj2
    · have c' := c.1
      rw [← hj2] at c'
      rw [c'] at hj
      have d' := d.1
      rw [← hj2] at d'
      rw [d']; exact hj
    · have c' := c.2.1
      rw [← hj2] at c'
      rw [c'] at hj
      have d' := d.2.1
      rw [Nat.add_assoc, ← hj2] at d'
      rw [d']; exact hj
    · have c' := c.2.2
      rw [← hj2] at c'
      rw [c'] at hj
      have d' := d.2.2
      rw [Nat.add_assoc, ← hj2] at d'
      rw [d']; exact hj
theorem ownI_lit (w0 : World) (p : ItI) : OwnI w0 (.slice (some ⟨w0.heap.size, 0, none⟩) 1 1) [p] (w0.alloc (.cells #[S p.key, .int .i64 p.v, .int .i64 p.size] 35)) :=
  ⟨World.ownsRow_lit w0 #[S p.key, .int .i64 p.v, .int .i64 p.size] 1 (Nat.le_refl _) (by decide) rfl, (Below.refl _ _).alloc (Nat.le_refl _) _⟩
theorem holdsI_sub {M W : World} {v : Value} {ps : IL} (h : HoldsI M v ps) (hs : Sub M W) : HoldsI W v ps := by
  obtain ⟨ao, cap, rfl, h0, hcp, hc⟩ := h
  refine ⟨ao, cap, rfl, h0, hcp, fun hne => ?_⟩
  obtain ⟨b, off, rfl, hlt, hcell⟩ := hc hne
  exact ⟨b, off, rfl, Nat.lt_of_lt_of_le hlt hs.size, fun j hj => ⟨hs.cell _ _ (hcell j hj).1, hs.cell _ _ (hcell j hj).2.1, hs.cell _ _ (hcell j hj).2.2⟩⟩
/-- a row of the call's own lies in no older block -/
theorem ownI_mask {w w' : World} {v : Value} {ps : IL} {T : Nat → Prop} (h : OwnI w v ps w') (hT : ∀ k, T k → k < w.heap.size) : HoldsI (mask T w') v ps := by
  obtain ⟨ao, cap, rfl, h0, hcp, hc⟩ := holdsI_own h
  refine ⟨ao, cap, rfl, h0, hcp, fun hne => ?_⟩
  obtain ⟨b, off, rfl, hlt, hcell⟩ := hc hne
  have hb : w.heap.size ≤ b := (h.1.lt b rfl).1
  have hn : ¬ T b := fun e => by have := hT b e; omega
  exact ⟨b, off, rfl, by rw [mask_size]; exact hlt, fun j hj => ⟨by rw [mask_cell w' (a := ⟨b, _, none⟩) hn]; exact (hcell j hj).1, by rw [mask_cell w' (a := ⟨b, _, none⟩) hn]; exact (hcell j hj).2.1, by rw [mask_cell w' (a := ⟨b, _, none⟩) hn]; exact (hcell j hj).2.2⟩⟩
end Go.Proofs.Ytikkmnclcbanfaa
