/- Rows of directives, the program's and the document's: one more appended to a row of one's own, and what it holds in later worlds. -/
import Derived.Test.YtemmghmacbofaaaDoorKnP
import Derived.Test.YtemmghmacbofaaaDoorFdT
namespace Go.Proofs.YtemmghmacbofaaaDoor
open Go.RowKit
def cellsD (ds : List DV) : List Value := ds.flatMap (fun d => [S d.1, S d.2.1, .bool d.2.2])
theorem cellsD_len (ds : List DV) : (cellsD ds).length = ds.length * 3 := by
  induction ds with
  | nil => rfl
  | cons p ps ih => simp only [cellsD, List.flatMap_cons, List.length_append, List.length_cons, List.length_nil] at ih ⊢; omega
theorem cellsD_snoc (ds : List DV) (p : DV) : cellsD (ds ++ [p]) = cellsD ds ++ [S p.1, S p.2.1, .bool p.2.2] := by simp [cellsD]
theorem cellsD_at : ∀ (ds : List DV) (j : Nat) (h : j < ds.length), (cellsD ds)[j * 3]? = some (S ds[j].1) ∧ (cellsD ds)[j * 3 + 1]? = some (S ds[j].2.1) ∧ (cellsD ds)[j * 3 + 2]? = some (.bool ds[j].2.2) := by
  intro ds
  induction ds with
  | nil => intro j h; simp at h
  | cons p ps ih =>
    intro j h
    have e : cellsD (p :: ps) = S p.1 :: S p.2.1 :: .bool p.2.2 :: cellsD ps := by simp [cellsD]
    rw [e]
    cases j with
    | zero => simp
    | succ j =>
      have := ih j (by simpa using h)
      rw [show (j + 1) * 3 = j * 3 + 3 by omega]
      simpa using this
/-- a list of directives as it is read -/
def HoldsD (w : World) (v : Value) (ds : List DV) : Prop :=
  ∃ ao cap b, v = .slice ao ds.length cap ∧ (0 < ds.length → ao = some ⟨b, 0, none⟩ ∧ b < w.heap.size ∧ ∀ j (h : j < ds.length), w.cell? ⟨b, j * 3, none⟩ = some (S ds[j].1) ∧ w.cell? ⟨b, j * 3 + 1, none⟩ = some (S ds[j].2.1) ∧ w.cell? ⟨b, j * 3 + 2, none⟩ = some (.bool ds[j].2.2))
theorem holdsD_mono {w w' : World} {v : Value} {ds : List DV} (h : HoldsD w v ds) (hb : Below w.heap.size w w') : HoldsD w' v ds := by
  obtain ⟨ao, cap, b, rfl, hc⟩ := h
  refine ⟨ao, cap, b, rfl, fun hp => ?_⟩
  obtain ⟨h1, h2, h3⟩ := hc hp
  have := hb.size
  exact ⟨h1, by omega, fun j hj => ⟨by rw [hb.cell (p := ⟨b, j * 3, none⟩) h2]; exact (h3 j hj).1, by rw [hb.cell (p := ⟨b, j * 3 + 1, none⟩) h2]; exact (h3 j hj).2.1, by rw [hb.cell (p := ⟨b, j * 3 + 2, none⟩) h2]; exact (h3 j hj).2.2⟩⟩
theorem Tryd.infoDC : (Tryd.prog.info? 55).map (fun i => (i.zero, i.size, i.bytes)) = some (some (.agg #[.string ⟨#[]⟩, .string ⟨#[]⟩, .bool false]), 3, 40) := by kernel_rfl
def OwnDC (w0 : World) (v : Value) (ds : List DV) (w : World) : Prop := w.ownsRow w0.heap.size 55 3 v ds.length (cellsD ds) ∧ Below w0.heap.size w0 w
theorem ownDC_nil (w0 w : World) (h : Below w0.heap.size w0 w) : OwnDC w0 (.slice none 0 0) [] w := ⟨World.ownsRow_nil _ _ _ _, h⟩
theorem ownDC_empty (w0 : World) : OwnDC w0 (.slice (some ⟨w0.heap.size, 0, none⟩) 0 0) [] (w0.alloc (.cells #[] 55)) :=
  ⟨World.ownsRow_lit w0 #[] 0 (Nat.le_refl _) (by decide) rfl, (Below.refl _ _).alloc (Nat.le_refl _) _⟩
theorem ownDC_mono {w0 w w' : World} {v : Value} {ds : List DV} (h : OwnDC w0 v ds w) (hb : Below w.heap.size w w') : OwnDC w0 v ds w' := by
  have hz := h.2.size
  refine ⟨?_, h.2.trans (hb.mono hz)⟩
  obtain ⟨hl, h1 | ⟨g, cap, cur, rfl, hg, hh, hr⟩⟩ := h.1
  · exact ⟨hl, .inl h1⟩
  · have hlt : g < w.heap.size := by
      rcases Nat.lt_or_ge g w.heap.size with h | h
      · exact h
      · rw [Array.getElem?_eq_none (by omega)] at hh; cases hh
    exact ⟨hl, .inr ⟨g, cap, cur, rfl, hg, by rw [hb.block g hlt]; exact hh, hr⟩⟩
theorem ownDC_base {w w1 w2 : World} {v : Value} {ds : List DV} (h : OwnDC w1 v ds w2) (hb : Below w.heap.size w w1) : OwnDC w v ds w2 := by
  have hz := hb.size
  refine ⟨?_, hb.trans (h.2.mono hz)⟩
  obtain ⟨hl, h1 | ⟨g, cap, cur, hv, hg, hr⟩⟩ := h.1
  · exact ⟨hl, .inl h1⟩
  · exact ⟨hl, .inr ⟨g, cap, cur, hv, by omega, hr⟩⟩
/-- one directive more, and what lies in other blocks stays -/
theorem appDC {ops : Array Oper} {rest : List Oper} {o : Oper} {a : Act} {Q : Exit → Act → World → Prop} {wr : World} {x y : ByteArray} {z : Bool} (hgd : o.guard = none) (s u : Operand)
    (ho : o.op = .call { callee := .builtin .append, args := #[s, u], argTypes := #[40, 40] }) (w0 : World) (v : Value) (ds : List DV) (hs : a.eval s = v) (hown : OwnDC w0 v ds wr)
    (p : DV) (hx : x = ⟨p.1.toArray⟩) (hy : y = ⟨p.2.1.toArray⟩) (hzz : z = p.2.2) (hz : a.eval u = .slice (some ⟨wr.heap.size, 0, none⟩) 1 1) (hlen : (ds.length + 1) * 40 ≤ 140737488355328)
    (h : ∀ v' w', OwnDC w0 v' (ds ++ [p]) w' → (∀ g, g < wr.heap.size → v.ownBlock ≠ some g → v'.ownBlock ≠ some g ∧ g < w'.heap.size ∧ ∀ o, w'.cell? ⟨g, o, none⟩ = wr.cell? ⟨g, o, none⟩) → wpList Tryd.prog ops Q rest (a.put o.dst v') w') : wpList Tryd.prog ops Q (o :: rest) a (wr.alloc (.cells #[.string x, .string y, .bool z] 55)) := by
  subst hx hy hzz
  obtain ⟨i0, hi, hz0, hz1, hz2⟩ := info_parts Tryd.infoDC
  have hsz := hown.2.size
  refine wpList_append_own_at _ hgd s u 40 ho w0.heap.size 55 i0 (.agg #[.string ⟨#[]⟩, .string ⟨#[]⟩, .bool false]) 3 40 Tryd.underlying40 hi hz0 hz1 hz2 rfl (by decide) v ds.length (cellsD ds) hs (hown.1.alloc _) ⟨wr.heap.size, 0, none⟩ 1 1 [S p.1, S p.2.1, .bool p.2.2] hz rfl ?_ ?_ ?_ ?_ ?_ ?_
  · intro j u hj
    match j, hj with
    | 0, hj => simp at hj; subst hj; simp [Addr.add, S]
    | 1, hj => simp at hj; subst hj; simp [Addr.add, S]
    | 2, hj => simp at hj; subst hj; simp [Addr.add]
  · intro u hu; simp at hu; rcases hu with rfl | rfl | rfl <;> rfl
  · unfold maxLen; omega
  · omega
  · simp; omega
  · intro v' w' h1 h2 _ h4
    refine h v' w' ⟨by rw [cellsD_snoc]; simpa using h1, ?_⟩ ?_
    · refine Below.grown (hown.2.alloc (by omega) _) h2 (by simp; omega) ?_
      intro k hk
      exact (hown.1.lt k hk).1
    · intro g hg hne
      have hs2 := h2.size
      refine ⟨?_, ?_, fun o => ?_⟩
      · rcases h4 with h4 | h4
        · rw [h4]; exact hne
        · rw [h4]; intro e; simp at e; omega
      · simp at hs2; omega
      · have hb : w'.heap[g]? = (wr.alloc (.cells #[.string ⟨p.1.toArray⟩, .string ⟨p.2.1.toArray⟩, .bool p.2.2] 55)).heap[g]? := h2.block g (by simp; omega) (fun e => hne e.symm)
        have : w'.cell? ⟨g, o, none⟩ = (wr.alloc (.cells #[.string ⟨p.1.toArray⟩, .string ⟨p.2.1.toArray⟩, .bool p.2.2] 55)).cell? ⟨g, o, none⟩ := by unfold World.cell?; rw [hb]
        rw [this, (below_alloc' wr _).cell (p := ⟨g, o, none⟩) hg]
theorem holdsD_ownC {w0 w : World} {v : Value} {ds : List DV} (h : OwnDC w0 v ds w) : HoldsD w v ds := by
  obtain ⟨hl, h1 | ⟨g, cap, cur, rfl, hg, hh, hr⟩⟩ := h.1
  · obtain ⟨rfl, hn⟩ := h1
    exact ⟨none, 0, 0, by rw [hn], fun h => absurd h (by omega)⟩
  · refine ⟨_, cap, g, rfl, fun _ => ⟨rfl, (h.1.lt g rfl).2, fun j hj => ?_⟩⟩
    have c := cellsD_at ds j hj
    exact ⟨by rw [h.1.cellAt (j * 3) (by omega)]; exact c.1, by rw [h.1.cellAt (j * 3 + 1) (by omega)]; exact c.2.1, by rw [h.1.cellAt (j * 3 + 2) (by omega)]; exact c.2.2⟩
theorem els_startC {w0 w w' : World} {vo u : Value} {acc : List DV} {el : List (List UInt8)} (hacc : OwnDC w0 vo acc w) (hel : OwnS w u el w') : ∃ ao ca b o, u = .slice ao el.length ca ∧ (0 < el.length → ao = some ⟨b, o, none⟩) ∧ Els el b o vo w' := by
  obtain ⟨hl, h1 | ⟨g, cap, cur, rfl, hg, hh, hr⟩⟩ := hel.1
  · obtain ⟨rfl, hn⟩ := h1
    exact ⟨none, 0, 0, 0, by rw [hn], fun h => absurd h (by omega), fun h => absurd h (by omega)⟩
  · refine ⟨_, cap, g, 0, rfl, fun _ => rfl, fun hp => ⟨?_, (hel.1.lt g rfl).2, fun j hj => ?_⟩⟩
    · intro e
      have := (hacc.1.lt g e).2
      omega
    · rw [Nat.zero_add, hel.1.cellAt j (by omega)]
      simp [hj]
theorem Tryd.infoDR : (Tryd.prog.info? 49).map (fun i => (i.zero, i.size, i.bytes)) = some (some (.agg #[.string ⟨#[]⟩, .string ⟨#[]⟩, .bool false]), 3, 40) := by kernel_rfl
def OwnDR (w0 : World) (v : Value) (ds : List DV) (w : World) : Prop := w.ownsRow w0.heap.size 49 3 v ds.length (cellsD ds) ∧ Below w0.heap.size w0 w
theorem ownDR_nil (w0 w : World) (h : Below w0.heap.size w0 w) : OwnDR w0 (.slice none 0 0) [] w := ⟨World.ownsRow_nil _ _ _ _, h⟩
theorem ownDR_empty (w0 : World) : OwnDR w0 (.slice (some ⟨w0.heap.size, 0, none⟩) 0 0) [] (w0.alloc (.cells #[] 49)) :=
  ⟨World.ownsRow_lit w0 #[] 0 (Nat.le_refl _) (by decide) rfl, (Below.refl _ _).alloc (Nat.le_refl _) _⟩
theorem ownDR_mono {w0 w w' : World} {v : Value} {ds : List DV} (h : OwnDR w0 v ds w) (hb : Below w.heap.size w w') : OwnDR w0 v ds w' := by
  have hz := h.2.size
  refine ⟨?_, h.2.trans (hb.mono hz)⟩
  obtain ⟨hl, h1 | ⟨g, cap, cur, rfl, hg, hh, hr⟩⟩ := h.1
  · exact ⟨hl, .inl h1⟩
  · have hlt : g < w.heap.size := by
      rcases Nat.lt_or_ge g w.heap.size with h | h
      · exact h
      · rw [Array.getElem?_eq_none (by omega)] at hh; cases hh
    exact ⟨hl, .inr ⟨g, cap, cur, rfl, hg, by rw [hb.block g hlt]; exact hh, hr⟩⟩
theorem ownDR_base {w w1 w2 : World} {v : Value} {ds : List DV} (h : OwnDR w1 v ds w2) (hb : Below w.heap.size w w1) : OwnDR w v ds w2 := by
  have hz := hb.size
  refine ⟨?_, hb.trans (h.2.mono hz)⟩
  obtain ⟨hl, h1 | ⟨g, cap, cur, hv, hg, hr⟩⟩ := h.1
  · exact ⟨hl, .inl h1⟩
  · exact ⟨hl, .inr ⟨g, cap, cur, hv, by omega, hr⟩⟩
/-- one directive more, and what lies in other blocks stays -/
theorem appDR {ops : Array Oper} {rest : List Oper} {o : Oper} {a : Act} {Q : Exit → Act → World → Prop} {wr : World} {x y : ByteArray} {z : Bool} (hgd : o.guard = none) (s u : Operand)
    (ho : o.op = .call { callee := .builtin .append, args := #[s, u], argTypes := #[45, 45] }) (w0 : World) (v : Value) (ds : List DV) (hs : a.eval s = v) (hown : OwnDR w0 v ds wr)
    (p : DV) (hx : x = ⟨p.1.toArray⟩) (hy : y = ⟨p.2.1.toArray⟩) (hzz : z = p.2.2) (hz : a.eval u = .slice (some ⟨wr.heap.size, 0, none⟩) 1 1) (hlen : (ds.length + 1) * 40 ≤ 140737488355328)
    (h : ∀ v' w', OwnDR w0 v' (ds ++ [p]) w' → (∀ g, g < wr.heap.size → v.ownBlock ≠ some g → v'.ownBlock ≠ some g ∧ g < w'.heap.size ∧ ∀ o, w'.cell? ⟨g, o, none⟩ = wr.cell? ⟨g, o, none⟩) → wpList Tryd.prog ops Q rest (a.put o.dst v') w') : wpList Tryd.prog ops Q (o :: rest) a (wr.alloc (.cells #[.string x, .string y, .bool z] 49)) := by
  subst hx hy hzz
  obtain ⟨i0, hi, hz0, hz1, hz2⟩ := info_parts Tryd.infoDR
  have hsz := hown.2.size
  refine wpList_append_own_at _ hgd s u 45 ho w0.heap.size 49 i0 (.agg #[.string ⟨#[]⟩, .string ⟨#[]⟩, .bool false]) 3 40 Tryd.underlying45 hi hz0 hz1 hz2 rfl (by decide) v ds.length (cellsD ds) hs (hown.1.alloc _) ⟨wr.heap.size, 0, none⟩ 1 1 [S p.1, S p.2.1, .bool p.2.2] hz rfl ?_ ?_ ?_ ?_ ?_ ?_
  · intro j u hj
    match j, hj with
    | 0, hj => simp at hj; subst hj; simp [Addr.add, S]
    | 1, hj => simp at hj; subst hj; simp [Addr.add, S]
    | 2, hj => simp at hj; subst hj; simp [Addr.add]
  · intro u hu; simp at hu; rcases hu with rfl | rfl | rfl <;> rfl
  · unfold maxLen; omega
  · omega
  · simp; omega
  · intro v' w' h1 h2 _ h4
    refine h v' w' ⟨by rw [cellsD_snoc]; simpa using h1, ?_⟩ ?_
    · refine Below.grown (hown.2.alloc (by omega) _) h2 (by simp; omega) ?_
      intro k hk
      exact (hown.1.lt k hk).1
    · intro g hg hne
      have hs2 := h2.size
      refine ⟨?_, ?_, fun o => ?_⟩
      · rcases h4 with h4 | h4
        · rw [h4]; exact hne
        · rw [h4]; intro e; simp at e; omega
      · simp at hs2; omega
      · have hb : w'.heap[g]? = (wr.alloc (.cells #[.string ⟨p.1.toArray⟩, .string ⟨p.2.1.toArray⟩, .bool p.2.2] 49)).heap[g]? := h2.block g (by simp; omega) (fun e => hne e.symm)
        have : w'.cell? ⟨g, o, none⟩ = (wr.alloc (.cells #[.string ⟨p.1.toArray⟩, .string ⟨p.2.1.toArray⟩, .bool p.2.2] 49)).cell? ⟨g, o, none⟩ := by unfold World.cell?; rw [hb]
        rw [this, (below_alloc' wr _).cell (p := ⟨g, o, none⟩) hg]
theorem holdsD_ownR {w0 w : World} {v : Value} {ds : List DV} (h : OwnDR w0 v ds w) : HoldsD w v ds := by
  obtain ⟨hl, h1 | ⟨g, cap, cur, rfl, hg, hh, hr⟩⟩ := h.1
  · obtain ⟨rfl, hn⟩ := h1
    exact ⟨none, 0, 0, by rw [hn], fun h => absurd h (by omega)⟩
  · refine ⟨_, cap, g, rfl, fun _ => ⟨rfl, (h.1.lt g rfl).2, fun j hj => ?_⟩⟩
    have c := cellsD_at ds j hj
    exact ⟨by rw [h.1.cellAt (j * 3) (by omega)]; exact c.1, by rw [h.1.cellAt (j * 3 + 1) (by omega)]; exact c.2.1, by rw [h.1.cellAt (j * 3 + 2) (by omega)]; exact c.2.2⟩
theorem els_startR {w0 w w' : World} {vo u : Value} {acc : List DV} {el : List (List UInt8)} (hacc : OwnDR w0 vo acc w) (hel : OwnS w u el w') : ∃ ao ca b o, u = .slice ao el.length ca ∧ (0 < el.length → ao = some ⟨b, o, none⟩) ∧ Els el b o vo w' := by
  obtain ⟨hl, h1 | ⟨g, cap, cur, rfl, hg, hh, hr⟩⟩ := hel.1
  · obtain ⟨rfl, hn⟩ := h1
    exact ⟨none, 0, 0, 0, by rw [hn], fun h => absurd h (by omega), fun h => absurd h (by omega)⟩
  · refine ⟨_, cap, g, 0, rfl, fun _ => rfl, fun hp => ⟨?_, (hel.1.lt g rfl).2, fun j hj => ?_⟩⟩
    · intro e
      have := (hacc.1.lt g e).2
      omega
    · rw [Nat.zero_add, hel.1.cellAt j (by omega)]
      simp [hj]
end Go.Proofs.YtemmghmacbofaaaDoor
