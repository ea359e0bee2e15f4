/- A row of fields that a call itself made: more appended to it, and what it holds in later worlds; a list of fields that came in. -/
import Derived.Test.YtikokjclhpgocaaGen
import Derived.Test.YtikokjclhpgocaaFdP
import Derived.Test.YtikokjclhpgocaaOwnS
import Derived.Laws.AppendOwnNone
namespace Go.Proofs.Ytikokjclhpgocaa
open Go.RowKit
def cellsF (ps : FL) : List Value := ps.flatMap (fun p => [S p.1, S p.2])
theorem cellsF_len (ps : FL) : (cellsF ps).length = ps.length * 2 := by
  induction ps with
  | nil => rfl
  | cons p ps ih => simp only [cellsF, List.flatMap_cons, List.length_append, List.length_cons, List.length_nil] at ih ⊢; omega
theorem cellsF_snoc (ps : FL) (p : List UInt8 × List UInt8) : cellsF (ps ++ [p]) = cellsF ps ++ [S p.1, S p.2] := by simp [cellsF]
theorem cellsF_append (ps qs : FL) : cellsF (ps ++ qs) = cellsF ps ++ cellsF qs := by simp [cellsF]
theorem cellsF_at : ∀ (ps : FL) (j : Nat) (h : j < ps.length), (cellsF ps)[j * 2]? = some (S ps[j].1) ∧ (cellsF ps)[j * 2 + 1]? = some (S ps[j].2) := by
  intro ps
  induction ps with
  | nil => intro j h; simp at h
  | cons p ps ih =>
    intro j h
    have e : cellsF (p :: ps) = S p.1 :: S p.2 :: cellsF ps := by simp [cellsF]
    rw [e]
    cases j with
    | zero => simp
    | succ j =>
      have := ih j (by simpa using h)
      rw [show (j + 1) * 2 = j * 2 + 2 by omega]
      simpa using this
theorem cellsF_one (ps : FL) : ∀ u ∈ cellsF ps, u.oneCell' = true := by
  intro u hu
  obtain ⟨p, _, hu⟩ := List.mem_flatMap.1 hu
  simp at hu; rcases hu with rfl | rfl <;> rfl
theorem Try.info32 : (Try.prog.info? 32).map (fun i => (i.zero, i.size, i.bytes)) = some (some (.agg #[.string ⟨#[]⟩, .string ⟨#[]⟩]), 2, 32) := by kernel_rfl
def OwnF (w0 : World) (v : Value) (ps : FL) (w : World) : Prop := w.ownsRow w0.heap.size 32 2 v ps.length (cellsF ps) ∧ Below w0.heap.size w0 w
theorem ownF_nil (w0 w : World) (h : Below w0.heap.size w0 w) : OwnF w0 (.slice none 0 0) [] w := ⟨World.ownsRow_nil _ _ _ _, h⟩
theorem ownF_empty (w0 : World) : OwnF w0 (.slice (some ⟨w0.heap.size, 0, none⟩) 0 0) [] (w0.alloc (.cells #[] 32)) :=
  ⟨World.ownsRow_lit w0 #[] 0 (Nat.le_refl _) (by decide) rfl, (Below.refl _ _).alloc (Nat.le_refl _) _⟩
theorem ownF_mono {w0 w w' : World} {v : Value} {ps : FL} (h : OwnF w0 v ps w) (hb : Below w.heap.size w w') : OwnF w0 v ps w' := by
  have hz := h.2.size
  refine ⟨?_, h.2.trans (hb.mono hz)⟩
  obtain ⟨hl, h1 | ⟨g, cap, cur, rfl, hg, hh, hr⟩⟩ := h.1
  · exact ⟨hl, .inl h1⟩
  · have hlt : g < w.heap.size := by
      rcases Nat.lt_or_ge g w.heap.size with h | h
      · exact h
      · rw [Array.getElem?_eq_none (by omega)] at hh; cases hh
    exact ⟨hl, .inr ⟨g, cap, cur, rfl, hg, by rw [hb.block g hlt]; exact hh, hr⟩⟩
theorem ownF_base {w w1 w2 : World} {v : Value} {ps : FL} (h : OwnF w1 v ps w2) (hb : Below w.heap.size w w1) : OwnF w v ps w2 := by
  have hz := hb.size
  refine ⟨?_, hb.trans (h.2.mono hz)⟩
  obtain ⟨hl, h1 | ⟨g, cap, cur, hv, hg, hr⟩⟩ := h.1
  · exact ⟨hl, .inl h1⟩
  · exact ⟨hl, .inr ⟨g, cap, cur, hv, by omega, hr⟩⟩
/-- v is a slice whose elements are the fields ps -/
def HoldsF (w : World) (v : Value) (ps : FL) : Prop :=
  ∃ ao cap, v = .slice ao ps.length cap ∧ (ao = none → cap = 0) ∧ ps.length ≤ cap ∧ (ps ≠ [] → ∃ b off, ao = some ⟨b, off, none⟩ ∧ b < w.heap.size ∧ ∀ j (h : j < ps.length), w.cell? ⟨b, off + j * 2, none⟩ = some (S ps[j].1) ∧ w.cell? ⟨b, off + j * 2 + 1, none⟩ = some (S ps[j].2))
theorem holdsF_own {w0 w : World} {v : Value} {ps : FL} (h : OwnF w0 v ps w) : HoldsF w v ps := by
  obtain ⟨hl, h1 | ⟨g, cap, cur, rfl, hg, hh, hr⟩⟩ := h.1
  · obtain ⟨rfl, hn⟩ := h1
    obtain rfl : ps = [] := List.eq_nil_of_length_eq_zero hn
    exact ⟨none, 0, rfl, fun _ => rfl, Nat.le_refl _, fun h => absurd rfl h⟩
  · refine ⟨_, cap, rfl, fun e => (by cases e), hr.1, fun _ => ⟨g, 0, rfl, (h.1.lt g rfl).2, fun j hj => ?_⟩⟩
    have c := cellsF_at ps j hj
    rw [Nat.zero_add]
    exact ⟨by rw [h.1.cellAt (j * 2) (by omega)]; exact c.1, by rw [h.1.cellAt (j * 2 + 1) (by omega)]; exact c.2⟩
theorem holdsF_mono {w w' : World} {v : Value} {ps : FL} (h : HoldsF w v ps) (hb : Below w.heap.size w w') : HoldsF w' v ps := by
  obtain ⟨ao, cap, rfl, h0, hcp, hc⟩ := h
  refine ⟨ao, cap, rfl, h0, hcp, fun hne => ?_⟩
  obtain ⟨b, off, rfl, hlt, hcell⟩ := hc hne
  have := hb.size
  exact ⟨b, off, rfl, by omega, fun j hj => ⟨by rw [hb.cell (p := ⟨b, off + j * 2, none⟩) hlt]; exact (hcell j hj).1, by rw [hb.cell (p := ⟨b, off + j * 2 + 1, none⟩) hlt]; exact (hcell j hj).2⟩⟩
theorem bt' {w W W' : World} (a : Below w.heap.size w W) (b : Below W.heap.size W W') : Below w.heap.size w W' := a.trans (b.mono a.size)
/-- one field appended -/
theorem appF {ops : Array Oper} {rest : List Oper} {o : Oper} {a : Act} {Q : Exit → Act → World → Prop} {wr : World} {x y : ByteArray} {H : Nat} (hgd : o.guard = none) (s z : Operand)
    (ho : o.op = .call { callee := .builtin .append, args := #[s, z], argTypes := #[27, 27] }) (w0 : World) (v : Value) (ps : FL) (hs : a.eval s = v) (hown : OwnF w0 v ps wr)
    (p : List UInt8 × List UInt8) (hx : x = ⟨p.1.toArray⟩) (hy : y = ⟨p.2.toArray⟩) (hz : a.eval z = .slice (some ⟨H, 0, none⟩) 1 1) (hH : wr.heap.size = H) (hlen : (ps.length + 1) * 32 ≤ 140737488355328)
    (h : ∀ v' w', OwnF w0 v' (ps ++ [p]) w' → wpList Try.prog ops Q rest (a.put o.dst v') w') : wpList Try.prog ops Q (o :: rest) a (wr.alloc (.cells #[.string x, .string y] 32)) := by
  subst hx hy hH
  obtain ⟨i0, hi, hz0, hz1, hz2⟩ := info_parts Try.info32
  have hsz := hown.2.size
  refine wpList_append_own _ hgd s z 27 ho w0.heap.size 32 i0 (.agg #[.string ⟨#[]⟩, .string ⟨#[]⟩]) 2 32 Try.underlying27 hi hz0 hz1 hz2 rfl (by decide) v ps.length (cellsF ps) hs (hown.1.alloc _) ⟨wr.heap.size, 0, none⟩ 1 1 [S p.1, S p.2] hz rfl ?_ ?_ ?_ ?_ ?_ ?_
  · intro j u hj
    match j, hj with
    | 0, hj => simp at hj; subst hj; simp [Addr.add, S]
    | 1, hj => simp at hj; subst hj; simp [Addr.add, S]
  · intro u hu; simp at hu; rcases hu with rfl | rfl <;> rfl
  · unfold maxLen; omega
  · omega
  · simp; omega
  · intro v' w' h1 h2 _
    refine h v' w' ⟨by rw [cellsF_snoc]; simpa using h1, ?_⟩
    refine Below.grown (hown.2.alloc (by omega) _) h2 (by simp; omega) ?_
    intro k hk
    exact (hown.1.lt k hk).1
/-- a whole list of fields appended -/
theorem appAllF {ops : Array Oper} {rest : List Oper} {o : Oper} {a : Act} {Q : Exit → Act → World → Prop} {wr : World} (hgd : o.guard = none) (s z : Operand)
    (ho : o.op = .call { callee := .builtin .append, args := #[s, z], argTypes := #[27, 27] }) (w0 : World) (v : Value) (ps : FL) (hs : a.eval s = v) (hown : OwnF w0 v ps wr)
    (u : Value) (qs : FL) (hz : a.eval z = u) (hu : HoldsF wr u qs) (hlen : (ps.length + qs.length) * 32 ≤ 140737488355328)
    (h : ∀ v' w', OwnF w0 v' (ps ++ qs) w' → wpList Try.prog ops Q rest (a.put o.dst v') w') : wpList Try.prog ops Q (o :: rest) a wr := by
  obtain ⟨i0, hi, hz0, hz1, hz2⟩ := info_parts Try.info32
  have hsz := hown.2.size
  obtain ⟨ao, cap, rfl, h0, hcp, hc⟩ := hu
  have key : ∀ (ad : Addr), ao = some ad → (∀ j x, (cellsF qs)[j]? = some x → wr.cell? (ad.add j) = some x) → wpList Try.prog ops Q (o :: rest) a wr := by
    intro ad e hnews
    subst e
    refine wpList_append_own _ hgd s z 27 ho w0.heap.size 32 i0 (.agg #[.string ⟨#[]⟩, .string ⟨#[]⟩]) 2 32 Try.underlying27 hi hz0 hz1 hz2 rfl (by decide) v ps.length (cellsF ps) hs hown.1 ad qs.length cap (cellsF qs) hz (cellsF_len qs) hnews (cellsF_one qs) (by unfold maxLen; omega) (by omega) hsz ?_
    intro v' w' h1 h2 _
    refine h v' w' ⟨by rw [cellsF_append, List.length_append]; exact h1, ?_⟩
    refine Below.grown hown.2 h2 (by omega) ?_
    intro k hk
    exact (hown.1.lt k hk).1
  by_cases hq : qs = []
  · subst hq
    cases ao with
    | none =>
      obtain rfl := h0 rfl
      refine wpList_append_own_none hgd s z 27 ho w0.heap.size 32 i0 2 Try.underlying27 hi v ps.length (cellsF ps) hs hown.1 hz ?_
      exact h v wr (by rw [List.append_nil]; exact hown)
    | some ad => exact key ad rfl (fun j x hj => by simp [cellsF] at hj)
  · obtain ⟨b, off, rfl, hlt, hcell⟩ := hc hq
    refine key ⟨b, off, none⟩ rfl (fun j x hj => ?_)
    have hjl : j < qs.length * 2 := by
      rcases Nat.lt_or_ge j (qs.length * 2) with h | h
      · exact h
      · rw [List.getElem?_eq_none (by rw [cellsF_len]; omega)] at hj; cases hj
    have e : (⟨b, off, none⟩ : Addr).add j = ⟨b, off + j, none⟩ := Go.WideShapes.add_plain _ _ _
    rw [e]
    rcases (by omega : j = j / 2 * 2 ∨ j = j / 2 * 2 + 1) with hj2 | hj2
    · have hk : j / 2 < qs.length := by omega
      have c := (cellsF_at qs (j / 2) hk).1
      rw [← hj2] at c
      rw [c] at hj
      have d := (hcell (j / 2) hk).1
      rw [← hj2] at d
      rw [d]; exact hj
    · have hk : j / 2 < qs.length := by omega
      have c := (cellsF_at qs (j / 2) hk).2
      rw [← hj2] at c
      rw [c] at hj
      have d := (hcell (j / 2) hk).2
      rw [Nat.add_assoc, ← hj2] at d
      rw [d]; exact hj
theorem holdsF_lit0 (w : World) : HoldsF w (.slice none 0 0) [] := ⟨none, 0, rfl, fun _ => rfl, Nat.le_refl _, fun h => absurd rfl h⟩
theorem holdsF_lit1 (w : World) (x y : List UInt8) : HoldsF (w.alloc (.cells #[S x, S y] 32)) (.slice (some ⟨w.heap.size, 0, none⟩) 1 1) [(x, y)] := by
  refine ⟨_, 1, rfl, (fun e => by cases e), Nat.le_refl _, fun _ => ⟨w.heap.size, 0, rfl, by simp, fun j hj => ?_⟩⟩
  match j, hj with
  | 0, _ => simp
theorem holdsF_lit2 (w : World) (x y x' y' : List UInt8) : HoldsF (w.alloc (.cells #[S x, S y, S x', S y'] 32)) (.slice (some ⟨w.heap.size, 0, none⟩) 2 2) [(x, y), (x', y')] := by
  refine ⟨_, 2, rfl, (fun e => by cases e), Nat.le_refl _, fun _ => ⟨w.heap.size, 0, rfl, by simp, fun j hj => ?_⟩⟩
  match j, hj with
  | 0, _ => simp
  | 1, _ => simp
end Go.Proofs.Ytikokjclhpgocaa
