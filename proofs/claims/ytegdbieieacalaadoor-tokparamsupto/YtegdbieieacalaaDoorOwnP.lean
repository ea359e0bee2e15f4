/- A row of parameters that a call itself made: one more appended to it, and what it holds in later worlds. -/
import Derived.Test.YtegdbieieacalaaDoorParam
namespace Go.Proofs.YtegdbieieacalaaDoor
open Go.RowKit
def cellsP (ps : List (List UInt8 × List UInt8)) : List Value := ps.flatMap (fun p => [S p.1, S p.2])
theorem cellsP_len (ps : List (List UInt8 × List UInt8)) : (cellsP ps).length = ps.length * 2 := by
  induction ps with
  | nil => rfl
  | cons p ps ih => simp only [cellsP, List.flatMap_cons, List.length_append, List.length_cons, List.length_nil] at ih ⊢; omega
theorem cellsP_snoc (ps : List (List UInt8 × List UInt8)) (p : List UInt8 × List UInt8) : cellsP (ps ++ [p]) = cellsP ps ++ [S p.1, S p.2] := by simp [cellsP]
theorem cellsP_at : ∀ (ps : List (List UInt8 × List UInt8)) (j : Nat) (h : j < ps.length), (cellsP ps)[j * 2]? = some (S ps[j].1) ∧ (cellsP ps)[j * 2 + 1]? = some (S ps[j].2) := by
  intro ps
  induction ps with
  | nil => intro j h; simp at h
  | cons p ps ih =>
    intro j h
    have e : cellsP (p :: ps) = S p.1 :: S p.2 :: cellsP ps := by simp [cellsP]
    rw [e]
    cases j with
    | zero => simp
    | succ j =>
      have := ih j (by simpa using h)
      rw [show (j + 1) * 2 = j * 2 + 2 by omega]
      simpa using this
theorem Tryd.info35 : (Tryd.prog.info? 35).map (fun i => (i.zero, i.size, i.bytes)) = some (some (.agg #[.string ⟨#[]⟩, .string ⟨#[]⟩]), 2, 32) := by kernel_rfl
def OwnP (w0 : World) (v : Value) (ps : List (List UInt8 × List UInt8)) (w : World) : Prop := w.ownsRow w0.heap.size 35 2 v ps.length (cellsP ps) ∧ Below w0.heap.size w0 w
theorem ownP_nil (w0 w : World) (h : Below w0.heap.size w0 w) : OwnP w0 (.slice none 0 0) [] w := ⟨World.ownsRow_nil _ _ _ _, h⟩
theorem ownP_empty (w0 : World) : OwnP w0 (.slice (some ⟨w0.heap.size, 0, none⟩) 0 0) [] (w0.alloc (.cells #[] 35)) :=
  ⟨World.ownsRow_lit w0 #[] 0 (Nat.le_refl _) (by decide) rfl, (Below.refl _ _).alloc (Nat.le_refl _) _⟩
theorem ownP_mono {w0 w w' : World} {v : Value} {ps : List (List UInt8 × List UInt8)} (h : OwnP w0 v ps w) (hb : Below w.heap.size w w') : OwnP w0 v ps w' := by
  have hz := h.2.size
  refine ⟨?_, h.2.trans (hb.mono hz)⟩
  obtain ⟨hl, h1 | ⟨g, cap, cur, rfl, hg, hh, hr⟩⟩ := h.1
  · exact ⟨hl, .inl h1⟩
  · have hlt : g < w.heap.size := by
      rcases Nat.lt_or_ge g w.heap.size with h | h
      · exact h
      · rw [Array.getElem?_eq_none (by omega)] at hh; cases hh
    exact ⟨hl, .inr ⟨g, cap, cur, rfl, hg, by rw [hb.block g hlt]; exact hh, hr⟩⟩
theorem ownP_base {w w1 w2 : World} {v : Value} {ps : List (List UInt8 × List UInt8)} (h : OwnP w1 v ps w2) (hb : Below w.heap.size w w1) : OwnP w v ps w2 := by
  have hz := hb.size
  refine ⟨?_, hb.trans (h.2.mono hz)⟩
  obtain ⟨hl, h1 | ⟨g, cap, cur, hv, hg, hr⟩⟩ := h.1
  · exact ⟨hl, .inl h1⟩
  · exact ⟨hl, .inr ⟨g, cap, cur, hv, by omega, hr⟩⟩
theorem appP {ops : Array Oper} {rest : List Oper} {o : Oper} {a : Act} {Q : Exit → Act → World → Prop} {wr : World} {x y : ByteArray} {H : Nat} (hgd : o.guard = none) (s z : Operand)
    (ho : o.op = .call { callee := .builtin .append, args := #[s, z], argTypes := #[31, 31] }) (w0 : World) (v : Value) (ps : List (List UInt8 × List UInt8)) (hs : a.eval s = v) (hown : OwnP w0 v ps wr)
    (p : List UInt8 × List UInt8) (hx : x = ⟨p.1.toArray⟩) (hy : y = ⟨p.2.toArray⟩) (hz : a.eval z = .slice (some ⟨H, 0, none⟩) 1 1) (hH : wr.heap.size = H) (hlen : (ps.length + 1) * 32 ≤ 140737488355328)
    (h : ∀ v' w', OwnP w0 v' (ps ++ [p]) w' → wpList Tryd.prog ops Q rest (a.put o.dst v') w') : wpList Tryd.prog ops Q (o :: rest) a (wr.alloc (.cells #[.string x, .string y] 35)) := by
  subst hx hy hH
  obtain ⟨i0, hi, hz0, hz1, hz2⟩ := info_parts Tryd.info35
  have hsz := hown.2.size
  refine wpList_append_own _ hgd s z 31 ho w0.heap.size 35 i0 (.agg #[.string ⟨#[]⟩, .string ⟨#[]⟩]) 2 32 Tryd.underlying31 hi hz0 hz1 hz2 rfl (by decide) v ps.length (cellsP ps) hs (hown.1.alloc _) ⟨wr.heap.size, 0, none⟩ 1 1 [S p.1, S p.2] hz rfl ?_ ?_ ?_ ?_ ?_ ?_
  · intro j u hj
    match j, hj with
    | 0, hj => simp at hj; subst hj; simp [Addr.add, S]
    | 1, hj => simp at hj; subst hj; simp [Addr.add, S]
  · intro u hu; simp at hu; rcases hu with rfl | rfl <;> rfl
  · unfold maxLen; omega
  · omega
  · simp; omega
  · intro v' w' h1 h2 _
    refine h v' w' ⟨by rw [cellsP_snoc]; simpa using h1, ?_⟩
    refine Below.grown (hown.2.alloc (by omega) _) h2 (by simp; omega) ?_
    intro k hk
    exact (hown.1.lt k hk).1
/-- the row as the laws read it -/
def HoldsP (w : World) (v : Value) (ps : List (List UInt8 × List UInt8)) : Prop :=
  ∃ ao cap, v = .slice ao ps.length cap ∧ (ps ≠ [] → ∃ b, ao = some ⟨b, 0, none⟩ ∧ b < w.heap.size ∧ ∀ j (h : j < ps.length), w.cell? ⟨b, j * 2, none⟩ = some (S ps[j].1) ∧ w.cell? ⟨b, j * 2 + 1, none⟩ = some (S ps[j].2))
theorem holdsP_own {w0 w : World} {v : Value} {ps : List (List UInt8 × List UInt8)} (h : OwnP w0 v ps w) : HoldsP w v ps := by
  obtain ⟨hl, h1 | ⟨g, cap, cur, rfl, hg, hh, hr⟩⟩ := h.1
  · obtain ⟨rfl, hn⟩ := h1
    obtain rfl : ps = [] := List.eq_nil_of_length_eq_zero hn
    exact ⟨none, 0, rfl, fun h => absurd rfl h⟩
  · refine ⟨_, cap, rfl, fun _ => ⟨g, rfl, (h.1.lt g rfl).2, fun j hj => ?_⟩⟩
    have c := cellsP_at ps j hj
    exact ⟨by rw [h.1.cellAt (j * 2) (by omega)]; exact c.1, by rw [h.1.cellAt (j * 2 + 1) (by omega)]; exact c.2⟩
theorem holdsP_mono {w w' : World} {v : Value} {ps : List (List UInt8 × List UInt8)} (h : HoldsP w v ps) (hb : Below w.heap.size w w') : HoldsP w' v ps := by
  obtain ⟨ao, cap, rfl, hc⟩ := h
  refine ⟨ao, cap, rfl, fun hne => ?_⟩
  obtain ⟨b, rfl, hlt, hcell⟩ := hc hne
  have := hb.size
  exact ⟨b, rfl, by omega, fun j hj => ⟨by rw [hb.cell (p := ⟨b, j * 2, none⟩) hlt]; exact (hcell j hj).1, by rw [hb.cell (p := ⟨b, j * 2 + 1, none⟩) hlt]; exact (hcell j hj).2⟩⟩
theorem below_alloc' (w : World) (o : Obj) : Below w.heap.size w (w.alloc o) := (Below.refl _ _).alloc (Nat.le_refl _) _
theorem ownS_cap {w0 w : World} {ao : Option Addr} {n cap : Nat} {ss : List (List UInt8)} (h : OwnS w0 (.slice ao n cap) ss w) : n ≤ cap := by
  obtain ⟨hl, h1 | ⟨g, c, cur, hv, hg, hh, hr⟩⟩ := h.1
  · simp at h1; omega
  · simp at hv; omega
theorem tail1 (b off n cap : Nat) (hc : n + 1 ≤ cap) (w : World) : ∃ ao, Sem.run Tryd.prog (Instr.slice 26 (.slice (some ⟨b, off, none⟩) (n + 1) cap) (some (.int .i64 1)) none none) w = .ok (.slice ao n (cap - 1)) w ∧ (0 < n → ao = some ⟨b, off + 1, none⟩) := by
  have he : Tryd.prog.elem 26 = 9 := by kernel_rfl
  have h := run_slice_l (P := Tryd.prog) w 26 (some ⟨b, off, none⟩) (n + 1) cap (by rw [he]; exact Tryd.underlying26) .i64 1 (by omega) (by omega)
  rw [he, Tryd.sizeOf9] at h
  simp only [Result.andThen, Int.toNat_one, sliced, Nat.add_sub_cancel] at h
  refine ⟨_, h, fun hn => ?_⟩
  have : ¬ cap = 1 := by omega
  simp [Addr.add, this]
end Go.Proofs.YtegdbieieacalaaDoor
