/- A slice into a block of bytes of one's own, with what room it has; appended to, cut from its front, kept where other blocks are written. -/
import Derived.Test.YtmikgpmnffdnnaaGreatDoorBps
import Derived.Deep.MidRow
namespace Go.Proofs.YtmikgpmnffdnnaaGreatDoor
open Go.RowKit
def blkV : Value → Option Nat
  | .slice (some ad) _ c => if c = 0 then none else some ad.block
  | _ => none
theorem blkV_some (ad : Addr) (n c : Nat) (h : c ≠ 0) : blkV (.slice (some ad) n c) = some ad.block := by simp [blkV, h]
theorem blkV_zero (ao : Option Addr) (n : Nat) : blkV (.slice ao n 0) = none := by cases ao <;> simp [blkV]
theorem blkV_nil (n c : Nat) : blkV (.slice none n c) = none := by simp [blkV]
def SlB (v : Value) (bs : List UInt8) (W : World) : Prop :=
  ∃ ao cap, v = .slice ao bs.length cap ∧ (ao = none → cap = 0) ∧ bs.length ≤ cap ∧ (0 < cap → ∃ b off, ao = some ⟨b, off, none⟩ ∧ b < W.heap.size ∧ (∀ j (h : j < bs.length), W.cell? ⟨b, off + j, none⟩ = some (B bs[j])) ∧ ∀ j, j < cap → (W.cell? ⟨b, off + j, none⟩).isSome = true ∧ W.frozen? ⟨b, off + j, none⟩ = false)
theorem slB_holds {v : Value} {bs : List UInt8} {W : World} (h : SlB v bs W) : HoldsB W v bs := by
  obtain ⟨ao, cap, rfl, h0, h1, h2⟩ := h
  refine ⟨ao, cap, rfl, h0, h1, fun hne => ?_⟩
  have : 0 < bs.length := List.length_pos_iff.2 hne
  obtain ⟨b, off, rfl, hlt, hc, _⟩ := h2 (by omega)
  exact ⟨b, off, rfl, hlt, hc⟩
theorem slB_lt {v : Value} {bs : List UInt8} {W : World} (h : SlB v bs W) : ∀ k, blkV v = some k → k < W.heap.size := by
  obtain ⟨ao, cap, rfl, h0, h1, h2⟩ := h
  intro k e
  by_cases hc : cap = 0
  · subst hc; rw [blkV_zero] at e; cases e
  · obtain ⟨b, off, rfl, hlt, _⟩ := h2 (by omega)
    rw [blkV_some _ _ _ hc] at e
    cases e
    exact hlt
theorem slB_far {v : Value} {bs : List UInt8} {W W' : World} {S : Nat → Prop} (h : SlB v bs W) (hf : Far S W W') (hn : ∀ k, blkV v = some k → ¬ S k) : SlB v bs W' := by
  obtain ⟨ao, cap, rfl, h0, h1, h2⟩ := h
  refine ⟨ao, cap, rfl, h0, h1, fun hc => ?_⟩
  obtain ⟨b, off, rfl, hlt, h3, h4⟩ := h2 hc
  have hb := hf.2.2.2.2 b hlt (hn b (blkV_some _ _ _ (by omega)))
  refine ⟨b, off, rfl, Nat.lt_of_lt_of_le hlt hf.2.2.2.1, fun j hj => ?_, fun j hj => ?_⟩
  · rw [World.cell?_of_block (w := W) (a := ⟨b, off + j, none⟩) hb]; exact h3 j hj
  · rw [World.cell?_of_block (w := W) (a := ⟨b, off + j, none⟩) hb, World.frozen?_of_block (w := W) (a := ⟨b, off + j, none⟩) hb]; exact h4 j hj
theorem slB_below {v : Value} {bs : List UInt8} {W W' : World} (h : SlB v bs W) (hb : Below W.heap.size W W') : SlB v bs W' := slB_far h (far_of_below hb) (fun _ _ e => e)
theorem slB_suf {ao : Option Addr} {cap : Nat} {bs : List UInt8} {W : World} (h : SlB (.slice ao bs.length cap) bs W) (i : Nat) (hi : i ≤ bs.length) : SlB (Lib.fromV ao bs.length cap i) (bs.drop i) W ∧ ∀ k, blkV (Lib.fromV ao bs.length cap i) = some k → blkV (.slice ao bs.length cap) = some k := by
  obtain ⟨ao', cap', e, h0, h1, h2⟩ := h
  cases e
  have key : ∀ x : Addr, (x.add i).block = x.block := by intro x; unfold Addr.add; split <;> rfl
  unfold Lib.fromV
  by_cases hc : cap = i
  · rw [if_pos hc]
    refine ⟨⟨ao, cap - i, by rw [List.length_drop], fun e => by rw [h0 e]; omega, by rw [List.length_drop]; omega, fun h => by omega⟩, fun k e => ?_⟩
    rw [show cap - i = 0 by omega, blkV_zero] at e
    cases e
  · rw [if_neg hc]
    obtain ⟨b, off, rfl, hlt, h3, h4⟩ := h2 (by omega)
    have ea : (⟨b, off, none⟩ : Addr).add i = ⟨b, off + i, none⟩ := Go.WideShapes.add_plain _ _ _
    refine ⟨⟨some ⟨b, off + i, none⟩, cap - i, by rw [List.length_drop]; simp [ea], (fun e => by cases e), by rw [List.length_drop]; omega, fun _ => ⟨b, off + i, rfl, hlt, fun j hj => ?_, fun j hj => ?_⟩⟩, fun k e => ?_⟩
    · rw [List.length_drop] at hj
      rw [Nat.add_assoc, h3 (i + j) (by omega), List.getElem_drop]
    · rw [Nat.add_assoc]; exact h4 (i + j) (by omega)
    · simp only [Option.map_some, ea] at e
      rw [blkV_some _ _ _ (by omega)] at e ⊢
      exact e
theorem slB_row {W : World} {base : Nat} {v : Value} {bs : List UInt8} (h : W.ownsRow base 5 1 v bs.length (bs.map B)) : SlB v bs W ∧ ∀ k, blkV v = some k → v.ownBlock = some k := by
  have h' := h
  obtain ⟨hl, ⟨rfl, hn⟩ | ⟨g, cap, cur, rfl, hg, hh, hr⟩⟩ := h
  · have hb : bs = [] := List.eq_nil_of_length_eq_zero hn
    subst hb
    exact ⟨⟨none, 0, rfl, fun _ => rfl, Nat.le_refl _, fun h => absurd h (by omega)⟩, fun k e => by rw [blkV_nil] at e; cases e⟩
  · refine ⟨⟨some ⟨g, 0, none⟩, cap, rfl, (fun e => by cases e), hr.1, fun _ => ⟨g, 0, rfl, (h'.lt g rfl).2, fun j hj => ?_, fun j hj => ?_⟩⟩, fun k e => ?_⟩
    · rw [Nat.zero_add, h'.cellAt j (by omega)]
      simp [hj]
    · have hsz : cur.size = cap := by have := hr.2.2.1; omega
      refine ⟨?_, ?_⟩
      · unfold World.cell?
        rw [hh]
        simp [hsz, hj]
      · unfold World.frozen?
        rw [hh]
        simp
    · by_cases hc : cap = 0
      · subst hc; rw [blkV_zero] at e; cases e
      · rw [blkV_some _ _ _ hc] at e; exact e
theorem slB_empty (W : World) (b : Nat) : SlB (.slice (some ⟨b, 0, none⟩) 0 0) [] W := ⟨_, 0, rfl, (fun e => by cases e), Nat.le_refl _, fun h => absurd h (by omega)⟩
theorem far_setCells (b : Nat) : ∀ (vs : List Value) (o : Nat) (w : World), Far (fun k => k = b) w (w.setCells b o vs) := by
  intro vs
  induction vs with
  | nil => intro o w; exact far_refl _ _
  | cons v r ih =>
    intro o w
    have f1 : Far (fun k => k = b) w (w.setCell ⟨b, o, none⟩ v) := ⟨rfl, rfl, rfl, by simp [World.setCell], fun k _ hn => Below.heap_setCell _ _ _ _ hn⟩
    exact far_trans f1 (ih (o + 1) (w.setCell ⟨b, o, none⟩ v)) (fun k _ e => e)
/-- a whole list of bytes, not empty, appended -/
theorem appSl {ops : Array Oper} {rest : List Oper} {o : Oper} {a : Act} {Q : Exit → Act → World → Prop} {wr : World} (hgd : o.guard = none) (s z : Operand)
    (ho : o.op = .call { callee := .builtin .append, args := #[s, z], argTypes := #[22, 22] }) (v : Value) (ps : List UInt8) (hs : a.eval s = v) (hown : SlB v ps wr)
    (u : Value) (qs : List UInt8) (hq : qs ≠ []) (hz : a.eval z = u) (hu : HoldsB wr u qs) (hlen : ps.length + qs.length ≤ 140737488355328)
    (h : ∀ v' w', SlB v' (ps ++ qs) w' → Far (fun k => blkV v = some k) wr w' → (∀ k, blkV v' = some k → blkV v = some k ∨ wr.heap.size ≤ k) → wpList Tryz.prog ops Q rest (a.put o.dst v') w') : wpList Tryz.prog ops Q (o :: rest) a wr := by
  obtain ⟨i0, hi, hz0, hz1, hz2⟩ := info_parts Tryz.info5
  obtain ⟨uo, ucap, rfl, u0, ucp, uc⟩ := hu
  obtain ⟨b, off, rfl, hlt, hcell⟩ := uc hq
  have hnews : ∀ j x, (qs.map B)[j]? = some x → wr.cell? ((⟨b, off, none⟩ : Addr).add j) = some x := by
    intro j x hj
    have e : (⟨b, off, none⟩ : Addr).add j = ⟨b, off + j, none⟩ := Go.WideShapes.add_plain _ _ _
    rw [e]
    obtain ⟨hj1, hj2⟩ := List.getElem?_eq_some_iff.1 hj
    rw [List.length_map] at hj1
    rw [hcell j hj1, ← hj2]
    simp
  have hone : ∀ u ∈ qs.map B, u.oneCell' = true := by intro u hu; obtain ⟨x, _, rfl⟩ := List.mem_map.1 hu; rfl
  have hql : 0 < qs.length := List.length_pos_iff.2 hq
  obtain ⟨ao, cap, rfl, h0, h1, h2⟩ := hown
  by_cases hc : cap = 0
  · subst hc
    have hp : ps = [] := List.eq_nil_of_length_eq_zero (by omega)
    subst hp
    refine wpList_append_grows wr hgd s z 22 ho 5 i0 (.int .u8 0) 1 1 Tryz.underlying22 hi hz0 hz1 hz2 rfl (by decide) ao 0 0 [] hs (fun _ => ⟨rfl, rfl⟩) rfl (fun b e j u hj => by simp at hj) ⟨b, off, none⟩ qs.length ucap (qs.map B) hz (by simp) hnews hone (by omega) (by unfold maxLen; omega) (by omega) ?_
    intro v' w' r1 r2
    have r1' : w'.ownsRow wr.heap.size 5 1 v' ([] ++ qs).length (([] ++ qs).map B) := by simpa using r1
    obtain ⟨q1, q2⟩ := slB_row r1'
    exact h v' w' q1 ⟨r2.os, r2.tape, r2.output, r2.size, fun k hk _ => r2.block k hk (by simp)⟩ (fun k e => .inr (World.ownsRow.lt r1' k (q2 k e)).1)
  · obtain ⟨hb, hoff, rfl, hblt, h3, h4⟩ := h2 (by omega)
    refine wpList_append_arg wr hgd s z 22 ho 5 i0 (.int .u8 0) 1 1 Tryz.underlying22 hi hz0 hz1 hz2 rfl (by decide) hb hoff ps.length cap (ps.map B) hs (by simp) ?_ ⟨b, off, none⟩ qs.length ucap (qs.map B) hz (by simp) hnews hone ?_ (by unfold maxLen; omega) (by omega) ?_ ?_
    · intro j u hj
      obtain ⟨hj1, hj2⟩ := List.getElem?_eq_some_iff.1 hj
      rw [List.length_map] at hj1
      rw [h3 j hj1, ← hj2]
      simp
    · intro hroom j hj
      rw [List.length_map] at hj
      have := h4 (ps.length * 1 + j) (by omega)
      rw [← Nat.add_assoc] at this
      exact this
    · intro hroom
      have fs := far_setCells hb (qs.map B) (hoff + ps.length * 1) wr
      have hin := fun j (hj : j < (qs.map B).length) => World.cell?_setCells_in hb (qs.map B) (hoff + ps.length * 1) wr (fun j hj => by rw [List.length_map] at hj; have := (h4 (ps.length * 1 + j) (by omega)).1; rw [← Nat.add_assoc] at this; exact this) j hj
      refine h _ _ ⟨some ⟨hb, hoff, none⟩, cap, by rw [List.length_append], (fun e => by cases e), by rw [List.length_append]; exact hroom, fun _ => ⟨hb, hoff, rfl, Nat.lt_of_lt_of_le hblt fs.2.2.2.1, fun j hj => ?_, fun j hj => ⟨?_, ?_⟩⟩⟩ ⟨fs.1, fs.2.1, fs.2.2.1, fs.2.2.2.1, fun k hk hn => fs.2.2.2.2 k hk (fun e => hn (by rw [blkV_some _ _ _ hc, e]))⟩ (fun k e => .inl ?_)
      · by_cases hlt2 : j < ps.length
        · rw [World.cell?_setCells_out hb _ _ _ _ (fun _ _ => .inl (by show hoff + j < _; omega)), h3 j hlt2, List.getElem_append_left hlt2]
        · rw [List.length_append] at hj
          have hj2 : j - ps.length < (qs.map B).length := by rw [List.length_map]; omega
          have e := hin (j - ps.length) hj2
          rw [show hoff + ps.length * 1 + (j - ps.length) = hoff + j by omega] at e
          rw [e, List.getElem_append_right (by omega)]
          simp
      · exact World.isSome_setCells hb _ _ _ _ (h4 j hj).1
      · rw [World.frozen?_setCells]; exact (h4 j hj).2
      · rw [blkV_some _ _ _ hc] at e ⊢
        exact e
    · intro hfull v' w' r1 r2
      have r1' : w'.ownsRow wr.heap.size 5 1 v' (ps ++ qs).length ((ps ++ qs).map B) := by rw [List.map_append, List.length_append]; exact r1
      obtain ⟨q1, q2⟩ := slB_row r1'
      exact h v' w' q1 ⟨r2.os, r2.tape, r2.output, r2.size, fun k hk _ => r2.block k hk (by simp)⟩ (fun k e => .inr (World.ownsRow.lt r1' k (q2 k e)).1)
end Go.Proofs.YtmikgpmnffdnnaaGreatDoor
