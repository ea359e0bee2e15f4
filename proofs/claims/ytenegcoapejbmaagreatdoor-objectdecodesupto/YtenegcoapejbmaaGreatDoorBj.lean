/- Worlds that are alike but for some blocks. What a call that writes into rows of its caller's leaves as it was: the contract of Marked. A byte, and 600 zeros, appended to a row of bytes while another slice of the same row stands. Rows told apart by their blocks; what a call leaves that writes into some of them. -/
import Derived.Test.YtenegcoapejbmaaGreatDoorBa
import Derived.Maps.AppendAt
import Derived.Test.YtenegcoapejbmaaGreatDoorBc
import Derived.Lib.AppendZerosOnto
namespace Go.Proofs.YtenegcoapejbmaaGreatDoor
open Go.RowKit
/-- but for the blocks of S and new blocks, b is as a was -/
def Far (S : Nat → Prop) (a b : World) : Prop := b.os = a.os ∧ b.tape = a.tape ∧ b.output = a.output ∧ a.heap.size ≤ b.heap.size ∧ ∀ k, k < a.heap.size → ¬ S k → b.heap[k]? = a.heap[k]?
theorem far_refl (S : Nat → Prop) (a : World) : Far S a a := ⟨rfl, rfl, rfl, Nat.le_refl _, fun _ _ _ => rfl⟩
theorem far_trans {S T : Nat → Prop} {a b c : World} (h : Far S a b) (g : Far T b c) (hs : ∀ k, k < a.heap.size → T k → S k) : Far S a c := by
  obtain ⟨h1, h2, h3, h4, h5⟩ := h
  obtain ⟨g1, g2, g3, g4, g5⟩ := g
  exact ⟨g1.trans h1, g2.trans h2, g3.trans h3, by omega, fun k hk hn => by rw [g5 k (by omega) (fun e => hn (hs k hk e)), h5 k hk hn]⟩
theorem far_grown {a b : World} {r : Option Nat} (h : a.grownBy b r) : Far (fun k => r = some k) a b :=
  ⟨h.os, h.tape, h.output, h.size, fun k hk hn => h.block k hk (fun e => hn e.symm)⟩
theorem far_alloc (a : World) (o : Obj) : Far (fun _ => False) a (a.alloc o) := by
  have h := below_alloc' a o
  exact ⟨h.os, h.tape, h.output, h.size, fun k hk _ => h.block k hk⟩
theorem far_of_below {a b : World} (h : Below a.heap.size a b) : Far (fun _ => False) a b := ⟨h.os, h.tape, h.output, h.size, fun k hk _ => h.block k hk⟩
theorem below_far {S : Nat → Prop} {a b : World} (h : Far S a b) (B : Nat) (hB : B ≤ a.heap.size) (hS : ∀ k, S k → B ≤ k) : Below B a b := by
  obtain ⟨h1, h2, h3, h4, h5⟩ := h
  exact ⟨h1, h2, h3, h4, fun k hk => h5 k (by omega) (fun e => by have := hS k e; omega)⟩
end Go.Proofs.YtenegcoapejbmaaGreatDoor
namespace Go.Proofs.YtenegcoapejbmaaGreatDoor
open Go.RowKit
/-- v is a row of n fields that can be written -/
def RowF (base : Nat) (v : Value) (n : Nat) (w : World) : Prop := ∃ xs, w.ownsRow base 76 2 v n xs
theorem rowF_own {w0 w : World} {v : Value} {ps : FL} (h : OwnF w0 v ps w) : RowF w0.heap.size v ps.length w := ⟨_, h.1⟩
theorem rowF_form {base n : Nat} {v : Value} {w : World} (h : RowF base v n w) : ∃ ao cap, v = .slice ao n cap ∧ (0 < n → ∃ g, ao = some ⟨g, 0, none⟩) := by
  obtain ⟨xs, _, ⟨rfl, rfl⟩ | ⟨g, cap, cur, rfl, _⟩⟩ := h
  · exact ⟨none, 0, rfl, fun h => absurd h (by decide)⟩
  · exact ⟨some ⟨g, 0, none⟩, cap, rfl, fun _ => ⟨g, rfl⟩⟩
theorem rowF_cell {base g n cap j : Nat} {w : World} (h : RowF base (.slice (some ⟨g, 0, none⟩) n cap) n w) (hj : j < n * 2) : (∃ v, w.cell? ⟨g, j, none⟩ = some v) ∧ w.frozen? ⟨g, j, none⟩ = false := by
  obtain ⟨xs, h⟩ := h
  have h1 := h.cellAt j hj
  have h2 : xs.length = n * 2 := h.1
  exact ⟨⟨xs[j]'(by omega), by rw [h1, List.getElem?_eq_getElem (by omega)]⟩, h.frozenAt j⟩
theorem rowF_store {base g n cap : Nat} {w : World} (h : RowF base (.slice (some ⟨g, 0, none⟩) n cap) n w) (j : Nat) (v : Value) : RowF base (.slice (some ⟨g, 0, none⟩) n cap) n (w.setCell ⟨g, j, none⟩ v) ∧ Far (fun k => k = g) w (w.setCell ⟨g, j, none⟩ v) := by
  obtain ⟨xs, h⟩ := h
  refine ⟨⟨_, (h.stored j v).1⟩, ?_⟩
  have f := far_grown (h.stored j v).2
  exact ⟨f.1, f.2.1, f.2.2.1, f.2.2.2.1, fun k hk hn => f.2.2.2.2 k hk (fun e => hn (by simpa using e.symm))⟩
/-- one field appended to a row, whatever it holds -/
theorem appRow {ops : Array Oper} {rest : List Oper} {o : Oper} {a : Act} {Q : Exit → Act → World → Prop} {wr : World} {x y : ByteArray} {H : Nat} (hgd : o.guard = none) (s z : Operand)
    (ho : o.op = .call { callee := .builtin .append, args := #[s, z], argTypes := #[25, 25] }) (base : Nat) (v : Value) (n : Nat) (hs : a.eval s = v) (hown : RowF base v n wr) (hbase : base ≤ wr.heap.size)
    (hz : a.eval z = .slice (some ⟨H, 0, none⟩) 1 1) (hH : wr.heap.size = H) (hlen : (n + 1) * 32 ≤ 140737488355328)
    (h : ∀ v' w', RowF base v' (n + 1) w' → Far (fun k => v.ownBlock = some k) wr w' → (∀ k, v'.ownBlock = some k → v.ownBlock = some k ∨ wr.heap.size ≤ k) → wpList Tryz.prog ops Q rest (a.put o.dst v') w') : wpList Tryz.prog ops Q (o :: rest) a (wr.alloc (.cells #[.string x, .string y] 76)) := by
  subst hH
  obtain ⟨xs, hown⟩ := hown
  obtain ⟨i0, hi, hz0, hz1, hz2⟩ := info_parts Tryz.info76
  refine wpList_append_own_at _ hgd s z 25 ho base 76 i0 (.agg #[.string ⟨#[]⟩, .string ⟨#[]⟩]) 2 32 Tryz.underlying25 hi hz0 hz1 hz2 rfl (by decide) v n xs hs (hown.alloc _) ⟨wr.heap.size, 0, none⟩ 1 1 [.string x, .string y] hz rfl ?_ ?_ ?_ ?_ ?_ ?_
  · intro j u hj
    match j, hj with
    | 0, hj => simp at hj; subst hj; simp [Addr.add]
    | 1, hj => simp at hj; subst hj; simp [Addr.add]
  · intro u hu; simp at hu; rcases hu with rfl | rfl <;> rfl
  · unfold maxLen; omega
  · omega
  · simp; omega
  · intro v' w' h1 h2 _ h4
    refine h v' w' ⟨_, h1⟩ ?_ ?_
    · have f := far_trans (S := fun k => v.ownBlock = some k) (T := fun k => v.ownBlock = some k) (a := wr) (b := wr.alloc (.cells #[.string x, .string y] 76)) (c := w') ?_ (far_grown h2) (fun _ _ e => e)
      · exact f
      · have g := far_alloc wr (.cells #[.string x, .string y] 76)
        exact ⟨g.1, g.2.1, g.2.2.1, g.2.2.2.1, fun k hk _ => g.2.2.2.2 k hk (fun e => e)⟩
    · intro k hk
      rcases h4 with h4 | h4
      · left; rw [← h4]; exact hk
      · right
        rw [h4] at hk
        simp only [Option.some.injEq] at hk
        have : (wr.alloc (.cells #[.string x, .string y] 76)).heap.size = wr.heap.size + 1 := by simp
        omega
end Go.Proofs.YtenegcoapejbmaaGreatDoor
namespace Go.Proofs.YtenegcoapejbmaaGreatDoor
open Go.RowKit
abbrev RowB (v : Value) (n : Nat) (ys : List Value) (w : World) : Prop := w.ownsRow 0 5 1 v n ys
theorem rowB_form {n : Nat} {v : Value} {ys : List Value} {w : World} (h : RowB v n ys w) : ∃ ao cap, v = .slice ao n cap ∧ (0 < n → ∃ g, ao = some ⟨g, 0, none⟩) := by
  obtain ⟨_, ⟨rfl, rfl⟩ | ⟨g, cap, cur, rfl, _⟩⟩ := h
  · exact ⟨none, 0, rfl, fun h => absurd h (by decide)⟩
  · exact ⟨some ⟨g, 0, none⟩, cap, rfl, fun _ => ⟨g, rfl⟩⟩
theorem rowB_far {v : Value} {n : Nat} {ys : List Value} {w w' : World} {S : Nat → Prop} (h : RowB v n ys w) (hf : Far S w w') (hn : ∀ k, v.ownBlock = some k → ¬ S k) : RowB v n ys w' := by
  have hlt := h.lt
  obtain ⟨hl, h1 | ⟨g, cap, cur, rfl, hb, hg, hr⟩⟩ := h
  · exact ⟨hl, .inl h1⟩
  · exact ⟨hl, .inr ⟨g, cap, cur, rfl, hb, by rw [hf.2.2.2.2 g (hlt g rfl).2 (hn g rfl)]; exact hg, hr⟩⟩
/-- one byte more -/
theorem app_keep (W : World) (v o : Value) (n m : Nat) (ys zs : List Value) (hv : RowB v n ys W) (ho : RowB o m zs W) (hnm : n ≤ m) (hk : o.ownBlock = v.ownBlock → zs.take n = ys) (b : Nat) (c : Value) (hc : W.cell? ⟨b, 0, none⟩ = some c) (hc1 : c.oneCell' = true) (hm : m ≤ 1000000000) (ty : TypeId) :
    ∃ o' w', (Builtin.append_ #[22, 22] ty #[o, .slice (some ⟨b, 0, none⟩) 1 1]).run Tryz.prog W = .ok o' w' ∧ RowB v n ys w' ∧ (∃ zs', RowB o' (m + 1) zs' w' ∧ (o'.ownBlock = v.ownBlock → zs'.take n = ys)) ∧ Far (fun k => o.ownBlock = some k) W w' ∧ (∀ k, o'.ownBlock = some k → o.ownBlock = some k ∨ W.heap.size ≤ k) := by
  obtain ⟨i0, hi, hz0, hz1, hz2⟩ := info_parts Tryz.info5
  have hnews : ∀ j u, ([c] : List Value)[j]? = some u → W.cell? ((⟨b, 0, none⟩ : Addr).add j) = some u := by
    intro j u hj
    match j, hj with
    | 0, hj => simp at hj; subst hj; simpa [Addr.add] using hc
  have h1c : ∀ u ∈ [c], u.oneCell' = true := by intro u hu; obtain rfl := List.mem_singleton.1 hu; exact hc1
  have hzl : zs.length = m := by have := ho.1; omega
  by_cases hd : o.ownBlock = v.ownBlock ∧ v.ownBlock ≠ none
  · obtain ⟨he, hne⟩ := hd
    obtain ⟨hvl, hv1 | ⟨g, cap, cur, rfl, hb0, hg, hncap, hcm, hcs, htk⟩⟩ := hv
    · exact absurd (by rw [hv1.1]; rfl) hne
    · obtain ⟨hol, ho1 | ⟨g2, cap2, cur2, rfl, hb2, hg2, hncap2, hcm2, hcs2, htk2⟩⟩ := ho
      · rw [ho1.1] at he; cases he
      · simp only [Value.ownBlock, Option.some.injEq] at he
        subst he
        have ec : cur2 = cur := by rw [hg] at hg2; simpa using hg2.symm
        subst ec
        have ecap : cap2 = cap := by omega
        subst ecap
        have hys := hk rfl
        by_cases hroom : m + 1 ≤ cap2
        · have hr := run_append_room (P := Tryz.prog) W 22 ty 5 i0 Tryz.underlying22 hi g2 m cap2 cur2 hg ⟨b, 0, none⟩ 1 1 [c] (by rw [hz1]; rfl) hnews h1c hroom (by rw [hz1]; simp; omega)
          rw [hz1] at hr
          have e1 : cur2.toList.take (m * 1) = zs := htk2
          have hnew := setRow_heap W g2 cur2 (cur2.toList.take (m * 1) ++ [c] ++ cur2.toList.drop (m * 1 + [c].length)).toArray 5 (0, 0) hg
          have hsz : (cur2.toList.take (m * 1) ++ [c] ++ cur2.toList.drop (m * 1 + [c].length)).toArray.size = cap2 * 1 := by
            simp only [List.size_toArray, List.length_append, List.length_take, List.length_drop, Array.length_toList, List.length_cons, List.length_nil]
            omega
          refine ⟨_, _, hr, ⟨hvl, .inr ⟨g2, cap2, _, rfl, hb0, hnew, hncap, hcm, hsz, ?_⟩⟩, ⟨zs ++ [c], ⟨by simp; omega, .inr ⟨g2, cap2, _, rfl, hb2, hnew, by omega, hcm2, hsz, ?_⟩⟩, fun _ => ?_⟩, ?_, fun k e => Or.inl e⟩
          · rw [e1]
            simp only [List.append_assoc, Nat.mul_one]
            rw [List.take_append_of_le_length (by omega)]
            exact hys
          · rw [e1]
            have : (m + 1) * 1 = (zs ++ [c]).length := by simp; omega
            rw [this]
            exact List.take_left' rfl
          · rw [List.take_append_of_le_length (by omega)]; exact hys
          · refine ⟨rfl, rfl, rfl, by simp, fun k hk hn => setRow_other W g2 k _ (fun e => hn (by simp [Value.ownBlock, e]))⟩
        · have holds : ∀ j u, zs[j]? = some u → W.cell? ((⟨g2, 0, none⟩ : Addr).add j) = some u := World.ownsRow.cells (g := g2) (w := W) (base := 0) (e := 5) (size := 1) (n := m) (xs := zs) (v := .slice (some ⟨g2, 0, none⟩) m cap2) ⟨hol, .inr ⟨g2, cap2, cur2, rfl, hb2, hg, hncap2, hcm2, hcs2, htk2⟩⟩ rfl
          have hr := run_append_grow (P := Tryz.prog) W 22 ty 5 i0 (.int .u8 0) Tryz.underlying22 hi hz0 ⟨g2, 0, none⟩ m cap2 zs (by rw [hz1]; omega) holds ⟨b, 0, none⟩ 1 1 [c] (by rw [hz1]; rfl) hnews (by omega) (by omega) (by rw [hz2]; exact growslice_fits (by omega) (by omega))
          have hge := grownCap_ge W (m + 1) cap2 5
          have hcm' : grownCap W (m + 1) cap2 5 ≤ maxLen := grownCap_le_maxLen W (m + 1) cap2 5 (by unfold maxLen; omega)
          have hF := far_of_below (a := W) (b := W.drew.alloc (.cells (zs.toArray ++ ([c] : List Value).toArray ++ Builtin.zeroCells (Value.int .u8 0).cells (grownCap W (m + 1) cap2 5 - (m + 1))) 5)) (((Below.refl _ _).drew).alloc (Nat.le_refl _) _)
          have hgl : g2 < W.heap.size := (Array.getElem?_eq_some_iff.1 hg).1
          refine ⟨_, _, hr, ⟨hvl, .inr ⟨g2, cap2, cur2, rfl, hb0, by rw [hF.2.2.2.2 g2 hgl (fun e => e)]; exact hg, hncap, hcm, hcs, htk⟩⟩, ⟨zs ++ [c], ⟨by simp; omega, .inr ⟨W.heap.size, _, _, rfl, Nat.zero_le _, heap_alloc_new W.drew _, hge, hcm', ?_, ?_⟩⟩, fun e => ?_⟩, ⟨hF.1, hF.2.1, hF.2.2.1, hF.2.2.2.1, fun k hk _ => hF.2.2.2.2 k hk (fun e => e)⟩, fun k e => Or.inr (by simp only [Value.ownBlock, Option.some.injEq] at e; omega)⟩
          · have hz1' : (Value.int IntKind.u8 0).cells.size = 1 := rfl
            simp only [Array.size_append, List.size_toArray, size_zeroCells, hz1', List.length_cons, List.length_nil]
            omega
          · simp only [Array.toList_append]
            have : (m + 1) * 1 = (zs ++ [c]).length := by simp; omega
            rw [this]
            exact List.take_left' rfl
          · simp only [Value.ownBlock, Option.some.injEq] at e
            omega
  · obtain ⟨o', w', hr, h2, h3, _, h5⟩ := run_append_own_at (P := Tryz.prog) W 0 22 ty 5 i0 (.int .u8 0) 1 1 Tryz.underlying22 hi hz0 hz1 hz2 rfl (by decide) o m zs ho ⟨b, 0, none⟩ 1 1 [c] rfl hnews h1c (by unfold maxLen; omega) (by omega) (Nat.zero_le _)
    have hF := far_grown h3
    have hdis : ∀ k, v.ownBlock = some k → ¬ o.ownBlock = some k := fun k e1 e2 => hd ⟨e2.trans e1.symm, by rw [e1]; simp⟩
    refine ⟨o', w', hr, rowB_far hv hF hdis, ⟨_, h2, fun e => ?_⟩, hF, fun k e => ?_⟩
    · rcases h5 with h5 | h5
      · rw [h5] at e
        have hvn : v.ownBlock = none := by
          cases hvb : v.ownBlock with
          | none => rfl
          | some k => exact absurd ⟨e, by rw [hvb]; simp⟩ hd
        rw [List.take_append_of_le_length (by omega)]
        exact hk e
      · rw [h5] at e
        have := (hv.lt W.heap.size e.symm).2
        omega
    · rcases h5 with h5 | h5
      · left; rw [← h5]; exact e
      · right; rw [h5] at e; simp only [Option.some.injEq] at e; omega
/-- 600 zeros more -/
theorem app_zeros (W : World) (v : Value) (n : Nat) (ys : List Value) (hv : RowB v n ys W) (hm : n ≤ 1000000000) (ty : TypeId) :
    ∃ ao cap w', (Builtin.append_ #[22, 3] ty #[v, .int .i64 600]).run Tryz.prog W = .ok (.slice ao (n + 600) cap) w' ∧ RowB v n ys w' ∧ Far (fun k => v.ownBlock = some k) W w' := by
  obtain ⟨i0, hi, hz0, hz1, hz2⟩ := info_parts Tryz.info5
  obtain ⟨hvl, hv1 | ⟨g, cap, cur, rfl, hb0, hg, hncap, hcm, hcs, htk⟩⟩ := hv
  · obtain ⟨rfl, rfl⟩ := hv1
    have hr := Lib.run_append_nil_zeros (P := Tryz.prog) W 22 3 ty 5 i0 (.int .u8 0) .i64 .i64 Tryz.underlying22 Tryz.underlying3 hi hz0 600 (by decide) (by rw [hz1]; decide) (by decide) (by rw [hz2]; decide)
    have hF := far_of_below (a := W) (b := W.drew.alloc (.cells (Builtin.zeroCells (Value.int .u8 0).cells 600 ++ Builtin.zeroCells (Value.int .u8 0).cells (grownCap W 600 0 5 - 600)) 5)) (((Below.refl _ _).drew).alloc (Nat.le_refl _) _)
    exact ⟨_, _, _, hr, ⟨hvl, .inl ⟨rfl, rfl⟩⟩, ⟨hF.1, hF.2.1, hF.2.2.1, hF.2.2.2.1, fun k hk _ => hF.2.2.2.2 k hk (fun e => e)⟩⟩
  · have hgl : g < W.heap.size := (Array.getElem?_eq_some_iff.1 hg).1
    by_cases hroom : n + 600 ≤ cap
    · have hst := run_storeCells_at Tryz.prog g n 5 (Builtin.zeroCells #[Value.int .u8 0] 600).toList 0 cur W hg (by simp [size_zeroCells]; omega) (by
        intro u hu
        simp [Builtin.zeroCells] at hu
        obtain ⟨_, _, rfl⟩ := hu
        simp [Nat.mod_one, Value.oneCell'])
      refine ⟨some ⟨g, 0, none⟩, cap, W.setRow g (cur.toList.take n ++ (Builtin.zeroCells #[Value.int .u8 0] 600).toList ++ cur.toList.drop (n + (Builtin.zeroCells #[Value.int .u8 0] 600).toList.length)).toArray, ?_, ?_, ?_⟩
      · have hw : IntKind.i64.wrap (600 : Int) = 600 := by rw [IntKind.wrap_i64]; rfl
        have hc0 : (Value.int .u8 0).cells = #[.int .u8 0] := rfl
        simp only [Nat.add_zero] at hst
        simp [Builtin.append_, run_underlying Tryz.underlying22, run_underlying Tryz.underlying3, sizeOf, typeInfo, zeroValue, hi, hz0, hz1, hz2, asInt, asIntOf, hw, hroom, Addr.add_lit, hc0, hst]
      · have hnew := setRow_heap W g cur (cur.toList.take n ++ (Builtin.zeroCells #[Value.int .u8 0] 600).toList ++ cur.toList.drop (n + (Builtin.zeroCells #[Value.int .u8 0] 600).toList.length)).toArray 5 (0, 0) hg
        have hzl : (Builtin.zeroCells #[Value.int .u8 0] 600).toList.length = 600 := by simp [size_zeroCells]
        refine ⟨hvl, .inr ⟨g, cap, _, rfl, hb0, hnew, hncap, hcm, ?_, ?_⟩⟩
        · simp only [List.size_toArray, List.length_append, List.length_take, List.length_drop, Array.length_toList, hzl]
          omega
        · have e1 : cur.toList.take n = ys := by simpa using htk
          rw [e1, List.append_assoc, List.take_append_of_le_length (by omega), List.take_of_length_le (by omega)]
      · exact ⟨rfl, rfl, rfl, by simp, fun k hk hn => setRow_other W g k _ (fun e => hn (by simp [Value.ownBlock, e]))⟩
    · have hold : (Builtin.firstCells i0.size n (.slice (some ⟨g, 0, none⟩) n cap)).run Tryz.prog W.drew = .ok ys.toArray W.drew := by
        have holds : ∀ j u, ys[j]? = some u → W.cell? ((⟨g, 0, none⟩ : Addr).add j) = some u := World.ownsRow.cells (g := g) (w := W) (base := 0) (e := 5) (size := 1) (n := n) (xs := ys) (v := .slice (some ⟨g, 0, none⟩) n cap) ⟨hvl, .inr ⟨g, cap, cur, rfl, hb0, hg, hncap, hcm, hcs, htk⟩⟩ rfl
        exact run_firstCells_some (P := Tryz.prog) W.drew i0.size n ⟨g, 0, none⟩ n cap ys (by rw [hz1]; exact hvl) (by simpa using holds)
      have hr := Lib.run_append_grow_zeros (P := Tryz.prog) W 22 3 ty 5 i0 (.int .u8 0) .i64 .i64 Tryz.underlying22 Tryz.underlying3 hi hz0 (some ⟨g, 0, none⟩) n cap ys hold 600 (by decide) (by rw [hz1]; decide) (by omega) (by omega) (by rw [hz2]; decide) (by rw [hz2]; exact growslice_fits (by omega) (by omega))
      have hF := far_of_below (a := W) (b := W.drew.alloc (.cells (ys.toArray ++ Builtin.zeroCells (Value.int .u8 0).cells 600 ++ Builtin.zeroCells (Value.int .u8 0).cells (grownCap W (n + 600) cap 5 - (n + 600))) 5)) (((Below.refl _ _).drew).alloc (Nat.le_refl _) _)
      refine ⟨_, _, _, hr, ⟨hvl, .inr ⟨g, cap, cur, rfl, hb0, by rw [hF.2.2.2.2 g hgl (fun e => e)]; exact hg, hncap, hcm, hcs, htk⟩⟩, ⟨hF.1, hF.2.1, hF.2.2.1, hF.2.2.2.1, fun k hk _ => hF.2.2.2.2 k hk (fun e => e)⟩⟩
end Go.Proofs.YtenegcoapejbmaaGreatDoor
namespace Go.Proofs.YtenegcoapejbmaaGreatDoor
open Go.RowKit
def OwnZ (v : Value) (ps : FL) (w : World) : Prop := w.ownsRow 0 76 2 v ps.length (cellsF ps)
theorem ownZ_of {w0 w : World} {v : Value} {ps : FL} (h : OwnF w0 v ps w) : OwnZ v ps w := by
  obtain ⟨hl, h1 | ⟨g, cap, cur, e, _, hr⟩⟩ := h.1
  · exact ⟨hl, .inl h1⟩
  · exact ⟨hl, .inr ⟨g, cap, cur, e, Nat.zero_le _, hr⟩⟩
theorem rowB_of {w0 w : World} {v : Value} {ps : List UInt8} (h : Own w0 v ps w) : RowB v ps.length (ps.map B) w := by
  obtain ⟨hl, h1 | ⟨g, cap, cur, e, _, hr⟩⟩ := h.1
  · exact ⟨hl, .inl h1⟩
  · exact ⟨hl, .inr ⟨g, cap, cur, e, Nat.zero_le _, hr⟩⟩
theorem ownZ_far {v : Value} {ps : FL} {w w' : World} {S : Nat → Prop} (h : OwnZ v ps w) (hf : Far S w w') (hn : ∀ k, v.ownBlock = some k → ¬ S k) : OwnZ v ps w' := by
  have hlt := World.ownsRow.lt h
  obtain ⟨hl, h1 | ⟨g, cap, cur, rfl, hb, hg, hr⟩⟩ := h
  · exact ⟨hl, .inl h1⟩
  · exact ⟨hl, .inr ⟨g, cap, cur, rfl, hb, by rw [hf.2.2.2.2 g (hlt g rfl).2 (hn g rfl)]; exact hg, hr⟩⟩
theorem ownZ_holds {v : Value} {ps : FL} {w : World} (h : OwnZ v ps w) : HoldsF w v ps := by
  have hb : Below (0 : Nat) { w with heap := #[] } w := ⟨rfl, rfl, rfl, Nat.zero_le _, fun k hk => absurd hk (Nat.not_lt_zero k)⟩
  exact holdsF_own (w0 := { w with heap := #[] }) ⟨h, hb⟩
theorem quad_far {b : Nat} {W W' : World} {S : Nat → Prop} {v0 v1 v2 v3 : Value} (h : Quad b W v0 v1 v2 v3) (hf : Far S W W') (hn : ¬ S b) : Quad b W' v0 v1 v2 v3 := by
  obtain ⟨h0, h1, h2, h3, f0, f1, f2, f3, hz⟩ := h
  have e := hf.2.2.2.2 b hz hn
  have c : ∀ o, W'.cell? ⟨b, o, none⟩ = W.cell? ⟨b, o, none⟩ := fun o => World.cell?_of_block (a := ⟨b, o, none⟩) e
  have f : ∀ o, W'.frozen? ⟨b, o, none⟩ = W.frozen? ⟨b, o, none⟩ := fun o => World.frozen?_of_block (a := ⟨b, o, none⟩) e
  exact ⟨by rw [c]; exact h0, by rw [c]; exact h1, by rw [c]; exact h2, by rw [c]; exact h3, by rw [f]; exact f0, by rw [f]; exact f1, by rw [f]; exact f2, by rw [f]; exact f3, Nat.lt_of_lt_of_le hz hf.2.2.2.1⟩
theorem row_types {w : World} {b1 b2 k1 k2 n1 n2 : Nat} {t1 t2 : TypeId} {v1 v2 : Value} {c1 c2 : List Value} (h1 : w.ownsRow b1 t1 k1 v1 n1 c1) (h2 : w.ownsRow b2 t2 k2 v2 n2 c2) (ht : t1 ≠ t2) : ∀ k, v1.ownBlock = some k → ¬ v2.ownBlock = some k := by
  intro k e1 e2
  obtain ⟨_, ⟨q, _⟩ | ⟨g, cap, cur, q, _, hg, _⟩⟩ := h1
  · rw [q] at e1; simp [Value.ownBlock] at e1
  · obtain ⟨_, ⟨q2, _⟩ | ⟨g2, cap2, cur2, q2, _, hg2, _⟩⟩ := h2
    · rw [q2] at e2; simp [Value.ownBlock] at e2
    · rw [q] at e1; rw [q2] at e2
      simp only [Value.ownBlock, Option.some.injEq] at e1 e2
      subst e1 e2
      rw [hg] at hg2
      simp only [Option.some.injEq, Obj.cells.injEq] at hg2
      exact ht hg2.2.1
end Go.Proofs.YtenegcoapejbmaaGreatDoor
