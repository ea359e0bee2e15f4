/- A byte, and 600 zeros, appended to a row of bytes while another slice of the same row stands. -/
import Derived.Test.YtipcmbonhkelbabGreatDoorFarT
import Derived.Lib.AppendZerosOnto
namespace Go.Proofs.YtipcmbonhkelbabGreatDoor
open Go.RowKit
abbrev RowB (v : Value) (n : Nat) (ys : List Value) (w : World) : Prop := w.ownsRow 0 5 1 v n ys
theorem rowB_form {n : Nat} {v : Value} {ys : List Value} {w : World} (h : RowB v n ys w) : ∃ ao cap, v = .slice ao n cap ∧ (0 < n → ∃ g, ao = some ⟨g, 0, none⟩) := by
  obtain ⟨_, ⟨rfl, rfl⟩ | ⟨g, cap, cur, rfl, _⟩⟩ := h
  · exact ⟨none, 0, rfl, fun h => absurd h (by decide)⟩
  · exact ⟨some ⟨g, 0, none⟩, cap, rfl, fun _ => ⟨g, rfl⟩⟩
theorem rowB_far {v : Value} {n : Nat} {ys : List Value} {w w' : World} {S : Nat → Prop} (h : RowB v n ys w) (hf : Far S w w') (hn : ∀ k, v.ownBlock = some k → ¬ S k) : RowB v n ys w' := by
  have hlt := h.lt
  obtain ⟨hl, h1 | ⟨g, cap, cur, rfl, hb, hg, hr⟩⟩ := h
  · exact ⟨hl, .inl h1⟩
  · exact ⟨hl, .inr ⟨g, cap, cur, rfl, hb, by rw [hf.2.2.2.2 g (hlt g rfl).2 (hn g rfl)]; exact hg, hr⟩⟩
/-- one byte more -/
theorem app_keep (W : World) (v o : Value) (n m : Nat) (ys zs : List Value) (hv : RowB v n ys W) (ho : RowB o m zs W) (hnm : n ≤ m) (hk : o.ownBlock = v.ownBlock → zs.take n = ys) (b : Nat) (c : Value) (hc : W.cell? ⟨b, 0, none⟩ = some c) (hc1 : c.oneCell' = true) (hm : m ≤ 1000000000) (ty : TypeId) :
    ∃ o' w', (Builtin.append_ #[25, 25] ty #[o, .slice (some ⟨b, 0, none⟩) 1 1]).run Tryz.prog W = .ok o' w' ∧ RowB v n ys w' ∧ (∃ zs', RowB o' (m + 1) zs' w' ∧ (o'.ownBlock = v.ownBlock → zs'.take n = ys)) ∧ Far (fun k => o.ownBlock = some k) W w' ∧ (∀ k, o'.ownBlock = some k → o.ownBlock = some k ∨ W.heap.size ≤ k) := by
  obtain ⟨i0, hi, hz0, hz1, hz2⟩ := info_parts Tryz.info5
  have hnews : ∀ j u, ([c] : List Value)[j]? = some u → W.cell? ((⟨b, 0, none⟩ : Addr).add j) = some u := by
    intro j u hj
    match j, hj with
    | 0, hj => simp at hj; subst hj; simpa [Addr.add] using hc
  have h1c : ∀ u ∈ [c], u.oneCell' = true := by intro u hu; obtain rfl := List.mem_singleton.1 hu; exact hc1
  have hzl : zs.length = m := by have := ho.1; omega
  by_cases hd : o.ownBlock = v.ownBlock ∧ v.ownBlock ≠ none
  · obtain ⟨he, hne⟩ := hd
    obtain ⟨hvl, hv1 | ⟨g, cap, cur, rfl, hb0, hg, hncap, hcm, hcs, htk⟩⟩ := hv
    · exact absurd (by rw [hv1.1]; rfl) hne
    · obtain ⟨hol, ho1 | ⟨g2, cap2, cur2, rfl, hb2, hg2, hncap2, hcm2, hcs2, htk2⟩⟩ := ho
      · rw [ho1.1] at he; cases he
      · simp only [Value.ownBlock, Option.some.injEq] at he
        subst he
        have ec : cur2 = cur := by rw [hg] at hg2; simpa using hg2.symm
        subst ec
        have ecap : cap2 = cap := by omega
        subst ecap
        have hys := hk rfl
        by_cases hroom : m + 1 ≤ cap2
        · have hr := run_append_room (P := Tryz.prog) W 25 ty 5 i0 Tryz.underlying25 hi g2 m cap2 cur2 hg ⟨b, 0, none⟩ 1 1 [c] (by rw [hz1]; rfl) hnews h1c hroom (by rw [hz1]; simp; omega)
          rw [hz1] at hr
          have e1 : cur2.toList.take (m * 1) = zs := htk2
          have hnew := setRow_heap W g2 cur2 (cur2.toList.take (m * 1) ++ [c] ++ cur2.toList.drop (m * 1 + [c].length)).toArray 5 (0, 0) hg
          have hsz : (cur2.toList.take (m * 1) ++ [c] ++ cur2.toList.drop (m * 1 + [c].length)).toArray.size = cap2 * 1 := by
            simp only [List.size_toArray, List.length_append, List.length_take, List.length_drop, Array.length_toList, List.length_cons, List.length_nil]
            omega
          refine ⟨_, _, hr, ⟨hvl, .inr ⟨g2, cap2, _, rfl, hb0, hnew, hncap, hcm, hsz, ?_⟩⟩, ⟨zs ++ [c], ⟨by simp; omega, .inr ⟨g2, cap2, _, rfl, hb2, hnew, by omega, hcm2, hsz, ?_⟩⟩, fun _ => ?_⟩, ?_, fun k e => Or.inl e⟩
          · rw [e1]
            simp only [List.append_assoc, Nat.mul_one]
            rw [List.take_append_of_le_length (by omega)]
            exact hys
          · rw [e1]
            have : (m + 1) * 1 = (zs ++ [c]).length := by simp; omega
            rw [this]
            exact List.take_left' rfl
          · rw [List.take_append_of_le_length (by omega)]; exact hys
          · refine ⟨rfl, rfl, rfl, by simp, fun k hk hn => setRow_other W g2 k _ (fun e => hn (by simp [Value.ownBlock, e]))⟩
        · have holds : ∀ j u, zs[j]? = some u → W.cell? ((⟨g2, 0, none⟩ : Addr).add j) = some u := World.ownsRow.cells (g := g2) (w := W) (base := 0) (e := 5) (size := 1) (n := m) (xs := zs) (v := .slice (some ⟨g2, 0, none⟩) m cap2) ⟨hol, .inr ⟨g2, cap2, cur2, rfl, hb2, hg, hncap2, hcm2, hcs2, htk2⟩⟩ rfl
          have hr := run_append_grow (P := Tryz.prog) W 25 ty 5 i0 (.int .u8 0) Tryz.underlying25 hi hz0 ⟨g2, 0, none⟩ m cap2 zs (by rw [hz1]; omega) holds ⟨b, 0, none⟩ 1 1 [c] (by rw [hz1]; rfl) hnews (by omega) (by omega) (by rw [hz2]; exact growslice_fits (by omega) (by omega))
          have hge := grownCap_ge W (m + 1) cap2 5
          have hcm' : grownCap W (m + 1) cap2 5 ≤ maxLen := grownCap_le_maxLen W (m + 1) cap2 5 (by unfold maxLen; omega)
          have hF := far_of_below (a := W) (b := W.drew.alloc (.cells (zs.toArray ++ ([c] : List Value).toArray ++ Builtin.zeroCells (Value.int .u8 0).cells (grownCap W (m + 1) cap2 5 - (m + 1))) 5)) (((Below.refl _ _).drew).alloc (Nat.le_refl _) _)
          have hgl : g2 < W.heap.size := (Array.getElem?_eq_some_iff.1 hg).1
          refine ⟨_, _, hr, ⟨hvl, .inr ⟨g2, cap2, cur2, rfl, hb0, by rw [hF.2.2.2.2 g2 hgl (fun e => e)]; exact hg, hncap, hcm, hcs, htk⟩⟩, ⟨zs ++ [c], ⟨by simp; omega, .inr ⟨W.heap.size, _, _, rfl, Nat.zero_le _, heap_alloc_new W.drew _, hge, hcm', ?_, ?_⟩⟩, fun e => ?_⟩, ⟨hF.1, hF.2.1, hF.2.2.1, hF.2.2.2.1, fun k hk _ => hF.2.2.2.2 k hk (fun e => e)⟩, fun k e => Or.inr (by simp only [Value.ownBlock, Option.some.injEq] at e; omega)⟩
          · have hz1' : (Value.int IntKind.u8 0).cells.size = 1 := rfl
            simp only [Array.size_append, List.size_toArray, size_zeroCells, hz1', List.length_cons, List.length_nil]
            omega
          · simp only [Array.toList_append]
            have : (m + 1) * 1 = (zs ++ [c]).length := by simp; omega
            rw [this]
            exact List.take_left' rfl
          · simp only [Value.ownBlock, Option.some.injEq] at e
            omega
  · obtain ⟨o', w', hr, h2, h3, _, h5⟩ := run_append_own_at (P := Tryz.prog) W 0 25 ty 5 i0 (.int .u8 0) 1 1 Tryz.underlying25 hi hz0 hz1 hz2 rfl (by decide) o m zs ho ⟨b, 0, none⟩ 1 1 [c] rfl hnews h1c (by unfold maxLen; omega) (by omega) (Nat.zero_le _)
    have hF := far_grown h3
    have hdis : ∀ k, v.ownBlock = some k → ¬ o.ownBlock = some k := fun k e1 e2 => hd ⟨e2.trans e1.symm, by rw [e1]; simp⟩
    refine ⟨o', w', hr, rowB_far hv hF hdis, ⟨_, h2, fun e => ?_⟩, hF, fun k e => ?_⟩
    · rcases h5 with h5 | h5
      · rw [h5] at e
        have hvn : v.ownBlock = none := by
          cases hvb : v.ownBlock with
          | none => rfl
          | some k => exact absurd ⟨e, by rw [hvb]; simp⟩ hd
        rw [List.take_append_of_le_length (by omega)]
        exact hk e
      · rw [h5] at e
        have := (hv.lt W.heap.size e.symm).2
        omega
    · rcases h5 with h5 | h5
      · left; rw [← h5]; exact e
      · right; rw [h5] at e; simp only [Option.some.injEq] at e; omega
/-- 600 zeros more -/
theorem app_zeros (W : World) (v : Value) (n : Nat) (ys : List Value) (hv : RowB v n ys W) (hm : n ≤ 1000000000) (ty : TypeId) :
    ∃ ao cap w', (Builtin.append_ #[25, 3] ty #[v, .int .i64 600]).run Tryz.prog W = .ok (.slice ao (n + 600) cap) w' ∧ RowB v n ys w' ∧ Far (fun k => v.ownBlock = some k) W w' := by
  obtain ⟨i0, hi, hz0, hz1, hz2⟩ := info_parts Tryz.info5
  obtain ⟨hvl, hv1 | ⟨g, cap, cur, rfl, hb0, hg, hncap, hcm, hcs, htk⟩⟩ := hv
  · obtain ⟨rfl, rfl⟩ := hv1
    have hr := Lib.run_append_nil_zeros (P := Tryz.prog) W 25 3 ty 5 i0 (.int .u8 0) .i64 .i64 Tryz.underlying25 Tryz.underlying3 hi hz0 600 (by decide) (by rw [hz1]; decide) (by decide) (by rw [hz2]; decide)
    have hF := far_of_below (a := W) (b := W.drew.alloc (.cells (Builtin.zeroCells (Value.int .u8 0).cells 600 ++ Builtin.zeroCells (Value.int .u8 0).cells (grownCap W 600 0 5 - 600)) 5)) (((Below.refl _ _).drew).alloc (Nat.le_refl _) _)
    exact ⟨_, _, _, hr, ⟨hvl, .inl ⟨rfl, rfl⟩⟩, ⟨hF.1, hF.2.1, hF.2.2.1, hF.2.2.2.1, fun k hk _ => hF.2.2.2.2 k hk (fun e => e)⟩⟩
  · have hgl : g < W.heap.size := (Array.getElem?_eq_some_iff.1 hg).1
    by_cases hroom : n + 600 ≤ cap
    · have hst := run_storeCells_at Tryz.prog g n 5 (Builtin.zeroCells #[Value.int .u8 0] 600).toList 0 cur W hg (by simp [size_zeroCells]; omega) (by
        intro u hu
        simp [Builtin.zeroCells] at hu
        obtain ⟨_, _, rfl⟩ := hu
        simp [Nat.mod_one, Value.oneCell'])
      refine ⟨some ⟨g, 0, none⟩, cap, W.setRow g (cur.toList.take n ++ (Builtin.zeroCells #[Value.int .u8 0] 600).toList ++ cur.toList.drop (n + (Builtin.zeroCells #[Value.int .u8 0] 600).toList.length)).toArray, ?_, ?_, ?_⟩
      · have hw : IntKind.i64.wrap (600 : Int) = 600 := by rw [IntKind.wrap_i64]; rfl
        have hc0 : (Value.int .u8 0).cells = #[.int .u8 0] := rfl
        simp only [Nat.add_zero] at hst
        simp [Builtin.append_, run_underlying Tryz.underlying25, run_underlying Tryz.underlying3, sizeOf, typeInfo, zeroValue, hi, hz0, hz1, hz2, asInt, asIntOf, hw, hroom, Addr.add_lit, hc0, hst]
      · have hnew := setRow_heap W g cur (cur.toList.take n ++ (Builtin.zeroCells #[Value.int .u8 0] 600).toList ++ cur.toList.drop (n + (Builtin.zeroCells #[Value.int .u8 0] 600).toList.length)).toArray 5 (0, 0) hg
        have hzl : (Builtin.zeroCells #[Value.int .u8 0] 600).toList.length = 600 := by simp [size_zeroCells]
        refine ⟨hvl, .inr ⟨g, cap, _, rfl, hb0, hnew, hncap, hcm, ?_, ?_⟩⟩
        · simp only [List.size_toArray, List.length_append, List.length_take, List.length_drop, Array.length_toList, hzl]
          omega
        · have e1 : cur.toList.take n = ys := by simpa using htk
          rw [e1, List.append_assoc, List.take_append_of_le_length (by omega), List.take_of_length_le (by omega)]
      · exact ⟨rfl, rfl, rfl, by simp, fun k hk hn => setRow_other W g k _ (fun e => hn (by simp [Value.ownBlock, e]))⟩
    · have hold : (Builtin.firstCells i0.size n (.slice (some ⟨g, 0, none⟩) n cap)).run Tryz.prog W.drew = .ok ys.toArray W.drew := by
        have holds : ∀ j u, ys[j]? = some u → W.cell? ((⟨g, 0, none⟩ : Addr).add j) = some u := World.ownsRow.cells (g := g) (w := W) (base := 0) (e := 5) (size := 1) (n := n) (xs := ys) (v := .slice (some ⟨g, 0, none⟩) n cap) ⟨hvl, .inr ⟨g, cap, cur, rfl, hb0, hg, hncap, hcm, hcs, htk⟩⟩ rfl
        exact run_firstCells_some (P := Tryz.prog) W.drew i0.size n ⟨g, 0, none⟩ n cap ys (by rw [hz1]; exact hvl) (by simpa using holds)
      have hr := Lib.run_append_grow_zeros (P := Tryz.prog) W 25 3 ty 5 i0 (.int .u8 0) .i64 .i64 Tryz.underlying25 Tryz.underlying3 hi hz0 (some ⟨g, 0, none⟩) n cap ys hold 600 (by decide) (by rw [hz1]; decide) (by omega) (by omega) (by rw [hz2]; decide) (by rw [hz2]; exact growslice_fits (by omega) (by omega))
      have hF := far_of_below (a := W) (b := W.drew.alloc (.cells (ys.toArray ++ Builtin.zeroCells (Value.int .u8 0).cells 600 ++ Builtin.zeroCells (Value.int .u8 0).cells (grownCap W (n + 600) cap 5 - (n + 600))) 5)) (((Below.refl _ _).drew).alloc (Nat.le_refl _) _)
      refine ⟨_, _, _, hr, ⟨hvl, .inr ⟨g, cap, cur, rfl, hb0, by rw [hF.2.2.2.2 g hgl (fun e => e)]; exact hg, hncap, hcm, hcs, htk⟩⟩, ⟨hF.1, hF.2.1, hF.2.2.1, hF.2.2.2.1, fun k hk _ => hF.2.2.2.2 k hk (fun e => e)⟩⟩
end Go.Proofs.YtipcmbonhkelbabGreatDoor
