/- The document's table: First. -/
import Derived.Test.YtikkmnclcbanfaaLrT
import Derived.Deep.DeepCutAuto
namespace Go.Proofs.Ytikkmnclcbanfaa
open Go.RowKit Go.Maps Go.WideMaps
/-- a row of items of a call's own, from block base on -/
def RowI (base : Nat) (v : Value) (ps : IL) (W : World) : Prop := W.ownsRow base 35 3 v ps.length (cellsT ps)
theorem rowI_own {w W : World} {v : Value} {ps : IL} (h : OwnI w v ps W) : RowI w.heap.size v ps W := h.1
theorem rowI_holds {base : Nat} {W : World} {v : Value} {ps : IL} (h : RowI base v ps W) : HoldsI W v ps := by
  obtain ⟨hl, h1 | ⟨g, cap, cur, rfl, hg, hh, hr⟩⟩ := id h
  · obtain ⟨rfl, hn⟩ := h1
    obtain rfl : ps = [] := List.eq_nil_of_length_eq_zero hn
    exact ⟨none, 0, rfl, fun _ => rfl, Nat.le_refl _, fun h => absurd rfl h⟩
  · refine ⟨_, cap, rfl, fun e => (by cases e), hr.1, fun _ => ⟨g, 0, rfl, (World.ownsRow.lt h g rfl).2, fun j hj => ?_⟩⟩
    have c := cellsT_at ps j hj
    unfold ItAt
    rw [Nat.zero_add]
    exact ⟨by rw [World.ownsRow.cellAt h (j * 3) (by omega)]; exact c.1, by rw [World.ownsRow.cellAt h (j * 3 + 1) (by omega)]; exact c.2.1, by rw [World.ownsRow.cellAt h (j * 3 + 2) (by omega)]; exact c.2.2⟩
theorem rowI_off {base : Nat} {W W' : World} {v : Value} {ps : IL} {T : Nat → Prop} (h : RowI base v ps W) (ho : Off T W W') (hn : ∀ k, v.ownBlock = some k → ¬ T k) : RowI base v ps W' := by
  obtain ⟨hl, h1 | ⟨g, cap, cur, rfl, hg, hh, hr⟩⟩ := h
  · exact ⟨hl, .inl h1⟩
  · have hlt : g < W.heap.size := by
      rcases Nat.lt_or_ge g W.heap.size with h | h
      · exact h
      · rw [Array.getElem?_eq_none (by omega)] at hh; cases hh
    exact ⟨hl, .inr ⟨g, cap, cur, rfl, hg, by rw [ho.block g hlt (hn g rfl)]; exact hh, hr⟩⟩
theorem rowI_lt {base : Nat} {W : World} {v : Value} {ps : IL} (h : RowI base v ps W) : ∀ k, v.ownBlock = some k → base ≤ k ∧ k < W.heap.size := fun k e => World.ownsRow.lt h k e
set_option maxRecDepth 20000 in
set_option maxHeartbeats 4000000 in
theorem firstRefC (room : Int) (v : Value) (l : IL) (p : ItI) (w : World) (h : HoldsI w v l) (hn : l.length ≤ 1000000) :
    Calls Try.prog 17 #[.agg #[.int .i64 room, v], .agg #[.string ⟨p.key.toArray⟩, .int .i64 p.v, .int .i64 p.size]] w fun e w' => ∃ a n c, e = .returned (.agg #[.int .i64 room, .slice a n c]) ∧ OwnI w (.slice a n c) (p :: withT l p.key) w' := by
  obtain ⟨a, cap, rfl, hat⟩ := holdsI_at h
  obtain ⟨n, hN⟩ : ∃ n, n = l.length := ⟨_, rfl⟩
  have HN := hide' hN
  have HH := hide' h
  obtain ⟨w1, hw1⟩ : ∃ w1, w1 = ((w.alloc (.cells #[.int .i64 room, .slice a l.length cap] 28)).alloc (.cells #[.string ⟨p.key.toArray⟩, .int .i64 p.v, .int .i64 p.size] 35)).alloc (.cells #[.int .i64 0, .slice none 0 0] 28) := ⟨_, rfl⟩
  have k0 : Blk w.heap.size w1 [.int .i64 room, .slice a l.length cap] := by rw [hw1]; exact cells_below (cells_below (cells_lit w #[.int .i64 room, .slice a l.length cap] 28) (below_alloc' _ _)) (below_alloc' _ _)
  have k1 : Blk (w.heap.size + 1) w1 [.string ⟨p.key.toArray⟩, .int .i64 p.v, .int .i64 p.size] := by
    rw [hw1]
    have := cells_below (cells_lit (w.alloc (.cells #[.int .i64 room, .slice a l.length cap] 28)) #[.string ⟨p.key.toArray⟩, .int .i64 p.v, .int .i64 p.size] 35) (below_alloc' _ (.cells #[.int .i64 0, .slice none 0 0] 28))
    simpa using this
  have k2 : Blk (w.heap.size + 1 + 1) w1 [.int .i64 0, .slice none 0 0] := by
    rw [hw1]
    have := cells_lit ((w.alloc (.cells #[.int .i64 room, .slice a l.length cap] 28)).alloc (.cells #[.string ⟨p.key.toArray⟩, .int .i64 p.v, .int .i64 p.size] 35)) #[.int .i64 0, .slice none 0 0] 28
    simpa using this
  have hz : w1.heap.size = w.heap.size + 3 := by rw [hw1]; simp
  have LB : Hid (Below w.heap.size w w1) := by rw [hw1]; exact ((below_alloc' _ _).trans ((below_alloc' _ _).mono (by simp))).trans ((below_alloc' _ _).mono (by simp; omega))
  have CW := hide' (withoutRefC room (.slice a l.length cap) l p.key w1 (holdsI_mono h LB.out) hn)
  rw [← hN] at hn k0 hw1 CW ⊢
  have hwl : (withT l p.key).length ≤ 1000000 := by have := (with_sub l p.key).length_le; omega
  have HWL := hide' hwl
  have HW1 := hide' hw1
  have K0 := hide' k0
  have K1 := hide' k1
  have K2 := hide' k2
  obtain ⟨kb, hkb⟩ : ∃ kb : ByteArray, kb = ⟨p.key.toArray⟩ := ⟨_, rfl⟩
  have HKB := hide' hkb
  rw [← hkb] at K1 CW HW1 ⊢
  have c00 := (K0.out.1 0 (by simp)).1
  have c01 := (K0.out.1 1 (by simp)).1
  have c10 := (K1.out.1 0 (by simp)).1
  simp only [List.getElem_cons_zero, List.getElem_cons_succ] at c00 c01 c10
  clear h hat hN hw1 k0 k1 k2 hwl hkb
  go_enter Try.func17, Try.ntmps17
  go_wp2_with fail
  rw [← HW1.out]
  refine CW.out.mono ?_
  rintro e w2 ⟨a2, n2, c2, rfl, ho⟩
  have HO := hide' ho
  have B0 := cells_below K0.out (ho.2.mono (Nat.le_refl _))
  have B1 := cells_below K1.out ho.2
  have B2 := cells_below K2.out ho.2
  have e00 := (B0.1 0 (by simp)).1
  have e01 := (B0.1 1 (by simp)).1
  have g00 := (B0.1 0 (by simp)).2
  have g01 := (B0.1 1 (by simp)).2
  have x0 := (B1.1 0 (by simp)).1
  have x1 := (B1.1 1 (by simp)).1
  have x2 := (B1.1 2 (by simp)).1
  simp only [List.getElem_cons_zero, List.getElem_cons_succ] at e00 e01 x0 x1 x2
  have hz2 := ho.2.size
  obtain ⟨w3, hw3⟩ : ∃ w3, w3 = (w2.setCell ⟨w.heap.size, 0, none⟩ (.int .i64 room)).setCell ⟨w.heap.size, 1, none⟩ (.slice a2 n2 c2) := ⟨_, rfl⟩
  have hz3 : w3.heap.size = w2.heap.size := by rw [hw3]; simp
  have C0 : Hid (Blk w.heap.size w3 [.int .i64 room, .slice a2 n2 c2]) := by
    rw [hw3]
    have := cells_set (cells_set B0 (j := 0) (by simp) (.int .i64 room)) (j := 1) (by simp) (.slice a2 n2 c2)
    simpa [Hid] using this
  have C2 : Hid (Blk (w.heap.size + 1 + 1) w3 [.int .i64 0, .slice none 0 0]) := by
    rw [hw3]
    exact cells_other (cells_other B2 (by omega) _) (by omega) _
  have R3 : Hid (RowI w1.heap.size (.slice a2 n2 c2) (withT l p.key) w3) := by
    rw [hw3]
    exact row_poke (row_poke ho.1 (by omega)) (by omega)
  have L3 : Hid (Below w.heap.size w w3) := by
    rw [hw3]
    exact ((LB.out.trans (ho.2.mono (by omega))).setCell (Nat.le_refl _) _).setCell (Nat.le_refl _) _
  have OW : Hid (OwnI w3 (.slice (some ⟨w2.heap.size, 0, none⟩) 1 1) [p] (w3.alloc (.cells #[.string kb, .int .i64 p.v, .int .i64 p.size] 35))) := by
    have := ownI_lit w3 p
    unfold S at this
    rw [← HKB.out, hz3] at this
    exact this
  have HL : Hid (HoldsI (w3.alloc (.cells #[.string kb, .int .i64 p.v, .int .i64 p.size] 35)) (.slice a2 n2 c2) (withT l p.key)) := holdsI_mono (rowI_holds R3.out) (below_alloc' _ _)
  have HW3 := hide' hw3
  clear ho c00 c01 c10 B0 B1 B2 hw3 CW
  go_upto_region 2 with fail
  rw [← HW3.out]
  have e01' : w3.cell? ⟨w.heap.size, 1, none⟩ = some (.slice a2 n2 c2) := (C0.out.1 1 (by simp)).1
  have x0' : w3.cell? ⟨w.heap.size + 1, 0, none⟩ = some (.string kb) := by rw [HW3.out, World.cell?_setCell_other _ _ _ _ (by simp), World.cell?_setCell_other _ _ _ _ (by simp)]; exact x0
  have x1' : w3.cell? ⟨w.heap.size + 1, 1, none⟩ = some (.int .i64 p.v) := by rw [HW3.out, World.cell?_setCell_other _ _ _ _ (by simp), World.cell?_setCell_other _ _ _ _ (by simp)]; exact x1
  have x2' : w3.cell? ⟨w.heap.size + 1, 2, none⟩ = some (.int .i64 p.size) := by rw [HW3.out, World.cell?_setCell_other _ _ _ _ (by simp), World.cell?_setCell_other _ _ _ _ (by simp)]; exact x2
  clear e00 e01 g00 g01 x0 x1 x2
  have hb3 : w.heap.size < w3.heap.size := by omega
  have k01 : (w3.alloc (.cells #[.string kb, .int .i64 p.v, .int .i64 p.size] 35)).cell? ⟨w.heap.size, 1, none⟩ = some (.slice a2 n2 c2) := by rw [(below_alloc' w3 _).cell (p := ⟨w.heap.size, 1, none⟩) hb3]; exact e01'
  go_wp2_with (at_builtin; refine appAllI rfl (.tmp 12) (.tmp 14) rfl w3 _ [p] rfl OW.out (.slice a2 n2 c2) (withT l p.key) rfl HL.out (by have := HWL.out; simp; omega) ?_; intro v5 w5 a5; have A5 := hide' a5; have E5 := hide' (ownI_sl a5); have D0 := hide' (cells_base C0.out a5.2 (by omega)); have D2 := hide' (cells_base C2.out a5.2 (by omega)); clear a5; obtain ⟨a6, c6, e6⟩ := E5.out; generalize ([p] ++ withT l p.key).length = n6 at e6; subst e6; have q00 : w5.cell? ⟨w.heap.size, 0, none⟩ = some (.int .i64 room) := (D0.out.1 0 (by simp)).1; have q01 : w5.cell? ⟨w.heap.size, 1, none⟩ = some (.slice a2 n2 c2) := (D0.out.1 1 (by simp)).1; have qf1 : w5.frozen? ⟨w.heap.size, 1, none⟩ = false := (D0.out.1 1 (by simp)).2; have q20 : w5.cell? ⟨w.heap.size + 1 + 1, 0, none⟩ = some (.int .i64 0) := (D2.out.1 0 (by simp)).1; have q21 : w5.cell? ⟨w.heap.size + 1 + 1, 1, none⟩ = some (.slice none 0 0) := (D2.out.1 1 (by simp)).1; have qf2 : w5.frozen? ⟨w.heap.size + 1 + 1, 0, none⟩ = false := (D2.out.1 0 (by simp)).2; have qf3 : w5.frozen? ⟨w.heap.size + 1 + 1, 1, none⟩ = false := (D2.out.1 1 (by simp)).2)
  have F2 := cells_set (cells_set (cells_other (c := w.heap.size) (o := 1) D2.out (by omega) (.slice a6 n6 c6)) (j := 0) (by simp) (.int .i64 room)) (j := 1) (by simp) (.slice a6 n6 c6)
  have r0 := (F2.1 0 (by simp)).1
  have r1 := (F2.1 1 (by simp)).1
  simp only [List.set_cons_zero, List.set_cons_succ, List.getElem_cons_zero, List.getElem_cons_succ] at r0 r1
  refine bodyPost_ret (v := .agg #[.int .i64 room, .slice a6 n6 c6]) (by simp [results, Try.results17, go_sem, r0, r1]) rfl ⟨_, _, _, rfl, ?_⟩
  have hA := A5.out
  have hl3 : Below w.heap.size w w5 := L3.out.trans (hA.2.mono (by omega))
  have p0 := row_poke (b := w.heap.size) (o := 1) (x := .slice a6 n6 c6) hA.1 (by omega)
  have p1 := row_poke (b := w.heap.size + 1 + 1) (o := 0) (x := .int .i64 room) p0 (by omega)
  have p2 := row_poke (b := w.heap.size + 1 + 1) (o := 1) (x := .slice a6 n6 c6) p1 (by omega)
  exact ⟨row_base p2 (by omega), ((hl3.setCell (Nat.le_refl _) _).setCell (by show w.heap.size ≤ w.heap.size + 1 + 1; omega) _).setCell (by show w.heap.size ≤ w.heap.size + 1 + 1; omega) _⟩
end Go.Proofs.Ytikkmnclcbanfaa
