/- The document's table: Without, First. -/
import Derived.Test.YtikkmnclcbanfaaLrS
namespace Go.Proofs.Ytikkmnclcbanfaa
open Go.RowKit Go.Maps Go.WideMaps
theorem ownI_poke {w w1 wr : World} {v x : Value} {ps : IL} {b o : Nat} (h : OwnI w1 v ps wr) (hw : Below w.heap.size w wr) (h1 : w.heap.size ≤ b) (h2 : b < w1.heap.size) : (wr.setCell ⟨b, o, none⟩ x).ownsRow w1.heap.size 35 3 v ps.length (cellsT ps) ∧ Below w.heap.size w (wr.setCell ⟨b, o, none⟩ x) :=
  ⟨row_poke h.1 h2, hw.setCell h1 x⟩
theorem ownI_sl {w1 wr : World} {v : Value} {ps : IL} (h : OwnI w1 v ps wr) : ∃ a c, v = .slice a ps.length c := by
  obtain ⟨hl, ⟨rfl, hn⟩ | ⟨g, cap, cur, rfl, _⟩⟩ := h.1
  · exact ⟨none, 0, by rw [hn]⟩
  · exact ⟨_, _, rfl⟩
theorem with_take {l : IL} {k : Nm} {j : Nat} (hj : j < l.length) : (l[j].key = k → withT (l.take (j + 1)) k = withT (l.take j) k) ∧ (l[j].key ≠ k → withT (l.take (j + 1)) k = withT (l.take j) k ++ [l[j]]) := by
  unfold withT
  rw [List.take_succ_eq_append_getElem hj, List.filter_append]
  constructor
  · intro h; simp [h]
  · intro h; simp [h]
set_option maxRecDepth 20000 in
set_option maxHeartbeats 2000000 in
theorem withoutRefC (room : Int) (v : Value) (l : IL) (k : Nm) (w : World) (h : HoldsI w v l) (hn : l.length ≤ 1000000) :
    Calls Try.prog 20 #[.agg #[.int .i64 room, v], .string ⟨k.toArray⟩] w fun e w' => ∃ a n c, e = .returned (.agg #[.int .i64 room, .slice a n c]) ∧ OwnI w (.slice a n c) (withT l k) w' := by
  obtain ⟨a, cap, rfl, hat⟩ := holdsI_at h
  obtain ⟨n, hN⟩ : ∃ n, n = l.length := ⟨_, rfl⟩
  have HN := hide' hN
  have AT : Hid (∀ j (hj : j < l.length), ∃ b off, a = some ⟨b, off, none⟩ ∧ b < w.heap.size ∧ ItAt w b (off + j * 3) l[j]) := hat
  obtain ⟨w1, hw1⟩ : ∃ w1, w1 = (w.alloc (.cells #[.int .i64 room, .slice a l.length cap] 28)).alloc (.cells #[.int .i64 0, .slice none 0 0] 28) := ⟨_, rfl⟩
  have k0 : Blk w.heap.size w1 [.int .i64 room, .slice a l.length cap] := by rw [hw1]; exact cells_below (cells_lit w #[.int .i64 room, .slice a l.length cap] 28) (below_alloc' _ _)
  have k1 : Blk (w.heap.size + 1) w1 [.int .i64 0, .slice none 0 0] := by
    rw [hw1]
    have := cells_lit (w.alloc (.cells #[.int .i64 room, .slice a l.length cap] 28)) #[.int .i64 0, .slice none 0 0] 28
    simpa using this
  have hz : w1.heap.size = w.heap.size + 1 + 1 := by rw [hw1]; simp
  have LB : Hid (Below w.heap.size w w1) := by rw [hw1]; exact (below_alloc' _ _).trans ((below_alloc' _ _).mono (by simp))
  have OM := hide' (ownI_empty w1)
  rw [hz] at OM
  rw [← hN] at hn k0 hw1 ⊢
  have HW1 := hide' hw1
  have K0 := hide' k0
  have K1 := hide' k1
  clear h hat hN hw1 k0 k1
  go_enter Try.func20, Try.ntmps20
  go_wp2_with fail
  rw [← HW1.out]
  go_loopw [5, 6] (fun ov iv wr => ∃ j : Nat, j ≤ n ∧ iv = .int .i64 j ∧ Hid (OwnI w1 ov (withT (l.take j) k) wr)) (fun _ iv _ => n - (intOf iv).toNat)
  case atStart => exact ⟨0, by omega, rfl, OM⟩
  case round =>
    obtain ⟨j, hj, rfl, HO⟩ := hrel
    have B0 := cells_base K0.out HO.out.2 (by omega)
    have B1 := cells_base K1.out HO.out.2 (by omega)
    have c01 : wr.cell? ⟨w.heap.size, 1, none⟩ = some (.slice a n cap) := (B0.1 1 (by simp)).1
    by_cases hlt : j < n
    · have hjl : j < l.length := by rw [← HN.out]; exact hlt
      obtain ⟨b, off, rfl, hb, e0, e1, e2⟩ := AT.out j hjl
      have KP : ∀ o, wr.cell? ⟨b, o, none⟩ = w.cell? ⟨b, o, none⟩ := fun o => by rw [HO.out.2.cell (p := ⟨b, o, none⟩) (show b < w1.heap.size by omega), LB.out.cell (p := ⟨b, o, none⟩) hb]
      rw [← KP] at e0 e1 e2
      unfold S at e0
      obtain ⟨f1, f2⟩ := with_take (k := k) hjl
      have hwl : (withT (l.take j) k).length ≤ 1000000 := by
        have := (with_sub (l.take j) k).length_le
        rw [List.length_take] at this
        omega
      have HWL := hide' hwl
      by_cases he : l[j].key = k
      · have F := hide' (f1 he)
        have hj3 : Hid (off + j * 3 = off + j * 3) := rfl
        rw [he] at e0
        generalize (⟨k.toArray⟩ : ByteArray) = y at e0 ⊢
        clear f1 f2 he e1 e2 KP hwl
        go_wp2_with fail
        go_roundw
        case rel => exact ⟨j + 1, by omega, by go_num, by unfold Hid; rw [F.out]; exact HO.out⟩
        case measure => simp [intOf]; omega
      · have F := hide' (f2 he)
        have hne := str_ne he
        generalize hyy : (⟨l[j].key.toArray⟩ : ByteArray) = y at e0 hne
        have HYY := hide' hyy
        generalize (⟨k.toArray⟩ : ByteArray) = z at hne ⊢
        generalize hv1 : l[j].v = v1 at e1
        generalize hv2 : l[j].size = v2 at e2
        have HV := hide' (And.intro hv1 hv2)
        clear f1 f2 he KP hwl hyy hv1 hv2
        go_wp2_with (at_builtin; refine appI rfl (.tmp 23) (.tmp 29) rfl w1 _ (withT (l.take j) k) rfl HO.out l[j] HYY.out.symm HV.out.1.symm HV.out.2.symm rfl rfl (by have := HWL.out; omega) ?_; intro v3 w3 a3; have A3 := hide' a3; clear a3)
        go_roundw
        case rel => exact ⟨j + 1, by omega, by go_num, by unfold Hid; rw [F.out]; exact A3.out⟩
        case measure => simp [intOf]; omega
    · have F : Hid (l.take j = l) := by unfold Hid; rw [List.take_of_length_le (by rw [← HN.out]; omega)]
      have HO2 : Hid (OwnI w1 u5 (withT l k) wr) := by have := HO; rw [F.out] at this; exact this
      obtain ⟨a9, c9, e9⟩ := ownI_sl HO2.out
      generalize (withT l k).length = n9 at e9
      subst e9
      have c00 : wr.cell? ⟨w.heap.size, 0, none⟩ = some (.int .i64 room) := (B0.1 0 (by simp)).1
      have f01 : wr.frozen? ⟨w.heap.size, 1, none⟩ = false := (B0.1 1 (by simp)).2
      have c10 : wr.cell? ⟨w.heap.size + 1, 0, none⟩ = some (.int .i64 0) := (B1.1 0 (by simp)).1
      have c11 : wr.cell? ⟨w.heap.size + 1, 1, none⟩ = some (.slice none 0 0) := (B1.1 1 (by simp)).1
      have f10 : wr.frozen? ⟨w.heap.size + 1, 0, none⟩ = false := (B1.1 0 (by simp)).2
      have f11 : wr.frozen? ⟨w.heap.size + 1, 1, none⟩ = false := (B1.1 1 (by simp)).2
      have B2 := cells_set (cells_set (cells_other (c := w.heap.size) (o := 1) B1 (by omega) (.slice a9 n9 c9)) (j := 0) (by simp) (.int .i64 room)) (j := 1) (by simp) (.slice a9 n9 c9)
      have r0 := (B2.1 0 (by simp)).1
      have r1 := (B2.1 1 (by simp)).1
      simp only [List.set_cons_zero, List.set_cons_succ, List.getElem_cons_zero, List.getElem_cons_succ] at r0 r1
      have R0 := hide' r0
      have R1 := hide' r1
      clear B0 B1 B2 r0 r1
      go_wp2_with fail
      refine bodyPost_ret (v := .agg #[.int .i64 room, .slice a9 n9 c9]) (by simp [results, Try.results20, go_sem, R0.out, R1.out]) rfl ⟨_, _, _, rfl, ?_⟩
      have p0 := ownI_poke (b := w.heap.size) (o := 1) (x := .slice a9 n9 c9) HO2.out (LB.out.trans (HO2.out.2.mono (by omega))) (by omega) (by omega)
      have p1 := row_poke (b := w.heap.size + 1) (o := 0) (x := .int .i64 room) p0.1 (by omega)
      have p2 := row_poke (b := w.heap.size + 1) (o := 1) (x := .slice a9 n9 c9) p1 (by omega)
      exact ⟨row_base p2 (by omega), (p0.2.setCell (Nat.le_succ _) _).setCell (Nat.le_succ _) _⟩
end Go.Proofs.Ytikkmnclcbanfaa
