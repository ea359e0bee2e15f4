/- The walk of the law TokMemory. -/
import Derived.Test.YtegdbieieacalabDoorAlive
namespace Go.Proofs.YtegdbieieacalabDoor
open Go.RowKit
/-- but for block g and new blocks, b is as a was -/
def Part (g : Nat) (a b : World) : Prop := b.os = a.os ∧ b.tape = a.tape ∧ b.output = a.output ∧ a.heap.size ≤ b.heap.size ∧ ∀ k, k < a.heap.size → k ≠ g → b.heap[k]? = a.heap[k]?
theorem size_drawn (w : World) (n : Nat) : (w.drewN n).heap.size = w.heap.size := by simp
theorem part_refl (g : Nat) (a : World) : Part g a a := ⟨rfl, rfl, rfl, Nat.le_refl _, fun _ _ _ => rfl⟩
theorem part_store {g : Nat} {a b : World} (h : Part g a b) (j : Nat) (v : Value) : Part g a (b.setCell ⟨g, j, none⟩ v) := by
  obtain ⟨h1, h2, h3, h4, h5⟩ := h
  exact ⟨h1, h2, h3, by simpa [World.setCell] using h4, fun k hk hg => by rw [Below.heap_setCell _ _ _ _ hg]; exact h5 k hk hg⟩
theorem part_below {g : Nat} {a b : World} (h : Part g a b) (B : Nat) (hB : B ≤ g) (hs : B ≤ a.heap.size) : Below B a b := by
  obtain ⟨h1, h2, h3, h4, h5⟩ := h
  exact ⟨h1, h2, h3, h4, fun k hk => h5 k (by omega) (by omega)⟩
theorem holds_part {w0 w w' : World} {v : Value} {ss : List (List UInt8)} {g : Nat} (h : OwnS w0 v ss w) (hg : g < w0.heap.size) (hp : Part g w w') : Holds w' v ss := by
  obtain ⟨hl, h1 | ⟨b, cap, cur, rfl, hb, hh, hr⟩⟩ := h.1
  · obtain ⟨rfl, hn⟩ := h1
    obtain rfl : ss = [] := List.eq_nil_of_length_eq_zero hn
    exact ⟨none, 0, rfl, fun h => absurd rfl h⟩
  · have hlt := (h.1.lt b rfl).2
    refine ⟨_, cap, rfl, fun _ => ⟨b, 0, rfl, by have := hp.2.2.2.1; omega, fun j hj => ?_⟩⟩
    rw [World.cell?_of_block (w := w) (a := ⟨b, 0 + j, none⟩) (hp.2.2.2.2 b hlt (by omega)), Nat.zero_add, h.1.cellAt j (by omega)]
    simp [hj]
/-- the row of v, whatever it holds, can be written -/
def Row (w0 : World) (g n cap : Nat) (w : World) : Prop := ∃ xs, w.ownsRow w0.heap.size 9 1 (.slice (some ⟨g, 0, none⟩) n cap) n xs
theorem row_cell {w0 w : World} {g n cap j : Nat} (h : Row w0 g n cap w) (hj : j < n) : (∃ v, w.cell? ⟨g, j, none⟩ = some v) ∧ w.frozen? ⟨g, j, none⟩ = false := by
  obtain ⟨xs, h⟩ := h
  have h1 := h.cellAt j (by omega)
  have h2 : xs.length = n * 1 := h.1
  exact ⟨⟨xs[j]'(by omega), by rw [h1, List.getElem?_eq_getElem (by omega)]⟩, h.frozenAt j⟩
theorem row_store {w0 w : World} {g n cap : Nat} (h : Row w0 g n cap w) (j : Nat) (v : Value) : Row w0 g n cap (w.setCell ⟨g, j, none⟩ v) := by
  obtain ⟨xs, h⟩ := h
  exact ⟨_, (h.stored j v).1⟩
theorem ownS_shape {w0 w : World} {v : Value} {ss : List (List UInt8)} (h : OwnS w0 v ss w) (hne : ss ≠ []) : ∃ g cap, v = .slice (some ⟨g, 0, none⟩) ss.length cap ∧ w0.heap.size ≤ g ∧ g < w.heap.size ∧ Row w0 g ss.length cap w := by
  obtain ⟨hl, h1 | ⟨g, cap, cur, rfl, hg, hh, hr⟩⟩ := h.1
  · obtain ⟨_, hn⟩ := h1
    exact absurd (List.eq_nil_of_length_eq_zero hn) hne
  · exact ⟨g, cap, rfl, hg, (h.1.lt g rfl).2, _, h.1⟩
namespace tokMemory
set_option maxHeartbeats 2000000 in
theorem walk (s : ByteArray) (w : World) (hs : s.size ≤ 1048576) :
    Calls Tryd.prog 5 #[.string s] w fun e w' => e = .returned (.bool true) ∧ Below w.heap.size w w' := by
  have c1 : Hid (∀ w, _) := fun w => listTok s w (by omega)
  have c2 : Hid (∀ w, _) := fun w => listRef s w (by omega)
  have hl := listOf_small s (by omega)
  generalize listOf s.data.toList = LL at c1 c2 hl
  have hl8 : Hid (LL.length ≤ 8388608) := hl
  go_enter Tryd.func5, Tryd.ntmps5
  go_wp2_with fail
  refine (alive _).mono ?_
  rintro e w1 ⟨rfl, b1⟩
  have B1 : Hid _ := b1
  clear b1
  go_wp2_with fail
  refine (c1.out _).mono ?_
  rintro e w2 ⟨va, rfl, ha⟩
  have Ha : Hid _ := ha
  clear ha
  go_wp2_with fail
  refine (c1.out _).mono ?_
  rintro e w3 ⟨vb, rfl, hb⟩
  have Hb : Hid _ := hb
  clear hb
  go_wp2_with fail
  refine (c2.out _).mono ?_
  rintro e w4 ⟨vc, rfl, hc⟩
  have Hc : Hid _ := hc
  clear hc
  go_wp2_with fail
  refine (sameTexts va vc LL LL _ (holds_mono (holds_mono (holds_own Ha.out) Hb.out.2) Hc.out.2) (holds_own Hc.out) hl hl).mono ?_
  rintro e w5 ⟨rfl, n, h5⟩
  have H5 : Hid (Below w4.heap.size w4 w5) := by rw [h5]; exact below_drewN _ _
  have Z5 : Hid (w5.heap.size = w4.heap.size) := by rw [h5]; exact size_drawn _ _
  clear h5
  go_wp2_with fail
  refine (sameTexts vb vc LL LL _ (holds_mono (holds_mono (holds_own Hb.out) Hc.out.2) H5.out) (holds_mono (holds_own Hc.out) H5.out) hl hl).mono ?_
  rintro e w6 ⟨rfl, m, h6⟩
  have H6 : Hid (Below w4.heap.size w4 w6) := by rw [h6]; exact below_drawn H5.out _
  have Z6 : Hid (w6.heap.size = w4.heap.size) := by rw [h6]; exact (size_drawn _ _).trans Z5.out
  clear h6
  have OA : Hid (OwnS w1 va LL w6) := ownS_mono (ownS_mono (ownS_mono Ha.out Hb.out.2) Hc.out.2) H6.out
  have OB : Hid (OwnS w2 vb LL w6) := ownS_mono (ownS_mono Hb.out Hc.out.2) H6.out
  have OC : Hid (OwnS w3 vc LL w6) := ownS_mono Hc.out H6.out
  have z1 := B1.out.size
  have z2 := Ha.out.2.size
  have z3 := Hb.out.2.size
  have z4 := Hc.out.2.size
  have z6 : w4.heap.size ≤ w6.heap.size := by rw [Z6.out]; exact Nat.le_refl _
  have BW : Hid (Below w.heap.size w w6) := (((B1.out.trans (Ha.out.2.mono z1)).trans (Hb.out.2.mono (by omega))).trans (Hc.out.2.mono (by omega))).trans (H6.out.mono (by omega))
  clear Z5 H5 H6 Z6 Hb Hc
  by_cases hne : LL = []
  · have hv : ∃ ao cap, va = .slice ao 0 cap := by
      obtain ⟨ao, cap, hv, _⟩ := holds_own Ha.out
      exact ⟨ao, cap, by rw [hv, hne]; rfl⟩
    obtain ⟨ao, cap, hv⟩ := hv
    rw [hv]
    have E : Hid (LL = []) := hne
    clear hne hv
    go_wp2_with fail
    refine wp_loop_rounds 1 ?_
    rw [rounds_succ]
    go_wp2_with fail
    refine (sameTexts vb vc LL LL _ (holds_own OB.out) (holds_own OC.out) hl hl).mono ?_
    rintro e w7 ⟨rfl, k, h7⟩
    have H7 : Hid (Below w6.heap.size w6 w7) := by rw [h7]; exact below_drewN _ _
    clear h7
    go_wp2_with fail
    refine (c1.out _).mono ?_
    rintro e w8 ⟨vd, rfl, hd⟩
    have Hd : Hid _ := hd
    clear hd
    go_wp2_with fail
    refine (sameTexts vd vc LL LL _ (holds_own Hd.out) (holds_mono (holds_mono (holds_own OC.out) H7.out) Hd.out.2) hl hl).mono ?_
    rintro e w9 ⟨rfl, k2, rfl⟩
    go_wp2_with fail
    go_ret
    have z7 := H7.out.size
    exact ⟨rfl, below_drawn ((BW.out.trans (H7.out.mono (by omega))).trans (Hd.out.2.mono (by omega))) _⟩
  · obtain ⟨g, cap, hv, hg1, hg2, hrow⟩ := ownS_shape OA.out hne
    have R : Hid (Row w1 g LL.length cap w6) := hrow
    have G2 : Hid (g < w2.heap.size) := by
      obtain ⟨g', cap', hv', _, h2, _⟩ := ownS_shape Ha.out hne
      rw [hv] at hv'
      simp at hv'
      unfold Hid
      omega
    rw [hv]
    clear hv hrow hne
    generalize LL.length = nn at hl R ⊢
    go_wp2_with fail
    go_loopw [6] (fun i wr => ∃ k : Nat, k ≤ nn ∧ i = .int .i64 k ∧ Hid (Row w1 g nn cap wr) ∧ Hid (Part g w6 wr)) (fun i _ => nn - (intOf i).toNat)
    case atStart => exact ⟨0, by omega, rfl, R, part_refl _ _⟩
    case round =>
      clear R
      obtain ⟨k, hk, rfl, R, P⟩ := hrel
      by_cases hlt : k < nn
      · obtain ⟨⟨v0, ck⟩, fk⟩ := row_cell R.out hlt
        go_wp2_with fail
        go_roundw
        case rel => exact ⟨k + 1, by omega, by go_num, row_store R.out k _, part_store P.out k _⟩
        case measure => simp [intOf]; omega
      · have L1 : Hid (Holds wr vb LL) := holds_part OB.out G2.out P.out
        have L2 : Hid (Holds wr vc LL) := holds_part OC.out (by have := G2.out; omega) P.out
        have zp : w6.heap.size ≤ wr.heap.size := P.out.2.2.2.1
        have BP : Hid (Below w.heap.size w wr) := BW.out.trans (part_below P.out w.heap.size (by omega) (by omega))
        go_wp2_with fail
        refine (sameTexts vb vc LL LL _ L1.out L2.out hl8.out hl8.out).mono ?_
        rintro e w7 ⟨rfl, k1, h7⟩
        have H7 : Hid (Below wr.heap.size wr w7) := by rw [h7]; exact below_drewN _ _
        clear h7
        go_wp2_with fail
        refine (c1.out _).mono ?_
        rintro e w8 ⟨vd, rfl, hd⟩
        have Hd : Hid _ := hd
        clear hd
        go_wp2_with fail
        refine (sameTexts vd vc LL LL _ (holds_own Hd.out) (holds_mono (holds_mono L2.out H7.out) Hd.out.2) hl8.out hl8.out).mono ?_
        rintro e w9 ⟨rfl, k2, rfl⟩
        go_wp2_with fail
        go_ret
        have z7 := H7.out.size
        exact ⟨rfl, below_drawn ((BP.out.trans (H7.out.mono (by omega))).trans (Hd.out.2.mono (by omega))) _⟩
end tokMemory
end Go.Proofs.YtegdbieieacalabDoor
