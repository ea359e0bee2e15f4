/- The calls of both disks, side by side, as DiskLefts makes them. -/
import Derived.Test.YtijnjgnckipghaaGreatDsB
import Derived.Test.YtijnjgnckipghaaGreatDrN
namespace Go.Proofs.YtijnjgnckipghaaGreat
open Go.RowKit
def Std (g q : Nat) (vs : List Value) (v : Value) (s : Dk) (w1 W : World) : Prop := ∃ o, Two o g q vs v s s w1 W
section
variable {g q : Nat} {vs : List Value} {v : Value} {s : Dk} {w1 W W' : World}
theorem sd_below (h : Std g q vs v s w1 W) (hb : Below W.heap.size W W') : Std g q vs v s w1 W' := by
  obtain ⟨o, h⟩ := h
  exact ⟨o, two_below h hb⟩
theorem sd_bel (h : Std g q vs v s w1 W) : Below w1.heap.size w1 W := by
  obtain ⟨o, h⟩ := h
  exact h.liv.bel
theorem sd_bd (h : Std g q vs v s w1 W) (hB : Bd 3000000 s) (k : Int) (keep : List Int) : (s.left k keep).length ≤ 6000000 ∧ ∀ f ∈ s.left k keep, f.1.length ≤ 64 ∧ f.2.length ≤ 3000000 := by
  obtain ⟨o, h⟩ := h
  exact left_bd h.liv.dsk hB k keep
theorem sd_copy (h : Std g q vs v s w1 W) (k : Int) (kv : Value) (keep : List Int) (hk : HoldsI W kv keep) (hl : keep.length ≤ 1000000000) :
    Calls Tryz.prog 38 #[.agg #[.int .i64 k, kv]] W fun e w' => ∃ u, e = .returned (.agg #[.int .i64 k, u]) ∧ HoldsI w' u keep ∧ Std g q vs v s w1 w' := by
  refine (copyFateC k kv keep W hk hl).mono ?_
  rintro e w' ⟨u, rfl, hu, hb⟩
  exact ⟨u, rfl, hu, sd_below h hb⟩
theorem sd_left (h : Std g q vs v s w1 W) (k : Int) (kv : Value) (keep : List Int) (hk : HoldsI W kv keep) (hkr : -9223372036854775808 ≤ k ∧ k ≤ 9223372036854775807) (hkb : ∀ z ∈ keep, -9223372036854775808 ≤ z ∧ z ≤ 9223372036854775807) (hB : Bd 3000000 s) :
    Calls Tryz.prog 37 #[.pointer (some ⟨g, 0, none⟩), .agg #[.int .i64 k, kv]] W fun e w' => ∃ u, e = .returned u ∧ HoldsFi w' u (s.left k keep) ∧ Std g q vs v s w1 w' := by
  have h0 := h
  obtain ⟨o, h⟩ := h
  refine (leftC h.liv.dsk k kv keep hk hkr hkb (bd_mono hB (by omega))).mono ?_
  rintro e w' ⟨u, rfl, hu, hb⟩
  exact ⟨u, rfl, holdsFi_sub (mask_sub _ _) hu, sd_below h0 hb⟩
theorem sd_leftR (h : Std g q vs v s w1 W) (k : Int) (kv : Value) (keep : List Int) (hk : HoldsI W kv keep) (hkl : keep.length ≤ 1000000000) (hkb : ∀ z ∈ keep, -9223372036854775808 ≤ z ∧ z ≤ 9223372036854775807) (hB : Bd 3000000 s) :
    Calls Tryz.prog 39 #[v, .agg #[.int .i64 k, kv]] W fun e w' => ∃ u, e = .returned u ∧ (HoldsFi w' u (s.left k keep) ∧ Below W.heap.size W w') ∧ Std g q vs v s w1 w' := by
  have h0 := h
  obtain ⟨o, h⟩ := h
  have hl := (left_bd h.liv.dsk hB k keep).1
  unfold Dk.left at hl
  rw [List.length_map] at hl
  refine (leftRC (two_refS h) (dsk_wf h.liv.dsk).1 (bd_mono hB (by omega)) k kv keep hk hkl hkb (by omega)).mono ?_
  rintro e w' ⟨u, rfl, hu, hb⟩
  exact ⟨u, rfl, ⟨hu, hb⟩, sd_below h0 hb⟩
theorem sd_sameF (h : Std g q vs v s w1 W) (hB : Bd 3000000 s) (k : Int) (keep : List Int) (a b : Value) (ha : HoldsFi W a (s.left k keep)) (hb : HoldsFi W b (s.left k keep)) :
    Calls Tryz.prog 36 #[a, b] W fun e w' => e = .returned (.bool true) ∧ Std g q vs v s w1 w' := by
  have hl := sd_bd h hB k keep
  refine (sameFi a b _ W ha hb (by omega) (fun f hf => by have := (hl.2 f hf).2; omega)).mono ?_
  rintro e w' ⟨rfl, hb⟩
  exact ⟨rfl, sd_below h hb⟩
theorem sd_list (h : Std g q vs v s w1 W) (hB : Bd 3000000 s) : Calls Tryz.prog 35 #[.pointer (some ⟨g, 0, none⟩)] W fun e w' => ∃ u, e = .returned u ∧ Holds w' u s.list ∧ Std g q vs v s w1 w' := by
  have h0 := h
  obtain ⟨o, h⟩ := h
  refine (listC h.liv.dsk (bd_mono hB (by omega))).mono ?_
  rintro e w' ⟨u, rfl, ho⟩
  exact ⟨u, rfl, holds_own ho, sd_below h0 ho.2⟩
theorem sd_listR (h : Std g q vs v s w1 W) (hB : Bd 3000000 s) : Calls Tryz.prog 28 #[v] W fun e w' => ∃ u, e = .returned u ∧ (Holds w' u s.list ∧ Below W.heap.size W w') ∧ Std g q vs v s w1 w' := by
  have h0 := h
  obtain ⟨o, h⟩ := h
  refine (listRC (two_refS h) (by have := hB.2.2.1; omega)).mono ?_
  rintro e w' ⟨u, rfl, hu, hb⟩
  exact ⟨u, rfl, ⟨hu, hb⟩, sd_below h0 hb⟩
theorem sd_sameT (h : Std g q vs v s w1 W) (hB : Bd 3000000 s) (a b : Value) (ha : Holds W a s.list) (hb : Holds W b s.list) : Calls Tryz.prog 34 #[a, b] W fun e w' => e = .returned (.bool true) ∧ Std g q vs v s w1 w' := by
  refine (sameTe a b s.list W ha hb (by have := list_lenB hB; omega)).mono ?_
  rintro e w' ⟨rfl, hb⟩
  exact ⟨rfl, sd_below h hb⟩
end
theorem sd_cells {g q : Nat} {v0 v1 v2 v3 v4 v5 v6 v7 v8 v : Value} {s : Dk} {w1 W : World} (h : Std g q [v0, v1, v2, v3, v4, v5, v6, v7, v8] v s w1 W) :
    W.cell? ⟨q, 0, none⟩ = some v0 ∧ W.cell? ⟨q, 1, none⟩ = some v1 ∧ W.cell? ⟨q, 2, none⟩ = some v2 ∧ W.cell? ⟨q, 3, none⟩ = some v3 ∧ W.cell? ⟨q, 4, none⟩ = some v4 ∧ W.cell? ⟨q, 5, none⟩ = some v5 ∧ W.cell? ⟨q, 6, none⟩ = some v6 ∧ W.cell? ⟨q, 7, none⟩ = some v7 ∧ W.cell? ⟨q, 8, none⟩ = some v8 := by
  obtain ⟨o, h⟩ := h
  exact cells_9 h.kp.blk
end Go.Proofs.YtijnjgnckipghaaGreat
