/- The contract of the document's Left. The calls of both disks, side by side, as DiskLefts makes them. The law's 'same': both disks tell the same. A list of records that came in: what the reading says of it. A list of steps (a record and a list of records each) that came in: what the reading says of it. The contracts of begin and cut, as SwaplogSteps calls them. The contract of alive. Plain: a life of a log: begun, records added, the power lost, read again. Plain: Open of a new disk, Add, what is left, Open of what is left. A log and a list of records beside it; one record appended, and where the row lies then. Plain: the program's Open does what the document's does. Plain: what the log's steps keep of a disk, and how much it grows. A log and the document's log, side by side: what SwaplogSteps' loop keeps. Open, sameRecords and a script's step, as SwaplogSteps' walk calls them. SwaplogSteps' walk. A disk's beginning, a script of steps and a fate that came in: what the reading says of them. A disk's beginning that came in, as conduitlaw11 has it: what the reading says of it. -/
import Derived.Test.YtijnjgnckipghaaGreatBdL
import Derived.Test.YtijnjgnckipghaaGreatDrMb
import Derived.Test.YtijnjgnckipghaaGreatBz1
import Derived.Deep.RegionHeld3
import Derived.Test.YtijnjgnckipghaaGreatBw11
import Derived.Test.YtijnjgnckipghaaGreatRcO
import Derived.Deep.Slices
import Derived.Lib.SmallJoins
import Derived.Test.YtijnjgnckipghaaGreatBdE
import Derived.Test.YtijnjgnckipghaaGreatBdB
import Derived.Deep.DeepCutAuto
import Derived.Test.YtijnjgnckipghaaGreatBw16
import Derived.Test.YtijnjgnckipghaaGreatSwRd
import Derived.Test.YtijnjgnckipghaaGreatBw17
import Derived.Test.YtijnjgnckipghaaGreatDrT
import Derived.Test.YtijnjgnckipghaaGreatBdI
namespace Go.Proofs.YtijnjgnckipghaaGreat
open Go.RowKit
theorem leftRC {w : World} {v : Value} {s : Dk} (h : RefS w v s) (hw : Wf s) (hB : Bd 80000000 s) (k : Int) (kv : Value) (keep : List Int) (hk : HoldsI w kv keep) (hkl : keep.length ≤ 1000000000) (hkb : ∀ z ∈ keep, -9223372036854775808 ≤ z ∧ z ≤ 9223372036854775807) (hll : (leftNames s k).length ≤ 200000000) :
    Calls Tryz.prog 39 #[v, .agg #[.int .i64 k, kv]] w fun e w' => ∃ u, e = .returned u ∧ HoldsFi w' u (s.left k keep) ∧ Below w.heap.size w w' := by
  obtain ⟨x0, x1, x2, x3, x4, x6, rfl, h⟩ := h
  have hn2 : x2.n ≤ 80000000 := by
    obtain ⟨ao, c, e⟩ := heldL_slice h.pend
    have e2 : x2.n = s.pend.length := by simp only [Sl.v, Value.slice.injEq] at e; exact e.2.1
    have := hB.2.2.2.2.1
    omega
  rcases pick_names h.safe h.pend k hn2 with hp | hp
  · exact leftRa h hw hB k kv keep hk hkl hkb hll hp
  · exact leftRb h hw hB k kv keep hk hkl hkb hll hp
end Go.Proofs.YtijnjgnckipghaaGreat
namespace Go.Proofs.YtijnjgnckipghaaGreat
open Go.RowKit
def Std (g q : Nat) (vs : List Value) (v : Value) (s : Dk) (w1 W : World) : Prop := ∃ o, Two o g q vs v s s w1 W
section
variable {g q : Nat} {vs : List Value} {v : Value} {s : Dk} {w1 W W' : World}
theorem sd_below (h : Std g q vs v s w1 W) (hb : Below W.heap.size W W') : Std g q vs v s w1 W' := by
  obtain ⟨o, h⟩ := h
  exact ⟨o, two_below h hb⟩
theorem sd_bel (h : Std g q vs v s w1 W) : Below w1.heap.size w1 W := by
  obtain ⟨o, h⟩ := h
  exact h.liv.bel
theorem sd_bd (h : Std g q vs v s w1 W) (hB : Bd 3000000 s) (k : Int) (keep : List Int) : (s.left k keep).length ≤ 6000000 ∧ ∀ f ∈ s.left k keep, f.1.length ≤ 64 ∧ f.2.length ≤ 3000000 := by
  obtain ⟨o, h⟩ := h
  exact left_bd h.liv.dsk hB k keep
theorem sd_copy (h : Std g q vs v s w1 W) (k : Int) (kv : Value) (keep : List Int) (hk : HoldsI W kv keep) (hl : keep.length ≤ 1000000000) :
    Calls Tryz.prog 38 #[.agg #[.int .i64 k, kv]] W fun e w' => ∃ u, e = .returned (.agg #[.int .i64 k, u]) ∧ HoldsI w' u keep ∧ Std g q vs v s w1 w' := by
  refine (copyFateC k kv keep W hk hl).mono ?_
  rintro e w' ⟨u, rfl, hu, hb⟩
  exact ⟨u, rfl, hu, sd_below h hb⟩
theorem sd_left (h : Std g q vs v s w1 W) (k : Int) (kv : Value) (keep : List Int) (hk : HoldsI W kv keep) (hkr : -9223372036854775808 ≤ k ∧ k ≤ 9223372036854775807) (hkb : ∀ z ∈ keep, -9223372036854775808 ≤ z ∧ z ≤ 9223372036854775807) (hB : Bd 3000000 s) :
    Calls Tryz.prog 37 #[.pointer (some ⟨g, 0, none⟩), .agg #[.int .i64 k, kv]] W fun e w' => ∃ u, e = .returned u ∧ HoldsFi w' u (s.left k keep) ∧ Std g q vs v s w1 w' := by
  have h0 := h
  obtain ⟨o, h⟩ := h
  refine (leftC h.liv.dsk k kv keep hk hkr hkb (bd_mono hB (by omega))).mono ?_
  rintro e w' ⟨u, rfl, hu, hb⟩
  exact ⟨u, rfl, holdsFi_sub (mask_sub _ _) hu, sd_below h0 hb⟩
theorem sd_leftR (h : Std g q vs v s w1 W) (k : Int) (kv : Value) (keep : List Int) (hk : HoldsI W kv keep) (hkl : keep.length ≤ 1000000000) (hkb : ∀ z ∈ keep, -9223372036854775808 ≤ z ∧ z ≤ 9223372036854775807) (hB : Bd 3000000 s) :
    Calls Tryz.prog 39 #[v, .agg #[.int .i64 k, kv]] W fun e w' => ∃ u, e = .returned u ∧ (HoldsFi w' u (s.left k keep) ∧ Below W.heap.size W w') ∧ Std g q vs v s w1 w' := by
  have h0 := h
  obtain ⟨o, h⟩ := h
  have hl := (left_bd h.liv.dsk hB k keep).1
  unfold Dk.left at hl
  rw [List.length_map] at hl
  refine (leftRC (two_refS h) (dsk_wf h.liv.dsk).1 (bd_mono hB (by omega)) k kv keep hk hkl hkb (by omega)).mono ?_
  rintro e w' ⟨u, rfl, hu, hb⟩
  exact ⟨u, rfl, ⟨hu, hb⟩, sd_below h0 hb⟩
theorem sd_sameF (h : Std g q vs v s w1 W) (hB : Bd 3000000 s) (k : Int) (keep : List Int) (a b : Value) (ha : HoldsFi W a (s.left k keep)) (hb : HoldsFi W b (s.left k keep)) :
    Calls Tryz.prog 36 #[a, b] W fun e w' => e = .returned (.bool true) ∧ Std g q vs v s w1 w' := by
  have hl := sd_bd h hB k keep
  refine (sameFi a b _ W ha hb (by omega) (fun f hf => by have := (hl.2 f hf).2; omega)).mono ?_
  rintro e w' ⟨rfl, hb⟩
  exact ⟨rfl, sd_below h hb⟩
theorem sd_list (h : Std g q vs v s w1 W) (hB : Bd 3000000 s) : Calls Tryz.prog 35 #[.pointer (some ⟨g, 0, none⟩)] W fun e w' => ∃ u, e = .returned u ∧ Holds w' u s.list ∧ Std g q vs v s w1 w' := by
  have h0 := h
  obtain ⟨o, h⟩ := h
  refine (listC h.liv.dsk (bd_mono hB (by omega))).mono ?_
  rintro e w' ⟨u, rfl, ho⟩
  exact ⟨u, rfl, holds_own ho, sd_below h0 ho.2⟩
theorem sd_listR (h : Std g q vs v s w1 W) (hB : Bd 3000000 s) : Calls Tryz.prog 28 #[v] W fun e w' => ∃ u, e = .returned u ∧ (Holds w' u s.list ∧ Below W.heap.size W w') ∧ Std g q vs v s w1 w' := by
  have h0 := h
  obtain ⟨o, h⟩ := h
  refine (listRC (two_refS h) (by have := hB.2.2.1; omega)).mono ?_
  rintro e w' ⟨u, rfl, hu, hb⟩
  exact ⟨u, rfl, ⟨hu, hb⟩, sd_below h0 hb⟩
theorem sd_sameT (h : Std g q vs v s w1 W) (hB : Bd 3000000 s) (a b : Value) (ha : Holds W a s.list) (hb : Holds W b s.list) : Calls Tryz.prog 34 #[a, b] W fun e w' => e = .returned (.bool true) ∧ Std g q vs v s w1 w' := by
  refine (sameTe a b s.list W ha hb (by have := list_lenB hB; omega)).mono ?_
  rintro e w' ⟨rfl, hb⟩
  exact ⟨rfl, sd_below h hb⟩
end
theorem sd_cells {g q : Nat} {v0 v1 v2 v3 v4 v5 v6 v7 v8 v : Value} {s : Dk} {w1 W : World} (h : Std g q [v0, v1, v2, v3, v4, v5, v6, v7, v8] v s w1 W) :
    W.cell? ⟨q, 0, none⟩ = some v0 ∧ W.cell? ⟨q, 1, none⟩ = some v1 ∧ W.cell? ⟨q, 2, none⟩ = some v2 ∧ W.cell? ⟨q, 3, none⟩ = some v3 ∧ W.cell? ⟨q, 4, none⟩ = some v4 ∧ W.cell? ⟨q, 5, none⟩ = some v5 ∧ W.cell? ⟨q, 6, none⟩ = some v6 ∧ W.cell? ⟨q, 7, none⟩ = some v7 ∧ W.cell? ⟨q, 8, none⟩ = some v8 := by
  obtain ⟨o, h⟩ := h
  exact cells_9 h.kp.blk
end Go.Proofs.YtijnjgnckipghaaGreat
namespace Go.Proofs.YtijnjgnckipghaaGreat
open Go.RowKit
theorem used_bdX {s : Dk} (h : Bd 10000000 s) : s.used ≤ 1000000000000000000 := by
  have h1 := h.2.2.1
  have h2 := h.2.2.2.2.2
  have key : ∀ l : NL, (l.map (fun p => (s.data.getD p.2 []).length)).sum ≤ l.length * 10000000 := by
    intro l
    induction l with
    | nil => simp
    | cons x r ih => simp only [List.map_cons, List.sum_cons, List.length_cons]; have := h2 x.2; omega
  have := key s.now
  unfold Dk.used
  omega
set_option maxRecDepth 20000 in
set_option maxHeartbeats 16000000 in
theorem sameLC {o : Ow} {g : Nat} {s : Dk} {W : World} {a0 a1 a2 a3 a4 a6 : Option Addr} {n0 c0 n1 c1 n2 c2 n3 c3 n4 c4 n6 c6 : Nat} (hD : Dsk o g s W) (hR : RefS W (.agg #[.slice a0 n0 c0, .slice a1 n1 c1, .slice a2 n2 c2, .slice a3 n3 c3, .slice a4 n4 c4, .int .i64 s.room, .slice a6 n6 c6, .int .i64 s.power, .int .i64 (s.n : Int)]) s) (hB : Bd 10000000 s) (k1 : Int) (ka : Option Addr) (nk kc : Nat) (keep1 : List Int) (hk : HoldsI W (.slice ka nk kc) keep1) (hl : keep1.length ≤ 1048576) (r1 : -9223372036854775808 ≤ k1 ∧ k1 ≤ 9223372036854775807) (kb1 : ∀ z ∈ keep1, -9223372036854775808 ≤ z ∧ z ≤ 9223372036854775807) :
    Calls Tryz.prog 10 #[.pointer (some ⟨g, 0, none⟩), .agg #[.slice a0 n0 c0, .slice a1 n1 c1, .slice a2 n2 c2, .slice a3 n3 c3, .slice a4 n4 c4, .int .i64 s.room, .slice a6 n6 c6, .int .i64 s.power, .int .i64 (s.n : Int)], .agg #[.int .i64 k1, .slice ka nk kc]] W fun e w' => e = .returned (.bool true) ∧ Below W.heap.size W w' := by
  have b1 := below_alloc' W (.cells #[.slice a0 n0 c0, .slice a1 n1 c1, .slice a2 n2 c2, .slice a3 n3 c3, .slice a4 n4 c4, .int .i64 s.room, .slice a6 n6 c6, .int .i64 s.power, .int .i64 (s.n : Int)] 38)
  have b2 := below_alloc' (W.alloc (.cells #[.slice a0 n0 c0, .slice a1 n1 c1, .slice a2 n2 c2, .slice a3 n3 c3, .slice a4 n4 c4, .int .i64 s.room, .slice a6 n6 c6, .int .i64 s.power, .int .i64 (s.n : Int)] 38)) (.cells #[.int .i64 k1, .slice ka nk kc] 28)
  have z1 : (W.alloc (.cells #[.slice a0 n0 c0, .slice a1 n1 c1, .slice a2 n2 c2, .slice a3 n3 c3, .slice a4 n4 c4, .int .i64 s.room, .slice a6 n6 c6, .int .i64 s.power, .int .i64 (s.n : Int)] 38)).heap.size = W.heap.size + 1 := by simp
  have B0 : Hid (Below W.heap.size W ((W.alloc (.cells #[.slice a0 n0 c0, .slice a1 n1 c1, .slice a2 n2 c2, .slice a3 n3 c3, .slice a4 n4 c4, .int .i64 s.room, .slice a6 n6 c6, .int .i64 s.power, .int .i64 (s.n : Int)] 38)).alloc (.cells #[.int .i64 k1, .slice ka nk kc] 28))) := b1.trans (b2.mono b1.size)
  have Q0 : Hid (Blk W.heap.size ((W.alloc (.cells #[.slice a0 n0 c0, .slice a1 n1 c1, .slice a2 n2 c2, .slice a3 n3 c3, .slice a4 n4 c4, .int .i64 s.room, .slice a6 n6 c6, .int .i64 s.power, .int .i64 (s.n : Int)] 38)).alloc (.cells #[.int .i64 k1, .slice ka nk kc] 28)) [.slice a0 n0 c0, .slice a1 n1 c1, .slice a2 n2 c2, .slice a3 n3 c3, .slice a4 n4 c4, .int .i64 s.room, .slice a6 n6 c6, .int .i64 s.power, .int .i64 (s.n : Int)]) := cells_below (by simpa using cells_lit W #[.slice a0 n0 c0, .slice a1 n1 c1, .slice a2 n2 c2, .slice a3 n3 c3, .slice a4 n4 c4, .int .i64 s.room, .slice a6 n6 c6, .int .i64 s.power, .int .i64 (s.n : Int)] 38) b2
  have F0 : Hid (Blk (W.heap.size + 1) ((W.alloc (.cells #[.slice a0 n0 c0, .slice a1 n1 c1, .slice a2 n2 c2, .slice a3 n3 c3, .slice a4 n4 c4, .int .i64 s.room, .slice a6 n6 c6, .int .i64 s.power, .int .i64 (s.n : Int)] 38)).alloc (.cells #[.int .i64 k1, .slice ka nk kc] 28)) [.int .i64 k1, .slice ka nk kc]) := by
    have := cells_lit (W.alloc (.cells #[.slice a0 n0 c0, .slice a1 n1 c1, .slice a2 n2 c2, .slice a3 n3 c3, .slice a4 n4 c4, .int .i64 s.room, .slice a6 n6 c6, .int .i64 s.power, .int .i64 (s.n : Int)] 38)) #[.int .i64 k1, .slice ka nk kc] 28
    rw [z1] at this
    exact this
  have WF := hide' (dsk_wf hD).1
  have HD := hide' hD
  have HR := hide' hR
  have HB := hide' hB
  have HK := hide' hk
  have HL := hide' hl
  have R1 := hide' r1
  have KB1 := hide' kb1
  clear b1 b2 z1 hD hR hB hk hl r1 kb1
  go_enter Tryz.func10, Tryz.ntmps10
  go_wp2_with fail
  generalize ((W.alloc (.cells #[.slice a0 n0 c0, .slice a1 n1 c1, .slice a2 n2 c2, .slice a3 n3 c3, .slice a4 n4 c4, .int .i64 s.room, .slice a6 n6 c6, .int .i64 s.power, .int .i64 (s.n : Int)] 38)).alloc (.cells #[.int .i64 k1, .slice ka nk kc] 28)) = w2 at B0 Q0 F0 ⊢
  obtain ⟨qb, hqb⟩ : ∃ q, q = W.heap.size := ⟨_, rfl⟩
  obtain ⟨fb, hfb⟩ : ∃ q, q = W.heap.size + 1 := ⟨_, rfl⟩
  rw [← hqb] at Q0
  rw [← hfb] at F0
  rw [← hfb, ← hqb]
  clear hqb hfb
  have CEL : Hid (∀ Wx, Below w2.heap.size w2 Wx → (Wx.cell? ⟨qb, 0, none⟩ = some (.slice a0 n0 c0) ∧ Wx.cell? ⟨qb, 1, none⟩ = some (.slice a1 n1 c1) ∧ Wx.cell? ⟨qb, 2, none⟩ = some (.slice a2 n2 c2) ∧ Wx.cell? ⟨qb, 3, none⟩ = some (.slice a3 n3 c3) ∧ Wx.cell? ⟨qb, 4, none⟩ = some (.slice a4 n4 c4) ∧ Wx.cell? ⟨qb, 5, none⟩ = some (.int .i64 s.room) ∧ Wx.cell? ⟨qb, 6, none⟩ = some (.slice a6 n6 c6) ∧ Wx.cell? ⟨qb, 7, none⟩ = some (.int .i64 s.power) ∧ Wx.cell? ⟨qb, 8, none⟩ = some (.int .i64 (s.n : Int))) ∧ (Wx.cell? ⟨fb, 0, none⟩ = some (.int .i64 k1) ∧ Wx.cell? ⟨fb, 1, none⟩ = some (.slice ka nk kc))) := fun Wx h => ⟨cells_9 (cells_below Q0.out h), (cells_2 (cells_below F0.out h)).1⟩
  have DX : Hid (∀ Wx, Below w2.heap.size w2 Wx → Dsk o g s Wx) := fun Wx h => dsk_below HD.out (B0.out.trans (h.mono B0.out.size))
  have RX : Hid (∀ Wx, Below w2.heap.size w2 Wx → RefS Wx (.agg #[.slice a0 n0 c0, .slice a1 n1 c1, .slice a2 n2 c2, .slice a3 n3 c3, .slice a4 n4 c4, .int .i64 s.room, .slice a6 n6 c6, .int .i64 s.power, .int .i64 (s.n : Int)]) s) := fun Wx h => refS_sub HR.out (sub_below (B0.out.trans (h.mono B0.out.size)))
  have KX : Hid (∀ Wx, Below w2.heap.size w2 Wx → HoldsI Wx (.slice ka nk kc) keep1) := fun Wx h => holdsI_mono HK.out (B0.out.trans (h.mono B0.out.size))
  have LB : Hid (∀ k keep, (s.left k keep).length ≤ 20000000 ∧ ∀ f ∈ s.left k keep, f.1.length ≤ 64 ∧ f.2.length ≤ 10000000) := fun k keep => left_bd HD.out HB.out k keep
  have C1 : Hid (∀ Wx, Hid (Below w2.heap.size w2 Wx) → Calls Tryz.prog 19 #[.pointer (some ⟨g, 0, none⟩)] Wx fun e w' => e = .returned (.int .i64 (s.n : Int)) ∧ Hid (Below w2.heap.size w2 w') ∧ (w'.cell? ⟨qb, 0, none⟩ = some (.slice a0 n0 c0) ∧ w'.cell? ⟨qb, 1, none⟩ = some (.slice a1 n1 c1) ∧ w'.cell? ⟨qb, 2, none⟩ = some (.slice a2 n2 c2) ∧ w'.cell? ⟨qb, 3, none⟩ = some (.slice a3 n3 c3) ∧ w'.cell? ⟨qb, 4, none⟩ = some (.slice a4 n4 c4) ∧ w'.cell? ⟨qb, 5, none⟩ = some (.int .i64 s.room) ∧ w'.cell? ⟨qb, 6, none⟩ = some (.slice a6 n6 c6) ∧ w'.cell? ⟨qb, 7, none⟩ = some (.int .i64 s.power) ∧ w'.cell? ⟨qb, 8, none⟩ = some (.int .i64 (s.n : Int))) ∧ (w'.cell? ⟨fb, 0, none⟩ = some (.int .i64 k1) ∧ w'.cell? ⟨fb, 1, none⟩ = some (.slice ka nk kc))) := fun Wx hb => by
    refine (stepsC (DX.out Wx hb.out)).mono ?_
    rintro e w' ⟨rfl, rfl⟩
    have hb2 := hb.out.trans ((Below.refl w'.heap.size w').mono hb.out.size)
    exact ⟨rfl, hb2, CEL.out _ hb2⟩
  have C4 : Hid (∀ Wx, Hid (Below w2.heap.size w2 Wx) → Calls Tryz.prog 20 #[.pointer (some ⟨g, 0, none⟩)] Wx fun e w' => e = .returned (.int .i64 (s.used : Int)) ∧ Hid (Below w2.heap.size w2 w') ∧ (w'.cell? ⟨qb, 0, none⟩ = some (.slice a0 n0 c0) ∧ w'.cell? ⟨qb, 1, none⟩ = some (.slice a1 n1 c1) ∧ w'.cell? ⟨qb, 2, none⟩ = some (.slice a2 n2 c2) ∧ w'.cell? ⟨qb, 3, none⟩ = some (.slice a3 n3 c3) ∧ w'.cell? ⟨qb, 4, none⟩ = some (.slice a4 n4 c4) ∧ w'.cell? ⟨qb, 5, none⟩ = some (.int .i64 s.room) ∧ w'.cell? ⟨qb, 6, none⟩ = some (.slice a6 n6 c6) ∧ w'.cell? ⟨qb, 7, none⟩ = some (.int .i64 s.power) ∧ w'.cell? ⟨qb, 8, none⟩ = some (.int .i64 (s.n : Int))) ∧ (w'.cell? ⟨fb, 0, none⟩ = some (.int .i64 k1) ∧ w'.cell? ⟨fb, 1, none⟩ = some (.slice ka nk kc))) := fun Wx hb => by
    refine (usedC (DX.out Wx hb.out) (bd_mono HB.out (by omega))).mono ?_
    rintro e w' ⟨rfl, hb'⟩
    have hb2 := hb.out.trans (hb'.mono hb.out.size)
    exact ⟨rfl, hb2, CEL.out _ hb2⟩
  have C5 : Hid (∀ Wx, Hid (Below w2.heap.size w2 Wx) → Calls Tryz.prog 33 #[.agg #[.slice a0 n0 c0, .slice a1 n1 c1, .slice a2 n2 c2, .slice a3 n3 c3, .slice a4 n4 c4, .int .i64 s.room, .slice a6 n6 c6, .int .i64 s.power, .int .i64 (s.n : Int)]] Wx fun e w' => e = .returned (.int .i64 (s.used : Int)) ∧ Hid (Below w2.heap.size w2 w') ∧ (w'.cell? ⟨qb, 0, none⟩ = some (.slice a0 n0 c0) ∧ w'.cell? ⟨qb, 1, none⟩ = some (.slice a1 n1 c1) ∧ w'.cell? ⟨qb, 2, none⟩ = some (.slice a2 n2 c2) ∧ w'.cell? ⟨qb, 3, none⟩ = some (.slice a3 n3 c3) ∧ w'.cell? ⟨qb, 4, none⟩ = some (.slice a4 n4 c4) ∧ w'.cell? ⟨qb, 5, none⟩ = some (.int .i64 s.room) ∧ w'.cell? ⟨qb, 6, none⟩ = some (.slice a6 n6 c6) ∧ w'.cell? ⟨qb, 7, none⟩ = some (.int .i64 s.power) ∧ w'.cell? ⟨qb, 8, none⟩ = some (.int .i64 (s.n : Int))) ∧ (w'.cell? ⟨fb, 0, none⟩ = some (.int .i64 k1) ∧ w'.cell? ⟨fb, 1, none⟩ = some (.slice ka nk kc))) := fun Wx hb => by
    refine (usedRC (RX.out Wx hb.out) WF.out (by have := HB.out.2.2.1; omega) (used_bdX HB.out)).mono ?_
    rintro e w' ⟨rfl, hb'⟩
    have hb2 := hb.out.trans (hb'.mono hb.out.size)
    exact ⟨rfl, hb2, CEL.out _ hb2⟩
  have C6 : Hid (∀ Wx, Hid (Below w2.heap.size w2 Wx) → Calls Tryz.prog 35 #[.pointer (some ⟨g, 0, none⟩)] Wx fun e w' => ∃ u, e = .returned (u) ∧ Hid (Holds w' u s.list) ∧ Hid (Below w2.heap.size w2 w') ∧ (w'.cell? ⟨qb, 0, none⟩ = some (.slice a0 n0 c0) ∧ w'.cell? ⟨qb, 1, none⟩ = some (.slice a1 n1 c1) ∧ w'.cell? ⟨qb, 2, none⟩ = some (.slice a2 n2 c2) ∧ w'.cell? ⟨qb, 3, none⟩ = some (.slice a3 n3 c3) ∧ w'.cell? ⟨qb, 4, none⟩ = some (.slice a4 n4 c4) ∧ w'.cell? ⟨qb, 5, none⟩ = some (.int .i64 s.room) ∧ w'.cell? ⟨qb, 6, none⟩ = some (.slice a6 n6 c6) ∧ w'.cell? ⟨qb, 7, none⟩ = some (.int .i64 s.power) ∧ w'.cell? ⟨qb, 8, none⟩ = some (.int .i64 (s.n : Int))) ∧ (w'.cell? ⟨fb, 0, none⟩ = some (.int .i64 k1) ∧ w'.cell? ⟨fb, 1, none⟩ = some (.slice ka nk kc))) := fun Wx hb => by
    refine (listC (DX.out Wx hb.out) (bd_mono HB.out (by omega))).mono ?_
    rintro e w' ⟨u, rfl, ho⟩
    have hb2 := hb.out.trans (ho.2.mono hb.out.size)
    exact ⟨u, rfl, holds_own ho, hb2, CEL.out _ hb2⟩
  have C7 : Hid (∀ Wx, Hid (Below w2.heap.size w2 Wx) → Calls Tryz.prog 28 #[.agg #[.slice a0 n0 c0, .slice a1 n1 c1, .slice a2 n2 c2, .slice a3 n3 c3, .slice a4 n4 c4, .int .i64 s.room, .slice a6 n6 c6, .int .i64 s.power, .int .i64 (s.n : Int)]] Wx fun e w' => ∃ u, e = .returned (u) ∧ Hid (Holds w' u s.list ∧ Below Wx.heap.size Wx w') ∧ Hid (Below w2.heap.size w2 w') ∧ (w'.cell? ⟨qb, 0, none⟩ = some (.slice a0 n0 c0) ∧ w'.cell? ⟨qb, 1, none⟩ = some (.slice a1 n1 c1) ∧ w'.cell? ⟨qb, 2, none⟩ = some (.slice a2 n2 c2) ∧ w'.cell? ⟨qb, 3, none⟩ = some (.slice a3 n3 c3) ∧ w'.cell? ⟨qb, 4, none⟩ = some (.slice a4 n4 c4) ∧ w'.cell? ⟨qb, 5, none⟩ = some (.int .i64 s.room) ∧ w'.cell? ⟨qb, 6, none⟩ = some (.slice a6 n6 c6) ∧ w'.cell? ⟨qb, 7, none⟩ = some (.int .i64 s.power) ∧ w'.cell? ⟨qb, 8, none⟩ = some (.int .i64 (s.n : Int))) ∧ (w'.cell? ⟨fb, 0, none⟩ = some (.int .i64 k1) ∧ w'.cell? ⟨fb, 1, none⟩ = some (.slice ka nk kc))) := fun Wx hb => by
    refine (listRC (RX.out Wx hb.out) (by have := HB.out.2.2.1; omega)).mono ?_
    rintro e w' ⟨u, rfl, hu, hb'⟩
    have hb2 := hb.out.trans (hb'.mono hb.out.size)
    exact ⟨u, rfl, ⟨hu, hb'⟩, hb2, CEL.out _ hb2⟩
  have CE : Hid (∀ Wx ua ub, Hid (Below w2.heap.size w2 Wx) → Holds Wx ua s.list → Holds Wx ub s.list → Calls Tryz.prog 34 #[ua, ub] Wx fun e w' => e = .returned (.bool true) ∧ Hid (Below w2.heap.size w2 w') ∧ (w'.cell? ⟨qb, 0, none⟩ = some (.slice a0 n0 c0) ∧ w'.cell? ⟨qb, 1, none⟩ = some (.slice a1 n1 c1) ∧ w'.cell? ⟨qb, 2, none⟩ = some (.slice a2 n2 c2) ∧ w'.cell? ⟨qb, 3, none⟩ = some (.slice a3 n3 c3) ∧ w'.cell? ⟨qb, 4, none⟩ = some (.slice a4 n4 c4) ∧ w'.cell? ⟨qb, 5, none⟩ = some (.int .i64 s.room) ∧ w'.cell? ⟨qb, 6, none⟩ = some (.slice a6 n6 c6) ∧ w'.cell? ⟨qb, 7, none⟩ = some (.int .i64 s.power) ∧ w'.cell? ⟨qb, 8, none⟩ = some (.int .i64 (s.n : Int))) ∧ (w'.cell? ⟨fb, 0, none⟩ = some (.int .i64 k1) ∧ w'.cell? ⟨fb, 1, none⟩ = some (.slice ka nk kc))) := fun Wx ua ub hb ha hbb => by
    refine (sameTe ua ub s.list Wx ha hbb (by have := list_lenB HB.out; omega)).mono ?_
    rintro e w' ⟨rfl, hb'⟩
    have hb2 := hb.out.trans (hb'.mono hb.out.size)
    exact ⟨rfl, hb2, CEL.out _ hb2⟩
  have CF : Hid (∀ Wx, Hid (Below w2.heap.size w2 Wx) → Calls Tryz.prog 38 #[.agg #[.int .i64 k1, .slice ka nk kc]] Wx fun e w' => ∃ u, e = .returned (.agg #[.int .i64 k1, u]) ∧ Hid (HoldsI w' u keep1) ∧ Hid (Below w2.heap.size w2 w') ∧ (w'.cell? ⟨qb, 0, none⟩ = some (.slice a0 n0 c0) ∧ w'.cell? ⟨qb, 1, none⟩ = some (.slice a1 n1 c1) ∧ w'.cell? ⟨qb, 2, none⟩ = some (.slice a2 n2 c2) ∧ w'.cell? ⟨qb, 3, none⟩ = some (.slice a3 n3 c3) ∧ w'.cell? ⟨qb, 4, none⟩ = some (.slice a4 n4 c4) ∧ w'.cell? ⟨qb, 5, none⟩ = some (.int .i64 s.room) ∧ w'.cell? ⟨qb, 6, none⟩ = some (.slice a6 n6 c6) ∧ w'.cell? ⟨qb, 7, none⟩ = some (.int .i64 s.power) ∧ w'.cell? ⟨qb, 8, none⟩ = some (.int .i64 (s.n : Int))) ∧ (w'.cell? ⟨fb, 0, none⟩ = some (.int .i64 k1) ∧ w'.cell? ⟨fb, 1, none⟩ = some (.slice ka nk kc))) := fun Wx hb => by
    refine (copyFateC k1 _ keep1 Wx (KX.out Wx hb.out) (by have := HL.out; omega)).mono ?_
    rintro e w' ⟨u, rfl, hu, hb'⟩
    have hb2 := hb.out.trans (hb'.mono hb.out.size)
    exact ⟨u, rfl, hu, hb2, CEL.out _ hb2⟩
  have CL : Hid (∀ Wx kv, Hid (Below w2.heap.size w2 Wx) → Hid (HoldsI Wx kv keep1) → Calls Tryz.prog 37 #[.pointer (some ⟨g, 0, none⟩), .agg #[.int .i64 k1, kv]] Wx fun e w' => ∃ u, e = .returned (u) ∧ Hid (HoldsFi w' u (s.left k1 keep1)) ∧ Hid (Below w2.heap.size w2 w') ∧ (w'.cell? ⟨qb, 0, none⟩ = some (.slice a0 n0 c0) ∧ w'.cell? ⟨qb, 1, none⟩ = some (.slice a1 n1 c1) ∧ w'.cell? ⟨qb, 2, none⟩ = some (.slice a2 n2 c2) ∧ w'.cell? ⟨qb, 3, none⟩ = some (.slice a3 n3 c3) ∧ w'.cell? ⟨qb, 4, none⟩ = some (.slice a4 n4 c4) ∧ w'.cell? ⟨qb, 5, none⟩ = some (.int .i64 s.room) ∧ w'.cell? ⟨qb, 6, none⟩ = some (.slice a6 n6 c6) ∧ w'.cell? ⟨qb, 7, none⟩ = some (.int .i64 s.power) ∧ w'.cell? ⟨qb, 8, none⟩ = some (.int .i64 (s.n : Int))) ∧ (w'.cell? ⟨fb, 0, none⟩ = some (.int .i64 k1) ∧ w'.cell? ⟨fb, 1, none⟩ = some (.slice ka nk kc))) := fun Wx kv hb hkv => by
    refine (leftC (DX.out Wx hb.out) k1 _ keep1 hkv.out R1.out KB1.out (bd_mono HB.out (by omega))).mono ?_
    rintro e w' ⟨u, rfl, hu, hb'⟩
    have hb2 := hb.out.trans (hb'.mono hb.out.size)
    exact ⟨u, rfl, holdsFi_sub (mask_sub _ _) hu, hb2, CEL.out _ hb2⟩
  have CM : Hid (∀ Wx, Hid (Below w2.heap.size w2 Wx) → Calls Tryz.prog 39 #[.agg #[.slice a0 n0 c0, .slice a1 n1 c1, .slice a2 n2 c2, .slice a3 n3 c3, .slice a4 n4 c4, .int .i64 s.room, .slice a6 n6 c6, .int .i64 s.power, .int .i64 (s.n : Int)], .agg #[.int .i64 k1, .slice ka nk kc]] Wx fun e w' => ∃ u, e = .returned (u) ∧ Hid (HoldsFi w' u (s.left k1 keep1) ∧ Below Wx.heap.size Wx w') ∧ Hid (Below w2.heap.size w2 w') ∧ (w'.cell? ⟨qb, 0, none⟩ = some (.slice a0 n0 c0) ∧ w'.cell? ⟨qb, 1, none⟩ = some (.slice a1 n1 c1) ∧ w'.cell? ⟨qb, 2, none⟩ = some (.slice a2 n2 c2) ∧ w'.cell? ⟨qb, 3, none⟩ = some (.slice a3 n3 c3) ∧ w'.cell? ⟨qb, 4, none⟩ = some (.slice a4 n4 c4) ∧ w'.cell? ⟨qb, 5, none⟩ = some (.int .i64 s.room) ∧ w'.cell? ⟨qb, 6, none⟩ = some (.slice a6 n6 c6) ∧ w'.cell? ⟨qb, 7, none⟩ = some (.int .i64 s.power) ∧ w'.cell? ⟨qb, 8, none⟩ = some (.int .i64 (s.n : Int))) ∧ (w'.cell? ⟨fb, 0, none⟩ = some (.int .i64 k1) ∧ w'.cell? ⟨fb, 1, none⟩ = some (.slice ka nk kc))) := fun Wx hb => by
    refine (leftRC (RX.out Wx hb.out) WF.out (bd_mono HB.out (by omega)) k1 _ keep1 (KX.out Wx hb.out) (by have := HL.out; omega) KB1.out (by have := (LB.out k1 keep1).1; unfold Dk.left at this; rw [List.length_map] at this; omega)).mono ?_
    rintro e w' ⟨u, rfl, hu, hb'⟩
    have hb2 := hb.out.trans (hb'.mono hb.out.size)
    exact ⟨u, rfl, ⟨hu, hb'⟩, hb2, CEL.out _ hb2⟩
  have CQ : Hid (∀ Wx ua ub, Hid (Below w2.heap.size w2 Wx) → HoldsFi Wx ua (s.left k1 keep1) → HoldsFi Wx ub (s.left k1 keep1) → Calls Tryz.prog 36 #[ua, ub] Wx fun e w' => e = .returned (.bool true) ∧ Hid (Below w2.heap.size w2 w') ∧ (w'.cell? ⟨qb, 0, none⟩ = some (.slice a0 n0 c0) ∧ w'.cell? ⟨qb, 1, none⟩ = some (.slice a1 n1 c1) ∧ w'.cell? ⟨qb, 2, none⟩ = some (.slice a2 n2 c2) ∧ w'.cell? ⟨qb, 3, none⟩ = some (.slice a3 n3 c3) ∧ w'.cell? ⟨qb, 4, none⟩ = some (.slice a4 n4 c4) ∧ w'.cell? ⟨qb, 5, none⟩ = some (.int .i64 s.room) ∧ w'.cell? ⟨qb, 6, none⟩ = some (.slice a6 n6 c6) ∧ w'.cell? ⟨qb, 7, none⟩ = some (.int .i64 s.power) ∧ w'.cell? ⟨qb, 8, none⟩ = some (.int .i64 (s.n : Int))) ∧ (w'.cell? ⟨fb, 0, none⟩ = some (.int .i64 k1) ∧ w'.cell? ⟨fb, 1, none⟩ = some (.slice ka nk kc))) := fun Wx ua ub hb ha hbb => by
    refine (sameFi ua ub _ Wx ha hbb (by have := (LB.out k1 keep1).1; omega) (fun f hf => by have := ((LB.out k1 keep1).2 f hf).2; omega)).mono ?_
    rintro e w' ⟨rfl, hb'⟩
    have hb2 := hb.out.trans (hb'.mono hb.out.size)
    exact ⟨rfl, hb2, CEL.out _ hb2⟩
  have CL0 : Hid (∀ Wx, Hid (Below w2.heap.size w2 Wx) → Calls Tryz.prog 37 #[.pointer (some ⟨g, 0, none⟩), .agg #[.int .i64 1073741824, .slice none 0 0]] Wx fun e w' => ∃ u, e = .returned (u) ∧ Hid (HoldsFi w' u (s.left 1073741824 [])) ∧ Hid (Below w2.heap.size w2 w') ∧ (w'.cell? ⟨qb, 0, none⟩ = some (.slice a0 n0 c0) ∧ w'.cell? ⟨qb, 1, none⟩ = some (.slice a1 n1 c1) ∧ w'.cell? ⟨qb, 2, none⟩ = some (.slice a2 n2 c2) ∧ w'.cell? ⟨qb, 3, none⟩ = some (.slice a3 n3 c3) ∧ w'.cell? ⟨qb, 4, none⟩ = some (.slice a4 n4 c4) ∧ w'.cell? ⟨qb, 5, none⟩ = some (.int .i64 s.room) ∧ w'.cell? ⟨qb, 6, none⟩ = some (.slice a6 n6 c6) ∧ w'.cell? ⟨qb, 7, none⟩ = some (.int .i64 s.power) ∧ w'.cell? ⟨qb, 8, none⟩ = some (.int .i64 (s.n : Int))) ∧ (w'.cell? ⟨fb, 0, none⟩ = some (.int .i64 k1) ∧ w'.cell? ⟨fb, 1, none⟩ = some (.slice ka nk kc))) := fun Wx hb => by
    refine (leftC (DX.out Wx hb.out) 1073741824 _ [] ⟨none, 0, rfl, fun _ => rfl, Nat.le_refl _, fun h => absurd rfl h⟩ (by decide) (fun z h => by cases h) (bd_mono HB.out (by omega))).mono ?_
    rintro e w' ⟨u, rfl, hu, hb'⟩
    have hb2 := hb.out.trans (hb'.mono hb.out.size)
    exact ⟨u, rfl, holdsFi_sub (mask_sub _ _) hu, hb2, CEL.out _ hb2⟩
  have CM0 : Hid (∀ Wx, Hid (Below w2.heap.size w2 Wx) → Calls Tryz.prog 39 #[.agg #[.slice a0 n0 c0, .slice a1 n1 c1, .slice a2 n2 c2, .slice a3 n3 c3, .slice a4 n4 c4, .int .i64 s.room, .slice a6 n6 c6, .int .i64 s.power, .int .i64 (s.n : Int)], .agg #[.int .i64 1073741824, .slice none 0 0]] Wx fun e w' => ∃ u, e = .returned (u) ∧ Hid (HoldsFi w' u (s.left 1073741824 []) ∧ Below Wx.heap.size Wx w') ∧ Hid (Below w2.heap.size w2 w') ∧ (w'.cell? ⟨qb, 0, none⟩ = some (.slice a0 n0 c0) ∧ w'.cell? ⟨qb, 1, none⟩ = some (.slice a1 n1 c1) ∧ w'.cell? ⟨qb, 2, none⟩ = some (.slice a2 n2 c2) ∧ w'.cell? ⟨qb, 3, none⟩ = some (.slice a3 n3 c3) ∧ w'.cell? ⟨qb, 4, none⟩ = some (.slice a4 n4 c4) ∧ w'.cell? ⟨qb, 5, none⟩ = some (.int .i64 s.room) ∧ w'.cell? ⟨qb, 6, none⟩ = some (.slice a6 n6 c6) ∧ w'.cell? ⟨qb, 7, none⟩ = some (.int .i64 s.power) ∧ w'.cell? ⟨qb, 8, none⟩ = some (.int .i64 (s.n : Int))) ∧ (w'.cell? ⟨fb, 0, none⟩ = some (.int .i64 k1) ∧ w'.cell? ⟨fb, 1, none⟩ = some (.slice ka nk kc))) := fun Wx hb => by
    refine (leftRC (RX.out Wx hb.out) WF.out (bd_mono HB.out (by omega)) 1073741824 _ [] ⟨none, 0, rfl, fun _ => rfl, Nat.le_refl _, fun h => absurd rfl h⟩ (by decide) (fun z h => by cases h) (by have := (LB.out 1073741824 []).1; unfold Dk.left at this; rw [List.length_map] at this; omega)).mono ?_
    rintro e w' ⟨u, rfl, hu, hb'⟩
    have hb2 := hb.out.trans (hb'.mono hb.out.size)
    exact ⟨u, rfl, ⟨hu, hb'⟩, hb2, CEL.out _ hb2⟩
  have CQ0 : Hid (∀ Wx ua ub, Hid (Below w2.heap.size w2 Wx) → HoldsFi Wx ua (s.left 1073741824 []) → HoldsFi Wx ub (s.left 1073741824 []) → Calls Tryz.prog 36 #[ua, ub] Wx fun e w' => e = .returned (.bool true) ∧ Hid (Below w2.heap.size w2 w') ∧ (w'.cell? ⟨qb, 0, none⟩ = some (.slice a0 n0 c0) ∧ w'.cell? ⟨qb, 1, none⟩ = some (.slice a1 n1 c1) ∧ w'.cell? ⟨qb, 2, none⟩ = some (.slice a2 n2 c2) ∧ w'.cell? ⟨qb, 3, none⟩ = some (.slice a3 n3 c3) ∧ w'.cell? ⟨qb, 4, none⟩ = some (.slice a4 n4 c4) ∧ w'.cell? ⟨qb, 5, none⟩ = some (.int .i64 s.room) ∧ w'.cell? ⟨qb, 6, none⟩ = some (.slice a6 n6 c6) ∧ w'.cell? ⟨qb, 7, none⟩ = some (.int .i64 s.power) ∧ w'.cell? ⟨qb, 8, none⟩ = some (.int .i64 (s.n : Int))) ∧ (w'.cell? ⟨fb, 0, none⟩ = some (.int .i64 k1) ∧ w'.cell? ⟨fb, 1, none⟩ = some (.slice ka nk kc))) := fun Wx ua ub hb ha hbb => by
    refine (sameFi ua ub _ Wx ha hbb (by have := (LB.out 1073741824 []).1; omega) (fun f hf => by have := ((LB.out 1073741824 []).2 f hf).2; omega)).mono ?_
    rintro e w' ⟨rfl, hb'⟩
    have hb2 := hb.out.trans (hb'.mono hb.out.size)
    exact ⟨rfl, hb2, CEL.out _ hb2⟩
  obtain ⟨⟨kq0, kq1, kq2, kq3, kq4, kq5, kq6, kq7, kq8⟩, ⟨m0, m1⟩⟩ := CEL.out w2 (Below.refl _ _)
  clear DX RX KX Q0 F0 HD HR HK CEL
  generalize s.used = us at C4 C5
  go_region_held3 (fun w' => w'.cell? ⟨qb, 0, none⟩ = some (.slice a0 n0 c0) ∧ w'.cell? ⟨qb, 1, none⟩ = some (.slice a1 n1 c1) ∧ w'.cell? ⟨qb, 2, none⟩ = some (.slice a2 n2 c2) ∧ w'.cell? ⟨qb, 3, none⟩ = some (.slice a3 n3 c3) ∧ w'.cell? ⟨qb, 4, none⟩ = some (.slice a4 n4 c4) ∧ w'.cell? ⟨qb, 5, none⟩ = some (.int .i64 s.room) ∧ w'.cell? ⟨qb, 6, none⟩ = some (.slice a6 n6 c6) ∧ w'.cell? ⟨qb, 7, none⟩ = some (.int .i64 s.power) ∧ w'.cell? ⟨qb, 8, none⟩ = some (.int .i64 (s.n : Int)) ∧ w'.cell? ⟨fb, 0, none⟩ = some (.int .i64 k1) ∧ w'.cell? ⟨fb, 1, none⟩ = some (.slice ka nk kc)) (go_keep)
    (first
      | (go_at_call_of 37 (Value.agg #[Value.int .i64 1073741824, Value.slice none 0 0]); refine (CL0.out _ HC10).mono ?_; rintro e wF ⟨u5, rfl, HU5, HC11, ⟨⟨kq0, kq1, kq2, kq3, kq4, kq5, kq6, kq7, kq8⟩, ⟨m0, m1⟩⟩⟩)
      | (go_at_call_of 39 (Value.agg #[Value.int .i64 1073741824, Value.slice none 0 0]); refine (CM0.out _ HC11).mono ?_; rintro e wG ⟨u6, rfl, HU6, HC12, ⟨⟨kq0, kq1, kq2, kq3, kq4, kq5, kq6, kq7, kq8⟩, ⟨m0, m1⟩⟩⟩)
      | (go_at_call_of 36 (u6); refine (CQ0.out _ _ _ HC12 (holdsFi_mono HU5.out HU6.out.2) HU6.out.1).mono ?_; rintro e wH ⟨rfl, HC13, ⟨⟨kq0, kq1, kq2, kq3, kq4, kq5, kq6, kq7, kq8⟩, ⟨m0, m1⟩⟩⟩)
      | (go_at_call 19; refine (C1.out _ ?_).mono ?_; (first | exact hide' (Below.refl _ _).drew | exact hide' (Below.refl _ _)); rintro e wA ⟨rfl, HC1, ⟨⟨kq0, kq1, kq2, kq3, kq4, kq5, kq6, kq7, kq8⟩, ⟨m0, m1⟩⟩⟩)
      | (go_at_call 20; refine (C4.out _ HC1).mono ?_; rintro e wB ⟨rfl, HC2, ⟨⟨kq0, kq1, kq2, kq3, kq4, kq5, kq6, kq7, kq8⟩, ⟨m0, m1⟩⟩⟩)
      | (go_at_call 33; refine (C5.out _ HC2).mono ?_; rintro e wC ⟨rfl, HC3, ⟨⟨kq0, kq1, kq2, kq3, kq4, kq5, kq6, kq7, kq8⟩, ⟨m0, m1⟩⟩⟩)
      | (go_at_call 35; refine (C6.out _ HC3).mono ?_; rintro e wD ⟨u1, rfl, HU1, HC4, ⟨⟨kq0, kq1, kq2, kq3, kq4, kq5, kq6, kq7, kq8⟩, ⟨m0, m1⟩⟩⟩)
      | (go_at_call 28; refine (C7.out _ HC4).mono ?_; rintro e wE ⟨u2, rfl, HU2, HC5, ⟨⟨kq0, kq1, kq2, kq3, kq4, kq5, kq6, kq7, kq8⟩, ⟨m0, m1⟩⟩⟩)
      | (go_at_call 34; refine (CE.out _ _ _ HC5 (holds_mono HU1.out HU2.out.2) HU2.out.1).mono ?_; rintro e wI ⟨rfl, HC6, ⟨⟨kq0, kq1, kq2, kq3, kq4, kq5, kq6, kq7, kq8⟩, ⟨m0, m1⟩⟩⟩)
      | (go_at_call 38; refine (CF.out _ HC6).mono ?_; rintro e wJ ⟨fu, rfl, HI1, HC7, ⟨⟨kq0, kq1, kq2, kq3, kq4, kq5, kq6, kq7, kq8⟩, ⟨m0, m1⟩⟩⟩)
      | (go_at_call_of 37 (Value.agg #[Value.int .i64 k1, fu]); refine (CL.out _ _ HC7 HI1).mono ?_; rintro e wK ⟨u3, rfl, HU3, HC8, ⟨⟨kq0, kq1, kq2, kq3, kq4, kq5, kq6, kq7, kq8⟩, ⟨m0, m1⟩⟩⟩)
      | (go_at_call_of 39 (Value.agg #[Value.int .i64 k1, .slice ka nk kc]); refine (CM.out _ HC8).mono ?_; rintro e wL ⟨u4, rfl, HU4, HC9, ⟨⟨kq0, kq1, kq2, kq3, kq4, kq5, kq6, kq7, kq8⟩, ⟨m0, m1⟩⟩⟩)
      | (go_at_call_of 36 (u4); refine (CQ.out _ _ _ HC9 (holdsFi_mono HU3.out HU4.out.2) HU4.out.1).mono ?_; rintro e wM ⟨rfl, HC10, ⟨⟨kq0, kq1, kq2, kq3, kq4, kq5, kq6, kq7, kq8⟩, ⟨m0, m1⟩⟩⟩))
  all_goals
    have NB := hide' (B0.out.trans (HC13.out.mono B0.out.size))
    go_wp2_with fail
    go_ret
    exact ⟨rfl, NB.out⟩
end Go.Proofs.YtijnjgnckipghaaGreat
namespace Go.Proofs.YtijnjgnckipghaaGreat
open Go.ChangeShapes Go.WideShapes Go.ChangeAt Go.RowKit
def bulkQ : RL → Nat
  | [] => 0
  | o :: r => o.2.2.2.length + 4 + bulkQ r
theorem bulkQ_len (rs : RL) : rs.length * 4 ≤ bulkQ rs := by
  induction rs with
  | nil => exact Nat.zero_le _
  | cons r rs ih => simp only [List.length_cons, bulkQ]; omega
theorem bulkQ_id (rs : RL) : ∀ r ∈ rs, r.2.2.2.length ≤ bulkQ rs := by
  induction rs with
  | nil => intro r h; cases h
  | cons q rs ih =>
    intro r h
    simp only [bulkQ]
    rcases List.mem_cons.1 h with rfl | h
    · omega
    · have := ih r h; omega
theorem bulk_recs {H : Type} (f : Nat → Rc) (g : Nat → DataW H) : ∀ (ks : List Nat), (∀ k ∈ ks, (f k).2.2.2.length + 4 ≤ Rows.uptoBulk (g k)) → bulkQ (ks.map f) ≤ Rows.uptoBulkAll (ks.map g) := by
  intro ks
  induction ks with
  | nil => intro _; exact Nat.zero_le _
  | cons k r ih =>
    intro h
    have h1 := h k (by simp)
    have h2 := ih (fun k hk => h k (by simp [hk]))
    show (f k).2.2.2.length + 4 + bulkQ (r.map f) ≤ Rows.uptoBulk (g k) + Rows.uptoBulkAll (r.map g)
    omega
set_option maxRecDepth 100000 in
theorem open_recs0 {H : Type} {enc : TypeId × Value → H} {W : World} {v : Value} {d : DataW H} {p : List MemPlace} {t e : TypeId} {f0 f1 f2 f3 : Field} (ht : Tryz.prog.underlying t = some (.slice e)) (he : Tryz.prog.underlying e = some (.struct #[f0, f1, f2, f3])) (ce : Tryz.prog.cellsOf e = 4) (o0 : f0.offset = 0) (o1 : f1.offset = 1) (o2 : f2.offset = 2) (o3 : f3.offset = 3) (e0 : f0.type = 3) (e1 : f1.type = 3) (e2 : f2.type = 3) (e3 : f3.type = 9)
    (hform : ∃ a l c, v = .slice a l c) (h : DataW.Trod enc Tryz.prog W 0 (fun _ => true) true t v d p) : ∃ rs : RL, HoldsR W v rs ∧ bulkQ rs + 1 ≤ Rows.uptoBulk d := by
  have k0 : Tryz.prog.cellsOf 3 = 1 := by kernel_rfl
  have k1 : Tryz.prog.cellsOf 9 = 1 := by kernel_rfl
  obtain ⟨a0, len0, cap0, rfl⟩ := hform
  obtain ⟨fuel, hf⟩ := h
  rcases Go.Deep.open_slice ht hf with ⟨hcs, hx⟩ | ⟨a, len, cap, m, n, D, Pl, hcs, _, hl, hm, hmm, hx, hcell⟩
  · simp [Value.cells] at hcs
    obtain ⟨rfl, rfl, rfl⟩ := hcs
    simp only [Prod.mk.injEq] at hx
    obtain ⟨rfl, _⟩ := hx
    exact ⟨[], holdsR_nil W, by simp [bulkQ, Rows.uptoBulk]⟩
  · simp [Value.cells] at hcs
    obtain ⟨rfl, rfl, rfl⟩ := hcs
    simp only [Prod.mk.injEq] at hx
    obtain ⟨hd, _⟩ := hx
    have hmm' : m = cap0 := by simpa using hmm
    subst hmm'
    have E : ∀ i, ∃ q : Rc, i < m → (W.cell? (a.add (i * 4)) = some (.int .i64 q.1) ∧ W.cell? (a.add (i * 4 + 1)) = some (.int .i64 q.2.1) ∧ W.cell? (a.add (i * 4 + 2)) = some (.int .i64 q.2.2.1) ∧ W.cell? (a.add (i * 4 + 3)) = some (S q.2.2.2)) ∧ q.2.2.2.length + 4 ≤ Rows.uptoBulk (D i) := by
      intro i
      by_cases hi : i < m
      · obtain ⟨cs', h1, h2⟩ := hcell i hi
        rw [ce] at h1
        obtain ⟨_, hlen, hc⟩ := World.cells?_some h1
        obtain ⟨y0, y1, y2, y3, k, hxy, _, g0, g1, g2, g3⟩ := Go.Joins.trod_struct4 he h2
        match cs', hlen with
        | [v0, v1, v2, v3], _ =>
          rw [o0, e0, k0] at g0
          rw [o1, e1, k0] at g1
          rw [o2, e2, k0] at g2
          rw [o3, e3, k1] at g3
          simp only [List.drop_zero, List.drop_succ_cons, List.take_succ_cons, List.take_zero] at g0 g1 g2 g3
          obtain ⟨z0, q0, x0, _⟩ := DataW.trod_int Tryz.underlying3 g0
          obtain ⟨z1, q1, x1, _⟩ := DataW.trod_int Tryz.underlying3 g1
          obtain ⟨z2, q2, x2, _⟩ := DataW.trod_int Tryz.underlying3 g2
          obtain ⟨s3, q3, x3, _⟩ := DataW.trod_string Tryz.underlying9 g3
          simp only [List.cons.injEq, and_true] at q0 q1 q2 q3
          have c0 := hc 0 (by omega)
          have c1 := hc 1 (by omega)
          have c2 := hc 2 (by omega)
          have c3 := hc 3 (by omega)
          rw [Go.Deep.add_add] at c0 c1 c2 c3
          simp at c0 c1 c2 c3
          simp only [Prod.mk.injEq] at hxy
          refine ⟨(z0, z1, z2, s3.data.toList), fun _ => ⟨⟨by rw [c0, q0], by rw [c1, q1], by rw [c2, q2], by rw [c3, q3]; unfold S; simp⟩, ?_⟩⟩
          rw [hxy.1, x0, x1, x2, x3]
          simp only [Rows.uptoBulk, Rows.uptoBulkAll, Array.length_toList]
          omega
      · exact ⟨(0, 0, 0, []), fun h => absurd h hi⟩
    obtain ⟨q, hq⟩ := Classical.axiomOfChoice E
    have hlen : ((List.range len0).map q).length = len0 := by simp
    refine ⟨(List.range len0).map q, ⟨some a, m, by rw [hlen], (fun e => by cases e), by omega, fun hne => ?_⟩, ?_⟩
    · have hpos : 0 < len0 := by
        rcases Nat.eq_zero_or_pos len0 with h | h
        · subst h; simp at hne
        · exact h
      obtain ⟨b, off, rfl, hblt⟩ := addr_at (by have := (hq 0 (by omega)).1.1; rwa [Nat.zero_mul] at this)
      refine ⟨b, off, rfl, hblt, fun j hj => ?_⟩
      rw [hlen] at hj
      obtain ⟨⟨c0, c1, c2, c3⟩, _⟩ := hq j (by omega)
      rw [Go.WideShapes.add_plain] at c0 c1 c2 c3
      simp only [List.getElem_map, List.getElem_range]
      exact ⟨c0, by rw [Nat.add_assoc]; exact c1, by rw [Nat.add_assoc]; exact c2, by rw [Nat.add_assoc]; exact c3⟩
    · rw [hd]
      have := bulk_recs q D (List.range len0) (fun k hk => (hq k (by have := List.mem_range.1 hk; omega)).2)
      simp only [Rows.uptoBulk]
      omega
set_option maxRecDepth 100000 in
theorem open_recs {H : Type} {enc : TypeId × Value → H} {W : World} {base : Nat} {v : Value} {d : DataW H} {p : List MemPlace} (hok : Value.okWide Tryz.prog W .any base 42 v) (h : DataW.Trod enc Tryz.prog W 0 (fun _ => true) true 42 v d p) : ∃ rs : RL, HoldsR W v rs ∧ bulkQ rs + 1 ≤ Rows.uptoBulk d :=
  open_recs0 Tryz.underlying42 Tryz.underlying53 (by kernel_rfl) rfl rfl rfl rfl rfl rfl rfl rfl (okWide_slice Tryz.underlying42 hok) h
end Go.Proofs.YtijnjgnckipghaaGreat
namespace Go.Proofs.YtijnjgnckipghaaGreat
open Go.ChangeShapes Go.WideShapes Go.ChangeAt Go.RowKit
abbrev StT := Rc × RL
/-- v is a slice whose elements are such steps -/
def HoldsSt (w : World) (v : Value) (os : List StT) : Prop :=
  ∃ ao cap, v = .slice ao os.length cap ∧ (ao = none → cap = 0) ∧ os.length ≤ cap ∧ (os ≠ [] → ∃ b off, ao = some ⟨b, off, none⟩ ∧ b < w.heap.size ∧ ∀ j (h : j < os.length), RcAt w b (off + j * 5) os[j].1 ∧ ∃ u, w.cell? ⟨b, off + j * 5 + 4, none⟩ = some u ∧ HoldsR w u os[j].2)
theorem holdsSt_mono {w w' : World} {v : Value} {os : List StT} (h : HoldsSt w v os) (hb : Below w.heap.size w w') : HoldsSt w' v os := by
  obtain ⟨ao, cap, rfl, h0, hcp, hc⟩ := h
  refine ⟨ao, cap, rfl, h0, hcp, fun hne => ?_⟩
  obtain ⟨b, off, rfl, hlt, hcell⟩ := hc hne
  refine ⟨b, off, rfl, Nat.lt_of_lt_of_le hlt hb.size, fun j hj => ?_⟩
  obtain ⟨⟨h1, h2, h3, h4⟩, u, h5, h6⟩ := hcell j hj
  have c : ∀ o, w'.cell? ⟨b, o, none⟩ = w.cell? ⟨b, o, none⟩ := fun o => hb.cell (p := ⟨b, o, none⟩) hlt
  exact ⟨⟨by rw [c]; exact h1, by rw [c]; exact h2, by rw [c]; exact h3, by rw [c]; exact h4⟩, u, by rw [c]; exact h5, holdsR_mono h6 hb⟩
def bulkZ : List StT → Nat
  | [] => 0
  | o :: r => o.1.2.2.2.length + 4 + bulkQ o.2 + bulkZ r
theorem bulkZ_len (os : List StT) : os.length * 4 ≤ bulkZ os := by
  induction os with
  | nil => exact Nat.zero_le _
  | cons r rs ih => simp only [List.length_cons, bulkZ]; omega
theorem bulkZ_mem (os : List StT) : ∀ o ∈ os, o.1.2.2.2.length + bulkQ o.2 ≤ bulkZ os := by
  induction os with
  | nil => intro r h; cases h
  | cons q rs ih =>
    intro r h
    simp only [bulkZ]
    rcases List.mem_cons.1 h with rfl | h
    · omega
    · have := ih r h; omega
theorem bulk_stps {H : Type} (f : Nat → StT) (g : Nat → DataW H) : ∀ (ks : List Nat), (∀ k ∈ ks, (f k).1.2.2.2.length + 4 + bulkQ (f k).2 ≤ Rows.uptoBulk (g k)) → bulkZ (ks.map f) ≤ Rows.uptoBulkAll (ks.map g) := by
  intro ks
  induction ks with
  | nil => intro _; exact Nat.zero_le _
  | cons k r ih =>
    intro h
    have h1 := h k (by simp)
    have h2 := ih (fun k hk => h k (by simp [hk]))
    show (f k).1.2.2.2.length + 4 + bulkQ (f k).2 + bulkZ (r.map f) ≤ Rows.uptoBulk (g k) + Rows.uptoBulkAll (r.map g)
    omega
set_option maxRecDepth 100000 in
theorem recs_trod {H : Type} {enc : TypeId × Value → H} {W : World} {n : Nat} {v : Value} {y : DataW H × List MemPlace} (hf : DataW.trod enc Tryz.prog W 0 (fun _ => true) true n 42 [v] = some y) : ∃ rs : RL, HoldsR W v rs ∧ bulkQ rs + 1 ≤ Rows.uptoBulk y.1 := by
  have hform : ∃ a l c, v = .slice a l c := by
    rcases Go.Deep.open_slice Tryz.underlying42 hf with ⟨hcs, _⟩ | ⟨a, len, cap, m, n, D, Pl, hcs, _⟩
    · simp only [List.cons.injEq, and_true] at hcs; exact ⟨_, _, _, hcs⟩
    · simp only [List.cons.injEq, and_true] at hcs; exact ⟨_, _, _, hcs⟩
  obtain ⟨a, l, c, rfl⟩ := hform
  obtain ⟨d, pl⟩ := y
  exact open_recs0 (d := d) (p := pl) Tryz.underlying42 Tryz.underlying53 (by kernel_rfl) rfl rfl rfl rfl rfl rfl rfl rfl ⟨a, l, c, rfl⟩ ⟨n, hf⟩
set_option maxRecDepth 100000 in
theorem open_stps0 {H : Type} {enc : TypeId × Value → H} {W : World} {v : Value} {d : DataW H} {p : List MemPlace} {t e : TypeId} {f0 f1 g0 g1 g2 g3 : Field} (ht : Tryz.prog.underlying t = some (.slice e)) (he : Tryz.prog.underlying e = some (.struct #[f0, f1])) (ce : Tryz.prog.cellsOf e = 5) (o0 : f0.offset = 0) (o1 : f1.offset = 4) (e0 : f0.type = 53) (e1 : f1.type = 42)
    (hr : Tryz.prog.underlying 53 = some (.struct #[g0, g1, g2, g3])) (p0 : g0.offset = 0) (p1 : g1.offset = 1) (p2 : g2.offset = 2) (p3 : g3.offset = 3) (q0 : g0.type = 3) (q1 : g1.type = 3) (q2 : g2.type = 3) (q3 : g3.type = 9)
    (hform : ∃ a l c, v = .slice a l c) (h : DataW.Trod enc Tryz.prog W 0 (fun _ => true) true t v d p) : ∃ os : List StT, HoldsSt W v os ∧ bulkZ os + 1 ≤ Rows.uptoBulk d := by
  have k0 : Tryz.prog.cellsOf 3 = 1 := by kernel_rfl
  have k1 : Tryz.prog.cellsOf 9 = 1 := by kernel_rfl
  have k4 : Tryz.prog.cellsOf 53 = 4 := by kernel_rfl
  have k5 : Tryz.prog.cellsOf 42 = 1 := by kernel_rfl
  obtain ⟨a0, len0, cap0, rfl⟩ := hform
  obtain ⟨fuel, hf⟩ := h
  rcases Go.Deep.open_slice ht hf with ⟨hcs, hx⟩ | ⟨a, len, cap, m, n, D, Pl, hcs, _, hl, hm, hmm, hx, hcell⟩
  · simp [Value.cells] at hcs
    obtain ⟨rfl, rfl, rfl⟩ := hcs
    simp only [Prod.mk.injEq] at hx
    obtain ⟨rfl, _⟩ := hx
    exact ⟨[], ⟨none, 0, rfl, fun _ => rfl, Nat.le_refl _, fun h => absurd rfl h⟩, by simp [bulkZ, Rows.uptoBulk]⟩
  · simp [Value.cells] at hcs
    obtain ⟨rfl, rfl, rfl⟩ := hcs
    simp only [Prod.mk.injEq] at hx
    obtain ⟨hd, _⟩ := hx
    have hmm' : m = cap0 := by simpa using hmm
    subst hmm'
    have E : ∀ i, ∃ q : StT, i < m → (W.cell? (a.add (i * 5)) = some (.int .i64 q.1.1) ∧ W.cell? (a.add (i * 5 + 1)) = some (.int .i64 q.1.2.1) ∧ W.cell? (a.add (i * 5 + 2)) = some (.int .i64 q.1.2.2.1) ∧ W.cell? (a.add (i * 5 + 3)) = some (S q.1.2.2.2) ∧ ∃ u, W.cell? (a.add (i * 5 + 4)) = some u ∧ HoldsR W u q.2) ∧ q.1.2.2.2.length + 4 + bulkQ q.2 ≤ Rows.uptoBulk (D i) := by
      intro i
      by_cases hi : i < m
      · obtain ⟨cs', h1, h2⟩ := hcell i hi
        rw [ce] at h1
        obtain ⟨_, hlen, hc⟩ := World.cells?_some h1
        obtain ⟨y0, y1, k, hxy, _, r0, r1⟩ := Go.ChangeShapes.trod_struct2 he h2
        match cs', hlen with
        | [v0, v1, v2, v3, v4], _ =>
          rw [o0, e0, k4] at r0
          rw [o1, e1, k5] at r1
          simp only [List.drop_zero, List.drop_succ_cons, List.take_succ_cons, List.take_zero] at r0 r1
          obtain ⟨w0, w1, w2, w3, k', hxw, _, s0, s1, s2, s3⟩ := Go.Joins.trod_struct4 hr r0
          rw [p0, q0, k0] at s0
          rw [p1, q1, k0] at s1
          rw [p2, q2, k0] at s2
          rw [p3, q3, k1] at s3
          simp only [List.drop_zero, List.drop_succ_cons, List.take_succ_cons, List.take_zero] at s0 s1 s2 s3
          obtain ⟨z0, t0, x0, _⟩ := DataW.trod_int Tryz.underlying3 s0
          obtain ⟨z1, t1, x1, _⟩ := DataW.trod_int Tryz.underlying3 s1
          obtain ⟨z2, t2, x2, _⟩ := DataW.trod_int Tryz.underlying3 s2
          obtain ⟨s3', t3, x3, _⟩ := DataW.trod_string Tryz.underlying9 s3
          obtain ⟨rs, hrs, hk⟩ := recs_trod r1
          simp only [List.cons.injEq, and_true] at t0 t1 t2 t3
          have c0 := hc 0 (by omega)
          have c1 := hc 1 (by omega)
          have c2 := hc 2 (by omega)
          have c3 := hc 3 (by omega)
          have c4 := hc 4 (by omega)
          rw [Go.Deep.add_add] at c0 c1 c2 c3 c4
          simp at c0 c1 c2 c3 c4
          simp only [Prod.mk.injEq] at hxy
          refine ⟨((z0, z1, z2, s3'.data.toList), rs), fun _ => ⟨⟨by rw [c0, t0], by rw [c1, t1], by rw [c2, t2], by rw [c3, t3]; unfold S; simp, v4, c4, hrs⟩, ?_⟩⟩
          rw [hxy.1, hxw]
          dsimp only
          rw [x0, x1, x2, x3]
          simp only [Rows.uptoBulk, Rows.uptoBulkAll, Array.length_toList] at hk ⊢
          omega
      · exact ⟨((0, 0, 0, []), []), fun h => absurd h hi⟩
    obtain ⟨q, hq⟩ := Classical.axiomOfChoice E
    have hlen : ((List.range len0).map q).length = len0 := by simp
    refine ⟨(List.range len0).map q, ⟨some a, m, by rw [hlen], (fun e => by cases e), by omega, fun hne => ?_⟩, ?_⟩
    · have hpos : 0 < len0 := by
        rcases Nat.eq_zero_or_pos len0 with h | h
        · subst h; simp at hne
        · exact h
      obtain ⟨b, off, rfl, hblt⟩ := addr_at (by have := (hq 0 (by omega)).1.1; rwa [Nat.zero_mul] at this)
      refine ⟨b, off, rfl, hblt, fun j hj => ?_⟩
      rw [hlen] at hj
      obtain ⟨⟨c0, c1, c2, c3, u, c4, hu⟩, _⟩ := hq j (by omega)
      rw [Go.WideShapes.add_plain] at c0 c1 c2 c3 c4
      simp only [List.getElem_map, List.getElem_range]
      exact ⟨⟨c0, by rw [Nat.add_assoc]; exact c1, by rw [Nat.add_assoc]; exact c2, by rw [Nat.add_assoc]; exact c3⟩, u, by rw [Nat.add_assoc]; exact c4, hu⟩
    · rw [hd]
      have := bulk_stps q D (List.range len0) (fun k hk => (hq k (by have := List.mem_range.1 hk; omega)).2)
      simp only [Rows.uptoBulk]
      omega
set_option maxRecDepth 100000 in
theorem open_stps {H : Type} {enc : TypeId × Value → H} {W : World} {base : Nat} {v : Value} {d : DataW H} {p : List MemPlace} (hok : Value.okWide Tryz.prog W .any base 26 v) (h : DataW.Trod enc Tryz.prog W 0 (fun _ => true) true 26 v d p) : ∃ os : List StT, HoldsSt W v os ∧ bulkZ os + 1 ≤ Rows.uptoBulk d :=
  open_stps0 Tryz.underlying26 Tryz.underlying55 (by kernel_rfl) rfl rfl rfl rfl Tryz.underlying53 rfl rfl rfl rfl rfl rfl rfl rfl (okWide_slice Tryz.underlying26 hok) h
end Go.Proofs.YtijnjgnckipghaaGreat
namespace Go.Proofs.YtijnjgnckipghaaGreat
open Go.RowKit
set_option maxRecDepth 20000 in
set_option maxHeartbeats 8000000 in
theorem begin11C (fa : Option Addr) (fc : Nat) (fs : FL) (room : Int) (za : Option Addr) (zc : Nat) (fails : List Int) (power : Int) (w : World) (hf : HoldsFi w (.slice fa fs.length fc) fs) (hz : HoldsI w (.slice za fails.length zc) fails) (hl : ∀ f ∈ fs, f.1.length ≤ 140737488351232 ∧ f.2.length ≤ 1000000000) (hn : fs.length ≤ 1000000000) (hzn : fails.length ≤ 1000000000) (hzb : ∀ z ∈ fails, -9223372036854775808 ≤ z ∧ z ≤ 9223372036854775807) :
    Calls Tryz.prog 5 #[.agg #[.slice fa fs.length fc, .int .i64 room, .slice za fails.length zc, .int .i64 power]] w fun e W' => NewPost fs room fails power w e W' := by
  obtain ⟨nf, hnf⟩ : ∃ n, n = fs.length := ⟨_, rfl⟩
  obtain ⟨nz, hnz⟩ : ∃ n, n = fails.length := ⟨_, rfl⟩
  rw [← hnf, ← hnz]
  rw [← hnf] at hf
  rw [← hnz] at hz
  obtain ⟨W1, hW1⟩ : ∃ W1, W1 = w.alloc (.cells #[.slice fa nf fc, .int .i64 room, .slice za nz zc, .int .i64 power] 25) := ⟨_, rfl⟩
  have B0 : Hid (Below w.heap.size w W1) := by rw [hW1]; exact below_alloc' _ _
  have F0 : Hid (Blk w.heap.size W1 [.slice fa nf fc, .int .i64 room, .slice za nz zc, .int .i64 power]) := by rw [hW1]; exact cells_lit w #[.slice fa nf fc, .int .i64 room, .slice za nz zc, .int .i64 power] 25
  have HW1 := hide' hW1
  have z1 : W1.heap.size = w.heap.size + 1 := by rw [hW1]; simp
  have OI := ownI_empty W1
  rw [z1] at OI
  have OE := hide' OI
  have HV := hide' (holdsI_mono hz (B0.out.trans ((below_alloc' W1 (.cells #[] 3)).mono B0.out.size)))
  have HF := hide' hf
  have HL := hide' hl
  have HZB := hide' hzb
  obtain ⟨i0, i1, i2, i3⟩ := (cells_4 (cells_below F0.out (below_alloc' W1 (.cells #[] 3)))).1
  have LZ := hide' hzn
  have LF := hide' hn
  clear hW1 hf hz hl hzb z1 OI hn hzn
  have HNF := hide' hnf
  have HNZ := hide' hnz
  clear hnf hnz
  go_enter Tryz.func5, Tryz.ntmps5
  go_upto_region 2 with fail
  rw [← HW1.out]
  go_wp2_with (at_builtin; refine appAllI rfl (.tmp 6) (.tmp 8) rfl W1 _ [] rfl OE.out (.slice za nz zc) fails rfl HV.out (by simp; have := LZ.out; omega) ?_; intro v2 w2 hown2 _; have OW := hide' hown2; clear hown2)
  have F2 := hide' (cells_below F0.out OW.out.2)
  have B2 := hide' (B0.out.trans (OW.out.2.mono B0.out.size))
  have V2 := hide' (holdsI_own OW.out)
  clear F0 B0 OW OE HV HW1 i0 i1 i2 i3
  have KP : Hid (∀ Wx, Below w2.heap.size w2 Wx → Wx.cell? ⟨w.heap.size, 0, none⟩ = some (.slice fa nf fc) ∧ Wx.cell? ⟨w.heap.size, 1, none⟩ = some (.int .i64 room) ∧ Wx.cell? ⟨w.heap.size, 2, none⟩ = some (.slice za nz zc) ∧ Wx.cell? ⟨w.heap.size, 3, none⟩ = some (.int .i64 power)) := fun Wx hb => (cells_4 (cells_below F2.out hb)).1
  have CF : Hid (∀ Wx, Below w2.heap.size w2 Wx → Calls Tryz.prog 21 #[.slice fa nf fc] Wx fun e w' => ∃ ua ul uc, e = .returned (.slice ua ul uc) ∧ Hid (HoldsFi w' (.slice ua ul uc) fs ∧ Below w2.heap.size w2 w') ∧ w'.cell? ⟨w.heap.size, 0, none⟩ = some (.slice fa nf fc) ∧ w'.cell? ⟨w.heap.size, 1, none⟩ = some (.int .i64 room) ∧ w'.cell? ⟨w.heap.size, 2, none⟩ = some (.slice za nz zc) ∧ w'.cell? ⟨w.heap.size, 3, none⟩ = some (.int .i64 power)) := fun Wx hb => by
    have hbw := B2.out.trans (hb.mono B2.out.size)
    refine (copyFi _ fs Wx (holdsFi_mono HF.out hbw) LF.out (fun f h => by have := (HL.out f h).2; omega)).mono ?_
    rintro e w' ⟨u, rfl, h1, h2⟩
    obtain ⟨ua, uc, hu, _⟩ := id h1
    subst hu
    have hb2 := hb.trans (h2.mono hb.size)
    exact ⟨ua, _, uc, rfl, ⟨holdsFi_sub (mask_sub _ _) h1, hb2⟩, KP.out w' hb2⟩
  have CN : Hid (∀ Wx fv', Hid (HoldsFi Wx fv' fs ∧ Below w2.heap.size w2 Wx) → Calls Tryz.prog 18 #[fv', .int .i64 room, v2, .int .i64 power] Wx fun e w' => ∃ pv er, e = .returned (.tuple #[.pointer pv, .int .i64 er]) ∧ Hid (NewPost fs room fails power w (.returned (.tuple #[.pointer pv, .int .i64 er])) w') ∧ w'.cell? ⟨w.heap.size, 0, none⟩ = some (.slice fa nf fc) ∧ w'.cell? ⟨w.heap.size, 1, none⟩ = some (.int .i64 room) ∧ w'.cell? ⟨w.heap.size, 2, none⟩ = some (.slice za nz zc) ∧ w'.cell? ⟨w.heap.size, 3, none⟩ = some (.int .i64 power)) := fun Wx fv' hh => by
    refine (newC fv' fs room v2 fails power Wx hh.out.1 (holdsI_mono V2.out hh.out.2) HL.out LF.out LZ.out HZB.out).mono ?_
    rintro e w' hp
    have kk := KP.out w' (hh.out.2.trans (hp.1.mono hh.out.2.size))
    have hp2 := newPost_base hp (B2.out.trans (hh.out.2.mono B2.out.size))
    rcases hp.2 with ⟨_, rfl⟩ | ⟨_, g, o, rfl, _⟩
    · exact ⟨_, _, rfl, hp2, kk⟩
    · exact ⟨_, _, rfl, hp2, kk⟩
  obtain ⟨i0, i1, i2, i3⟩ := KP.out w2 (Below.refl _ _)
  go_region_held3 (fun w' => w'.cell? ⟨w.heap.size, 0, none⟩ = some (.slice fa nf fc) ∧ w'.cell? ⟨w.heap.size, 1, none⟩ = some (.int .i64 room) ∧ w'.cell? ⟨w.heap.size, 2, none⟩ = some (.slice za nz zc) ∧ w'.cell? ⟨w.heap.size, 3, none⟩ = some (.int .i64 power)) (go_keep)
    (first
      | (go_at_call 21; refine (CF.out _ ?_).mono ?_; (first | exact (Below.refl _ _).drew | exact Below.refl _ _); rintro e w5 ⟨ua, ul, uc, rfl, B5, j0, j1, j2, j3⟩)
      | (go_at_call 18; refine (CN.out _ _ B5).mono ?_; rintro e w6 ⟨pv, er, rfl, B6, l0, l1, l2, l3⟩))
  all_goals
    go_wp2_with fail
    go_ret2
    exact B6.out
theorem takeSt_run (x : Option Addr) (n cap : Nat) (hi : 100 ≤ n) (hc : n ≤ cap) (hn : x = none → n = 0) (w : World) : Sem.run Tryz.prog (Instr.slice 26 (.slice x n cap) none (some (.int .i64 100)) none) w = .ok (.slice x 100 cap) w := by
  have hel : Tryz.prog.elem 26 = 55 := by kernel_rfl
  have hh := run_slice_h (P := Tryz.prog) w 26 x n cap (by rw [hel]; exact Tryz.underlying26) .i64 100 (by omega) (by omega)
  have h3 : ((100 : Int)).toNat = 100 := rfl
  rw [hel, Tryz.sizeOf55] at hh
  simp only [Result.andThen, sliced, h3] at hh
  rw [hh]
  cases x with
  | none => have := hn rfl; omega
  | some a => simp [Addr.add]
theorem holdsSt_take {w : World} {ao : Option Addr} {cap : Nat} {os : List StT} (h : HoldsSt w (.slice ao os.length cap) os) (i : Nat) (hi : i ≤ os.length) : HoldsSt w (.slice ao i cap) (os.take i) := by
  obtain ⟨ao', cap', e, h0, hcp, hc⟩ := h
  simp only [Value.slice.injEq] at e
  obtain ⟨rfl, _, rfl⟩ := e
  have hl : (os.take i).length = i := by rw [List.length_take]; omega
  refine ⟨ao, cap, by rw [hl], h0, by omega, fun hne => ?_⟩
  obtain ⟨b, off, rfl, hlt, hcell⟩ := hc (fun e => hne (by rw [e]; simp))
  exact ⟨b, off, rfl, hlt, fun j hj => by
    have := hcell j (by omega)
    simpa using this⟩
set_option maxHeartbeats 400000 in
theorem cut11C (v : Value) (os : List StT) (w : World) (hv : HoldsSt w v os) (hl : os.length ≤ 1000000000) :
    Calls Tryz.prog 11 #[v] w fun e w' => ∃ u, e = .returned u ∧ (∀ V, HoldsSt V v os → HoldsSt V u (os.take 100)) ∧ w' = w := by
  obtain ⟨ao, cap, rfl, h0, hcp, hc⟩ := id hv
  by_cases hn : os.length ≤ 100
  · have E : Hid (os.take 100 = os) := List.take_of_length_le hn
    have q : decide ((100 : Int) < (os.length : Int)) = false := by simp; omega
    have HV : Hid (∀ V, HoldsSt V (.slice ao os.length cap) os → HoldsSt V (.slice ao os.length cap) (os.take 100)) := fun V h => by rw [E.out]; exact h
    clear hv hc h0
    go_enter Tryz.func11, Tryz.ntmps11
    go_wp2_with fail
    go_ret
    exact ⟨_, rfl, HV.out, rfl⟩
  · have q : decide ((100 : Int) < (os.length : Int)) = true := by simp; omega
    have hs := takeSt_run ao os.length cap (by omega) hcp (fun e => by have := h0 e; omega)
    have HV : Hid (∀ V, HoldsSt V (.slice ao os.length cap) os → HoldsSt V (.slice ao 100 cap) (os.take 100)) := fun V h => holdsSt_take h 100 (by omega)
    clear hv hc h0
    go_enter Tryz.func11, Tryz.ntmps11
    go_wp2_with fail
    go_ret
    exact ⟨_, rfl, HV.out, rfl⟩
end Go.Proofs.YtijnjgnckipghaaGreat
namespace Go.Proofs.YtijnjgnckipghaaGreat
open Go.RowKit Go.Shelf
set_option maxRecDepth 20000
def av0 : Dk := newS [] 999 [] (-1)
def rdN (st : LSt) : (LSt × Int) × RL := (beginT st, [])
def avq : OSt × Int := openT rdN av0
def av1 : Dk := avq.1.1.1
def ava : LSt × Int := addT 1 0 [97] (av1, 0)
theorem av_r : remU (av0, 0) = ((av0, 0), 0) := by unfold remU; rw [if_neg (by decide)]
theorem av_read : (av0.read lgN).2 = 90 := by decide
theorem av_q2 : avq.2 = 0 := by decide
theorem av_q1 : avq.1.2 = [] := by decide
theorem av_n : av1.n = 3 := by decide
theorem av_a2 : ava.2 = 0 := by decide
theorem av_ac : ava.1.2 = 1 := by decide
theorem av_an : ava.1.1.n = 5 := by decide
theorem av_au : ava.1.1.used = 16 := by decide
theorem av_b0 : Bd 100 av0 := bd_new _ _ _ _ _ (by decide) (fun f h => by cases h)
set_option maxHeartbeats 4000000 in
theorem aliveL (w : World) : Calls Tryz.prog 4 #[] w fun e w' => e = .returned (.bool true) ∧ Below w.heap.size w w' := by
  have CN := hide' (newC (.slice none 0 0) [] 999 (.slice none 0 0) [] (-1) w ⟨none, 0, rfl, fun _ => rfl, Nat.le_refl _, fun h => absurd rfl h⟩ ⟨none, 0, rfl, fun _ => rfl, Nat.le_refl _, fun h => absurd rfl h⟩ (fun f h => by cases h) (by decide) (by decide) (fun z h => by cases h))
  go_enter Tryz.func4, Tryz.ntmps4
  go_wp2_with fail
  refine CN.out.mono ?_
  intro e w1 np
  obtain ⟨nb, ⟨ne, _⟩ | ⟨_, g, o, rfl, hD, hO⟩⟩ := np
  · exact absurd rfl ne
  have CO := hide' (openC (s := av0) hD 100 6 av_b0 (by decide) (by decide) rdN (fun lb o' w2 hl hb => by
    rw [av_r] at hl hb ⊢
    refine (readNone hl 106 (by decide) hb av_read).mono ?_
    rintro e w3 ⟨p1, p2⟩
    exact ⟨p1, p2⟩))
  have NB := hide' nb
  have HO := hide' hO
  clear CN hD hO nb
  go_wp2_with fail
  refine CO.out.mono ?_
  rintro e w2 ⟨op, hbd⟩
  obtain ⟨ne, _⟩ | ⟨_, lb, lv, o', rfl, hl, hg, hlb, hr⟩ := op
  · exact absurd av_q2 ne
  have hl2 : LogS o' g lb av1 0 w2 := by
    have h := hl
    rw [show (openT rdN av0).1.2 = [] from av_q1] at h
    exact h
  obtain ⟨la, lc, hlv, _⟩ := id hr.1
  rw [show (openT rdN av0).1.2 = [] from av_q1] at hlv
  subst hlv
  have CS := hide' (stepsC hl2.dsk)
  rw [av_n] at CS
  have CA := hide' (addC hl2 112 hbd 1 0 [97] (by decide) (by decide))
  rw [show (addT 1 0 [97] (av1, 0)) = ava from rfl] at CA
  have B2 : Hid (Below w.heap.size w w2) := by
    have h1 := hg.off.below (C := w1.heap.size)
    exact NB.out.trans ((hg.off.below NB.out.size HO.out))
  have HG := hide' hg
  have HLB : Hid (w.heap.size ≤ lb) := Nat.le_trans NB.out.size hlb
  have HO2 : Hid (∀ k, o'.has k → w.heap.size ≤ k) := fun k hk => by
    rcases hg.new k hk with h1 | h1
    · exact HO.out k h1
    · exact Nat.le_trans NB.out.size h1
  clear hl hl2 hg hlb hr hbd CO
  go_wp2_with fail
  refine CS.out.mono ?_
  rintro e w3 ⟨rfl, ew⟩
  rw [ew]
  clear ew w3
  go_wp2_with fail
  refine CA.out.mono ?_
  rintro e w3 ⟨⟨rfl, o2, hl3, hg3⟩, hbd3⟩
  rw [av_a2]
  have CC := hide' (countL hl3)
  rw [av_ac] at CC
  have CT := hide' (stepsC hl3.dsk)
  rw [av_an] at CT
  have CU := hide' (usedC hl3.dsk (bd_mono hbd3 (by decide)))
  rw [av_au] at CU
  have B3 : Hid (Below w.heap.size w w3) := B2.out.trans (hg3.off.below B2.out.size (fun k hk => by
    rcases hk with hk | hk
    · exact HO2.out k hk
    · rw [hk]; exact HLB.out))
  clear hl3 hg3 hbd3 CA CS
  go_wp2_with fail
  refine CC.out.mono ?_
  rintro e w4 ⟨rfl, ew⟩
  rw [ew]
  clear ew w4
  go_wp2_with fail
  refine CT.out.mono ?_
  rintro e w4 ⟨rfl, ew⟩
  rw [ew]
  clear ew w4
  go_wp2_with fail
  refine CU.out.mono ?_
  rintro e w4 ⟨rfl, hb4⟩
  have B4 := hide' (B3.out.trans (hb4.mono B3.out.size))
  clear hb4
  go_wp2_with fail
  go_ret
  exact ⟨rfl, B4.out⟩
end Go.Proofs.YtijnjgnckipghaaGreat
namespace Go.Proofs.YtijnjgnckipghaaGreat
def lN : NL := [(lgN, 0)]
def sE (R pw : Int) (n : Nat) : Dk := ⟨[], [], [], [], [], R, [], pw, n⟩
def sC (R pw : Int) (n : Nat) : Dk := ⟨lN, [], [lN], [[]], [0], R, [], pw, n⟩
def sL (R pw : Int) (n : Nat) (bs : List UInt8) (f : Nat) : Dk := ⟨lN, lN, [], [bs], [f], R, [], pw, n⟩
theorem stp {s : Dk} (o : DOp) (hd : s.down = false) (hf : s.fails = []) (hg : ¬ ((o.what ≠ 4 ∧ goodN o.name = false) ∨ (o.what = 5 ∧ goodN o.to = false))) :
    s.step o = (match atN s.now o.name with
    | none => if o.what = 1 ∨ o.what = 4 then { s with n := s.n + 1 }.act o 0 else ({ s with n := s.n + 1 }, 90)
    | some k => if o.what = 1 then ({ s with n := s.n + 1 }, 91) else { s with n := s.n + 1 }.act o k) := by
  unfold Dk.step
  rw [if_neg (by rw [hd]; simp), if_neg (by unfold Dk.fault; rw [hf]; simp), if_neg hg]
  rfl
theorem stp_down {s : Dk} (o : DOp) (hd : s.down = true) : s.step o = (s, 93) := by unfold Dk.step; rw [if_pos hd]
theorem at_lN : atN lN lgN = some 0 := by decide
theorem at_nil (x : Nm) : atN [] x = none := rfl
theorem e_create (R pw : Int) (n : Nat) (h : (sE R pw n).down = false) : (sE R pw n).step ⟨1, lgN, [], []⟩ = (sC R pw (n + 1), 0) := by
  rw [stp _ h rfl (by decide)]; rfl
theorem c_sync (R pw : Int) (n : Nat) (h : (sC R pw n).down = false) : (sC R pw n).step ⟨3, lgN, [], []⟩ = (sC R pw (n + 1), 0) := by
  rw [stp _ h rfl (by decide)]; rfl
theorem c_names (R pw : Int) (n : Nat) (h : (sC R pw n).down = false) : (sC R pw n).step ⟨4, [], [], []⟩ = (sL R pw (n + 1) [] 0, 0) := by
  rw [stp _ h rfl (by decide)]; rfl
theorem l_sync (R pw : Int) (n : Nat) (bs : List UInt8) (f : Nat) (h : (sL R pw n bs f).down = false) : (sL R pw n bs f).step ⟨3, lgN, [], []⟩ = (sL R pw (n + 1) bs bs.length, 0) := by
  rw [stp _ h rfl (by decide)]; rfl
theorem l_app (R pw : Int) (n : Nat) (bs : List UInt8) (f : Nat) (d : List UInt8) (h : (sL R pw n bs f).down = false) :
    (sL R pw n bs f).step ⟨2, lgN, [], d⟩ = if d ≠ [] ∧ R < ((bs.length + d.length : Nat) : Int) then (sL R pw (n + 1) bs f, 92) else (sL R pw (n + 1) (bs ++ d) f, 0) := by
  rw [stp _ h rfl (by simp [lgN]; decide)]
  show (if _ then _ else _) = _
  rfl
/-- the log's states while it lives: bytes of records T, all but for the last ones safe -/
structure Lif (T : RL) (bs : List UInt8) (f fm : Nat) : Prop where
  stops : Stops bs T.length
  all : atR bs T.length = bs.length
  rep : repR bs T.length = T
  fmL : fm ≤ T.length
  firm : atR bs fm ≤ f
  len : bs.length ≤ 4111 * T.length
theorem lif_nil : Lif [] [] 0 0 where
  stops := ⟨fun i hi => absurd hi (by simp), fun h => h.1 rfl⟩
  all := rfl
  rep := rfl
  fmL := Nat.le_refl _
  firm := Nat.le_refl _
  len := Nat.zero_le _
theorem lif_app {T : RL} {bs : List UInt8} {f fm : Nat} (h : Lif T bs f fm) {op no : Int} {id x : List UInt8} (he : encOf (T.length : Int) op no id = (x, 0)) : Lif (T ++ [((T.length : Int), op, no, id)]) (bs ++ x) f fm := by
  have hm := stops_more h.stops he
  have ht : bs.take (atR bs T.length) = bs := by rw [h.all, List.take_length]
  rw [ht] at hm
  have hl : (T ++ [((T.length : Int), op, no, id)]).length = T.length + 1 := by simp
  have hb := sound_behind h.stops.1 x fm h.fmL
  rw [ht] at hb
  obtain ⟨_, _, _, g4, g5⟩ := enc_inv he
  have hx : x.length ≤ 4111 := by rw [g5, recL_len]; omega
  refine ⟨by rw [hl]; exact hm.1, by rw [hl, hm.2.1, h.all, List.length_append], by rw [hl, hm.2.2, h.rep], by rw [hl]; have := h.fmL; omega, by rw [hb.1]; exact h.firm, ?_⟩
  rw [hl, List.length_append]
  have := h.len
  omega
theorem lif_sync {T : RL} {bs : List UInt8} {f fm : Nat} (h : Lif T bs f fm) : Lif T bs bs.length T.length := ⟨h.stops, h.all, h.rep, Nat.le_refl _, by rw [h.all]; exact Nat.le_refl _, h.len⟩
/-- of a beginning of a log's bytes a beginning of its records is read -/
theorem cut_rep {bs : List UInt8} {L fm j : Nat} (h : Stops bs L) (ha : atR bs L = bs.length) (hf : fm ≤ L) (hj : atR bs fm ≤ j) : ∃ K, fm ≤ K ∧ K ≤ L ∧ Stops (bs.take j) K ∧ repR (bs.take j) K = (repR bs L).take K := by
  have hex : ∃ K, K ≤ L ∧ atR bs K ≤ j ∧ (K = L ∨ j < atR bs (K + 1)) := by
    have key : ∀ M, M ≤ L → ∃ K, K ≤ L ∧ atR bs K ≤ j ∧ (K = L ∨ j < atR bs (K + 1)) ∨ atR bs M ≤ j := by
      intro M
      induction M with
      | zero => intro _; exact ⟨0, .inr (Nat.zero_le _)⟩
      | succ M ih =>
        intro hM
        obtain ⟨K, h1 | h1⟩ := ih (by omega)
        · exact ⟨K, .inl h1⟩
        · by_cases h2 : atR bs (M + 1) ≤ j
          · exact ⟨0, .inr h2⟩
          · exact ⟨M, .inl ⟨by omega, h1, .inr (by omega)⟩⟩
    obtain ⟨K, h1 | h1⟩ := key L (Nat.le_refl _)
    · exact ⟨K, h1⟩
    · exact ⟨L, Nat.le_refl _, h1, .inl rfl⟩
  obtain ⟨K, hK, hKj, hend⟩ := hex
  have hfK : fm ≤ K := by
    rcases Nat.lt_or_ge K fm with h1 | h1
    · rcases hend with h2 | h2
      · omega
      · have := atR_mono bs (show K + 1 ≤ fm by omega)
        omega
    · exact h1
  have hok : ∀ i, i < K → okR bs i := fun i hi => h.1 i (by omega)
  have hsp : bs.take j = bs.take (atR bs K) ++ (bs.drop (atR bs K)).take (j - atR bs K) := by
    conv => lhs; rw [show j = atR bs K + (j - atR bs K) by omega]
    rw [List.take_add]
  refine ⟨K, hfK, hK, ?_, ?_⟩
  · rw [hsp]
    refine ⟨sound_ok hok _, fun hh => ?_⟩
    have hn := hh.1
    rw [sound_next hok] at hn
    apply hn
    rcases hend with h2 | h2
    · rw [h2, ha, List.drop_length, List.take_nil, dec_nil]; rfl
    · have hm : (recR bs K).n ≠ 0 := by
        rw [atR_succ] at h2
        omega
      obtain ⟨p1, p2, _⟩ := dec_plain _ hm
      obtain ⟨g1, g2, g3, g4, g5⟩ := enc_inv p1
      rw [atR_succ] at h2
      have hl : (recR bs K).n = (recR bs K).id.length + 15 := by have := dec_n _ hm; unfold recR at this ⊢; omega
      have e : (bs.drop (atR bs K)).take (j - atR bs K) = ((bs.drop (atR bs K)).take (recR bs K).n).take (j - atR bs K) := by rw [List.take_take, Nat.min_eq_left (by omega)]
      rw [e]
      unfold recR at hl h2 ⊢
      rw [g5, dec_cut _ _ _ _ (by omega) g4 _ (by omega)]
      rfl
  · rw [hsp]
    obtain ⟨_, h2⟩ := sound_behind hok ((bs.drop (atR bs K)).take (j - atR bs K)) K (Nat.le_refl _)
    rw [repR_congr h2]
    unfold repR
    rw [← List.map_take, List.take_range, Nat.min_eq_left hK]
end Go.Proofs.YtijnjgnckipghaaGreat
namespace Go.Proofs.YtijnjgnckipghaaGreat
theorem remU_no {st : LSt} (h : nwN ∉ st.1.list) : remU st = (st, 0) := by unfold remU; rw [if_neg h]
theorem open_two {RD : LSt → (LSt × Int) × RL} {s : Dk} (h : nwN ∉ s.list) : openT RD s = stepBo RD ((s, 0), []) := by
  unfold openT
  have e : stepA remU ((s, 0), []) = (((s, 0), []), 0) := by unfold stepA; rw [remU_no h]
  rw [runT_ok (by rw [e]), e]
  dsimp only
  by_cases hz : (stepBo RD ((s, 0), [])).2 = 0
  · rw [runT_ok hz, runT_nil]
    conv => rhs; rw [← Prod.eta (stepBo RD ((s, 0), []))]
    rw [hz]
  · rw [runT_bad hz]
theorem e_list (R pw : Int) (n : Nat) : nwN ∉ (sE R pw n).list := by
  unfold Dk.list
  split
  · simp
  · simp [sE]
theorem l_list (R pw : Int) (n : Nat) (bs : List UInt8) (f : Nat) : nwN ∉ (sL R pw n bs f).list := by
  unfold Dk.list
  split
  · simp
  · show nwN ∉ [lgN]; decide
/-- the log of a new disk: begun, or the power went -/
theorem open_fresh (R pw : Int) (n : Nat) : ((openT rdT (sE R pw n)).2 = 0 ∧ (openT rdT (sE R pw n)).1.2 = [] ∧ (openT rdT (sE R pw n)).1.1.1 = sL R pw (n + 3) [] 0) ∨ ((openT rdT (sE R pw n)).2 ≠ 0 ∧ (openT rdT (sE R pw n)).1.2 = [] ∧ ((openT rdT (sE R pw n)).1.1.1 = sE R pw n ∨ ∃ k, (openT rdT (sE R pw n)).1.1.1 = sC R pw k)) := by
  rw [open_two (e_list R pw n)]
  unfold stepBo
  dsimp only
  by_cases hd : (sE R pw n).down = true
  · have hr : (sE R pw n).read lgN = ([], 93) := by unfold Dk.read; rw [if_pos hd]
    have e : rdT (sE R pw n, 0) = (((sE R pw n, 0), 93), []) := by
      unfold rdT; dsimp only; rw [hr, if_neg (by decide), if_pos (by decide)]
    rw [e]
    exact .inr ⟨by simp, rfl, .inl rfl⟩
  · rw [Bool.not_eq_true] at hd
    have hr : ((sE R pw n).read lgN).2 = 90 := by unfold Dk.read; rw [if_neg (by rw [hd]; simp), if_neg (by decide)]; rfl
    have e : rdT (sE R pw n, 0) = (beginT (sE R pw n, 0), []) := by unfold rdT; rw [if_pos hr]
    rw [e]
    dsimp only
    unfold beginT
    have e1 : opT ⟨1, lgN, [], []⟩ (sE R pw n, 0) = ((sC R pw (n + 1), 0), 0) := by unfold opT; dsimp only; rw [e_create R pw n hd]
    rw [runT_ok (by rw [e1]), e1]
    dsimp only
    by_cases h2 : (sC R pw (n + 1)).down = true
    · have e2 : opT ⟨3, lgN, [], []⟩ (sC R pw (n + 1), 0) = ((sC R pw (n + 1), 0), 93) := by unfold opT; dsimp only; rw [stp_down _ h2]
      rw [runT_bad (by rw [e2]; simp), e2]
      exact .inr ⟨by simp, rfl, .inr ⟨_, rfl⟩⟩
    · rw [Bool.not_eq_true] at h2
      have e2 : opT ⟨3, lgN, [], []⟩ (sC R pw (n + 1), 0) = ((sC R pw (n + 1 + 1), 0), 0) := by unfold opT; dsimp only; rw [c_sync R pw _ h2]
      rw [runT_ok (by rw [e2]), e2]
      dsimp only
      by_cases h3 : (sC R pw (n + 1 + 1)).down = true
      · have e3 : opT ⟨4, [], [], []⟩ (sC R pw (n + 1 + 1), 0) = ((sC R pw (n + 1 + 1), 0), 93) := by unfold opT; dsimp only; rw [stp_down _ h3]
        rw [runT_bad (by rw [e3]; simp), e3]
        exact .inr ⟨by simp, rfl, .inr ⟨_, rfl⟩⟩
      · rw [Bool.not_eq_true] at h3
        have e3 : opT ⟨4, [], [], []⟩ (sC R pw (n + 1 + 1), 0) = ((sL R pw (n + 1 + 1 + 1) [] 0, 0), 0) := by unfold opT; dsimp only; rw [c_names R pw _ h3]
        rw [runT_ok (by rw [e3]), e3, runT_nil]
        exact .inl ⟨rfl, rfl, rfl⟩
/-- what an Add does -/
theorem add_step {T : RL} {bs : List UInt8} {f fm : Nat} (h : Lif T bs f fm) (R pw : Int) (n : Nat) (op no : Int) (id : List UInt8) :
    ((addT op no id (sL R pw n bs f, (T.length : Int))).2 ≠ 0 ∧ (addT op no id (sL R pw n bs f, (T.length : Int))).2 ≠ 93 ∧ ∃ k, (addT op no id (sL R pw n bs f, (T.length : Int))).1 = (sL R pw k bs f, (T.length : Int))) ∨
    ((addT op no id (sL R pw n bs f, (T.length : Int))).2 = 93 ∧ ∃ k, (addT op no id (sL R pw n bs f, (T.length : Int))).1 = (sL R pw k bs f, (T.length : Int))) ∨
    ((addT op no id (sL R pw n bs f, (T.length : Int))).2 = 93 ∧ ∃ k x, (addT op no id (sL R pw n bs f, (T.length : Int))).1 = (sL R pw k (bs ++ x) f, (T.length : Int) + 1) ∧ Lif (T ++ [((T.length : Int), op, no, id)]) (bs ++ x) f fm) ∨
    ((addT op no id (sL R pw n bs f, (T.length : Int))).2 = 0 ∧ ∃ k x, (addT op no id (sL R pw n bs f, (T.length : Int))).1 = (sL R pw k (bs ++ x) (bs ++ x).length, (T.length : Int) + 1) ∧ Lif (T ++ [((T.length : Int), op, no, id)]) (bs ++ x) (bs ++ x).length (T.length + 1)) := by
  by_cases hz : (encOf (T.length : Int) op no id).2 = 0
  · obtain ⟨x, hx⟩ : ∃ x, x = (encOf (T.length : Int) op no id).1 := ⟨_, rfl⟩
    have he : encOf (T.length : Int) op no id = (x, 0) := by rw [hx, ← hz]
    have ea : addT op no id (sL R pw n bs f, (T.length : Int)) = addR x (sL R pw n bs f, (T.length : Int)) := by unfold addT; dsimp only; rw [if_pos hz, ← hx]
    rw [ea]
    unfold addR
    dsimp only
    by_cases hd : (sL R pw n bs f).down = true
    · have e1 : opT ⟨2, lgN, [], x⟩ (sL R pw n bs f, (T.length : Int)) = ((sL R pw n bs f, (T.length : Int)), 93) := by unfold opT; dsimp only; rw [stp_down _ hd]
      rw [runT_bad (by rw [e1]; simp), e1]
      exact .inr (.inl ⟨rfl, _, rfl⟩)
    · rw [Bool.not_eq_true] at hd
      by_cases hr : x ≠ [] ∧ R < ((bs.length + x.length : Nat) : Int)
      · have e1 : opT ⟨2, lgN, [], x⟩ (sL R pw n bs f, (T.length : Int)) = ((sL R pw (n + 1) bs f, (T.length : Int)), 92) := by unfold opT; dsimp only; rw [l_app R pw n bs f x hd, if_pos hr]
        rw [runT_bad (by rw [e1]; simp), e1]
        exact .inl ⟨by simp, by simp, _, rfl⟩
      · have e1 : opT ⟨2, lgN, [], x⟩ (sL R pw n bs f, (T.length : Int)) = ((sL R pw (n + 1) (bs ++ x) f, (T.length : Int)), 0) := by unfold opT; dsimp only; rw [l_app R pw n bs f x hd, if_neg hr]
        rw [runT_ok (by rw [e1]), e1]
        dsimp only
        rw [runT_ok (by rfl)]
        show _ ∨ _ ∨ _ ∨ _
        have hl := lif_app h he
        by_cases h2 : (sL R pw (n + 1) (bs ++ x) f).down = true
        · have e2 : opT ⟨3, lgN, [], []⟩ (setT ((T.length : Int) + 1) (sL R pw (n + 1) (bs ++ x) f, (T.length : Int))).1 = ((sL R pw (n + 1) (bs ++ x) f, (T.length : Int) + 1), 93) := by unfold opT setT; dsimp only; rw [stp_down _ h2]
          rw [runT_bad (by rw [e2]; simp), e2]
          exact .inr (.inr (.inl ⟨rfl, _, x, rfl, hl⟩))
        · rw [Bool.not_eq_true] at h2
          have e2 : opT ⟨3, lgN, [], []⟩ (setT ((T.length : Int) + 1) (sL R pw (n + 1) (bs ++ x) f, (T.length : Int))).1 = ((sL R pw (n + 1 + 1) (bs ++ x) (bs ++ x).length, (T.length : Int) + 1), 0) := by unfold opT setT; dsimp only; rw [l_sync R pw _ _ _ h2]
          rw [runT_ok (by rw [e2]), e2, runT_nil]
          refine .inr (.inr (.inr ⟨rfl, _, x, rfl, ?_⟩))
          have := lif_sync hl
          rw [show (T ++ [((T.length : Int), op, no, id)]).length = T.length + 1 by simp] at this
          exact this
  · have ea : addT op no id (sL R pw n bs f, (T.length : Int)) = ((sL R pw n bs f, (T.length : Int)), (encOf (T.length : Int) op no id).2) := by unfold addT; dsimp only; rw [if_neg hz]
    rw [ea]
    refine .inl ⟨hz, ?_, _, rfl⟩
    show (encOf (T.length : Int) op no id).2 ≠ 93
    unfold encOf
    split
    · split
      · simp
      · simp
    · simp
/-- what is left of a log's disk -/
def Lft (T : RL) (fm : Nat) (fs : FilL) : Prop := (fs = [] ∧ fm = 0) ∨ ∃ p K, fs = [(lgN, p)] ∧ fm ≤ K ∧ K ≤ T.length ∧ Stops p K ∧ repR p K = T.take K ∧ p.length ≤ 4111 * T.length
theorem left_e (R pw : Int) (n : Nat) (k : Int) (keep : List Int) : Lft [] 0 ((sE R pw n).left k keep) := by
  refine .inl ⟨?_, rfl⟩
  unfold Dk.left leftNames
  split
  · rfl
  · rfl
theorem left_c (R pw : Int) (n : Nat) (k : Int) (keep : List Int) : Lft [] 0 ((sC R pw n).left k keep) := by
  unfold Dk.left leftNames
  split
  · exact .inl ⟨rfl, rfl⟩
  · rename_i hk
    rw [if_neg (by simp [sC])]
    have e : (sC R pw n).pend.getD (min k.toNat (sC R pw n).pend.length - 1) [] = lN := by
      have : min k.toNat (sC R pw n).pend.length - 1 = 0 := by show min k.toNat 1 - 1 = 0; omega
      rw [this]; rfl
    rw [e]
    refine .inr ⟨[], 0, ?_, Nat.le_refl _, Nat.le_refl _, lif_nil.stops, rfl, Nat.zero_le _⟩
    show [(lgN, List.take _ [])] = _
    rw [List.take_nil]
theorem left_l {T : RL} {bs : List UInt8} {f fm : Nat} (h : Lif T bs f fm) (R pw : Int) (n : Nat) (k : Int) (keep : List Int) : Lft T fm ((sL R pw n bs f).left k keep) := by
  have e : leftNames (sL R pw n bs f) k = lN := by
    unfold leftNames
    split
    · rfl
    · simp [sL]
  obtain ⟨j, hj⟩ : ∃ j, j = min bs.length (f + (keep.getD 0 0).toNat) := ⟨_, rfl⟩
  obtain ⟨K, h1, h2, h3, h4⟩ := cut_rep (j := j) h.stops h.all h.fmL (by rw [hj]; have := h.firm; have := atR_le bs fm; omega)
  refine .inr ⟨bs.take j, K, ?_, h1, h2, h3, by rw [h4, h.rep], ?_⟩
  · unfold Dk.left
    rw [e]
    show [(lgN, List.take (min bs.length (f + (keep.getD 0 0).toNat)) bs)] = _
    rw [hj]
  · rw [List.length_take]; have := h.len; omega
theorem encG_snoc (rs : RL) (r : Rc) : ∀ i, (encG i rs).2 = 0 → (encOf ((i + rs.length : Nat) : Int) r.2.1 r.2.2.1 r.2.2.2).2 = 0 → encG i (rs ++ [r]) = ((encG i rs).1 ++ (encOf ((i + rs.length : Nat) : Int) r.2.1 r.2.2.1 r.2.2.2).1, 0) := by
  induction rs with
  | nil =>
    intro i _ h
    show (if (encOf (i : Int) r.2.1 r.2.2.1 r.2.2.2).2 = 0 then (if (0 : Int) = 0 then ((encOf (i : Int) r.2.1 r.2.2.1 r.2.2.2).1 ++ [], (0 : Int)) else ([], 0)) else ([], (encOf (i : Int) r.2.1 r.2.2.1 r.2.2.2).2)) = _
    have h' : (encOf (i : Int) r.2.1 r.2.2.1 r.2.2.2).2 = 0 := h
    rw [if_pos h', if_pos rfl, List.append_nil]
    rfl
  | cons q rs ih =>
    intro i h1 h2
    have e1 : (encOf (i : Int) q.2.1 q.2.2.1 q.2.2.2).2 = 0 ∧ (encG (i + 1) rs).2 = 0 := by
      have h3 : (encG i (q :: rs)).2 = (if (encOf (i : Int) q.2.1 q.2.2.1 q.2.2.2).2 = 0 then (if (encG (i + 1) rs).2 = 0 then ((encOf (i : Int) q.2.1 q.2.2.1 q.2.2.2).1 ++ (encG (i + 1) rs).1, (0 : Int)) else ([], (encG (i + 1) rs).2)) else ([], (encOf (i : Int) q.2.1 q.2.2.1 q.2.2.2).2)).2 := rfl
      rw [h3] at h1
      split at h1
      · rename_i ha
        split at h1
        · rename_i hb; exact ⟨ha, hb⟩
        · rename_i hb; exact absurd h1 hb
      · rename_i ha; exact absurd h1 ha
    have e2 := ih (i + 1) e1.2 (by rw [show i + 1 + rs.length = i + (q :: rs).length by simp; omega]; exact h2)
    have e3 : encG i (q :: rs) = ((encOf (i : Int) q.2.1 q.2.2.1 q.2.2.2).1 ++ (encG (i + 1) rs).1, 0) := by
      show (if _ then (if _ then _ else _) else _) = _
      rw [if_pos e1.1, if_pos e1.2]
    have e4 : encG i (q :: rs ++ [r]) = ((encOf (i : Int) q.2.1 q.2.2.1 q.2.2.2).1 ++ (encG (i + 1) (rs ++ [r])).1, 0) := by
      have h0 : (encG (i + 1) (rs ++ [r])).2 = 0 := by rw [e2]
      show (if (encOf (i : Int) q.2.1 q.2.2.1 q.2.2.2).2 = 0 then (if (encG (i + 1) (rs ++ [r])).2 = 0 then ((encOf (i : Int) q.2.1 q.2.2.1 q.2.2.2).1 ++ (encG (i + 1) (rs ++ [r])).1, (0 : Int)) else ([], (encG (i + 1) (rs ++ [r])).2)) else ([], (encOf (i : Int) q.2.1 q.2.2.1 q.2.2.2).2)) = _
      rw [if_pos e1.1, if_pos h0]
    rw [e4, e2, e3, show i + 1 + rs.length = i + (q :: rs).length by simp; omega, List.append_assoc]
/-- what was read is written as the sound part's bytes -/
theorem encG_rep {bs : List UInt8} : ∀ K, (∀ i, i < K → okR bs i) → encG 0 (repR bs K) = (bs.take (atR bs K), 0) := by
  intro K
  induction K with
  | zero => intro _; rfl
  | succ K ih =>
    intro h
    have h1 := ih (fun i hi => h i (by omega))
    obtain ⟨hn, hs⟩ := h K (by omega)
    obtain ⟨p1, p2, _⟩ := dec_plain _ hn
    have e : encOf ((0 + (repR bs K).length : Nat) : Int) (rcOf (recR bs K)).2.1 (rcOf (recR bs K)).2.2.1 (rcOf (recR bs K)).2.2.2 = ((bs.drop (atR bs K)).take (recR bs K).n, 0) := by
      rw [repR_len, Nat.zero_add, show ((K : Nat) : Int) = ((recR bs K).seq : Int) by rw [hs]]; exact p1
    rw [repR_succ, encG_snoc _ _ 0 (by rw [h1]) (by rw [e]), h1, e, atR_succ, List.take_add]
/-- a log that has more than its sound part is rewritten -/
theorem rew_ok {p : List UInt8} {K : Nat} (h : Stops p K) (R : Int) (f : Nat) (hR : ((p.length + p.length : Nat) : Int) ≤ R) : (rewT (repR p K) (sL R (-1) 0 p f, 0)).2 = 0 := by
  have he := encG_rep K h.1
  obtain ⟨d, hd⟩ : ∃ d, d = p.take (atR p K) := ⟨_, rfl⟩
  have hdl : d.length ≤ p.length := by rw [hd, List.length_take]; omega
  rw [← hd] at he
  unfold rewT
  rw [he, if_pos rfl]
  dsimp only
  unfold rewR
  have nd : ∀ s : Dk, s.power = -1 → s.down = false := fun s hs => by unfold Dk.down; rw [hs]; simp
  obtain ⟨s1, h1⟩ : ∃ s1 : Dk, s1 = ⟨[(lgN, 0), (nwN, 1)], lN, [[(lgN, 0), (nwN, 1)]], [p, []], [f, 0], R, [], -1, 1⟩ := ⟨_, rfl⟩
  have e1 : opT ⟨1, nwN, [], []⟩ (sL R (-1) 0 p f, 0) = ((s1, 0), 0) := by
    unfold opT; dsimp only; rw [stp _ (nd _ rfl) rfl (by decide), h1]; rfl
  rw [runT_ok (by rw [e1]), e1]
  dsimp only
  obtain ⟨s2, h2⟩ : ∃ s2 : Dk, s2 = ⟨[(lgN, 0), (nwN, 1)], lN, [[(lgN, 0), (nwN, 1)]], [p, d], [f, 0], R, [], -1, 2⟩ := ⟨_, rfl⟩
  have e2 : opT ⟨2, nwN, [], d⟩ (s1, 0) = ((s2, 0), 0) := by
    unfold opT; dsimp only
    have q : s1.step ⟨2, nwN, [], d⟩ = (s2, 0) := by
      rw [stp _ (nd _ (by rw [h1])) (by rw [h1]) (by simp; decide), h1]
      show (if d ≠ [] ∧ R < ((p.length + (0 + 0) + d.length : Nat) : Int) then _ else _) = _
      rw [if_neg (fun hh => by have := hh.2; omega), h2]
      rfl
    rw [q]
  obtain ⟨s3, h3⟩ : ∃ s3 : Dk, s3 = ⟨[(lgN, 0), (nwN, 1)], lN, [[(lgN, 0), (nwN, 1)]], [p, d], [f, d.length], R, [], -1, 3⟩ := ⟨_, rfl⟩
  have e3 : opT ⟨3, nwN, [], []⟩ (s2, 0) = ((s3, 0), 0) := by
    unfold opT; dsimp only
    have q : s2.step ⟨3, nwN, [], []⟩ = (s3, 0) := by
      rw [stp _ (nd _ (by rw [h2])) (by rw [h2]) (by decide), h2, h3]; rfl
    rw [q]
  obtain ⟨s4, h4⟩ : ∃ s4 : Dk, s4 = ⟨[(lgN, 1)], lN, [[(lgN, 0), (nwN, 1)], [(lgN, 1)]], [p, d], [f, d.length], R, [], -1, 4⟩ := ⟨_, rfl⟩
  have e4 : opT ⟨5, nwN, lgN, []⟩ (s3, 0) = ((s4, 0), 0) := by
    unfold opT; dsimp only
    have q : s3.step ⟨5, nwN, lgN, []⟩ = (s4, 0) := by
      rw [stp _ (nd _ (by rw [h3])) (by rw [h3]) (by decide), h3, h4]; rfl
    rw [q]
  have ef : fillT d (s1, 0) = ((s4, 0), 0) := by
    unfold fillT
    rw [runT_ok (by rw [e2]), e2]
    dsimp only
    rw [runT_ok (by rw [e3]), e3]
    dsimp only
    rw [runT_ok (by rw [e4]), e4, runT_nil]
  have er : replT d (s1, 0) = ((s4, 0), 0) := by unfold replT; rw [ef, if_pos rfl]
  rw [runT_ok (by rw [er]), er]
  dsimp only
  rw [runT_ok (by rfl)]
  have e5 : (opT ⟨4, [], [], []⟩ (setT ((repR p K).length : Int) (s4, 0)).1).2 = 0 := by
    unfold opT setT; dsimp only
    rw [stp _ (nd _ (by rw [h4])) (by rw [h4]) (by decide), h4]; rfl
  rw [runT_ok e5, runT_nil]
/-- the log of what is left -/
theorem open_left {T : RL} {fm : Nat} {fs : FilL} (h : Lft T fm fs) (R : Int) (hR : ((4111 * T.length + 4111 * T.length : Nat) : Int) ≤ R) :
    (openT rdT (newS fs R [] (-1))).2 = 0 ∧ ∃ K, fm ≤ K ∧ K ≤ T.length ∧ (openT rdT (newS fs R [] (-1))).1.2 = T.take K := by
  rcases h with ⟨rfl, rfl⟩ | ⟨p, K, rfl, h1, h2, h3, h4, h5⟩
  · have e : newS [] R [] (-1) = sE R (-1) 0 := rfl
    rw [e]
    rcases open_fresh R (-1) 0 with ⟨g1, g2, _⟩ | ⟨g1, _⟩
    · exact ⟨g1, 0, Nat.le_refl _, Nat.zero_le _, by rw [g2]; rfl⟩
    · exfalso
      apply g1
      rw [open_two (e_list R (-1) 0)]
      rfl
  · have e : newS [(lgN, p)] R [] (-1) = sL R (-1) 0 p p.length := rfl
    rw [e, open_two (l_list _ _ _ _ _)]
    have hr : (sL R (-1) 0 p p.length).read lgN = (p, 0) := rfl
    have hk : sndK p = K := stops_one (sndK_stops p) h3
    unfold stepBo
    dsimp only
    unfold rdT
    dsimp only
    rw [hr, if_neg (by simp), if_neg (by simp)]
    dsimp only
    rw [hk]
    by_cases ha : atR p K = p.length
    · rw [if_pos ha]
      exact ⟨rfl, K, h1, h2, h4⟩
    · rw [if_neg ha]
      exact ⟨rew_ok h3 R p.length (by omega), K, h1, h2, h4⟩
end Go.Proofs.YtijnjgnckipghaaGreat
namespace Go.Proofs.YtijnjgnckipghaaGreat
open Go.RowKit Go.Shelf
theorem row_offS {W W' : World} {base k n : Nat} {t : TypeId} {v : Value} {cs : List Value} {S : Nat → Prop} (h : W.ownsRow base t k v n cs) (ho : Off S W W') (hS : ∀ rb, v.ownBlock = some rb → ¬ S rb) : W'.ownsRow base t k v n cs := by
  obtain ⟨hl, h1 | ⟨g, cap, cur, rfl, hg, hh, hr⟩⟩ := id h
  · exact ⟨hl, .inl h1⟩
  · have hlt := (h.lt g rfl).2
    exact ⟨hl, .inr ⟨g, cap, cur, rfl, hg, by rw [ho.block g hlt (hS g rfl)]; exact hh, hr⟩⟩
structure SvS (w0 : World) (g lb : Nat) (o : Ow) (s : Dk) (c : Int) (tv : Value) (tr : RL) (W : World) : Prop where
  log : LogS o g lb s c W
  own : ∀ k, o.has k → w0.heap.size ≤ k
  lbl : w0.heap.size ≤ lb
  bel : Below w0.heap.size w0 W
  row : W.ownsRow w0.heap.size 53 4 tv tr.length (cellsR tr)
  far : ∀ rb, tv.ownBlock = some rb → o rb = none ∧ rb ≠ lb
theorem sv_grow {w0 : World} {g lb : Nat} {o o' : Ow} {s s' : Dk} {c c' : Int} {tv : Value} {tr : RL} {W W' : World} (h : SvS w0 g lb o s c tv tr W) (hl : LogS o' g lb s' c' W') (hg : GrowL lb o W o' W') : SvS w0 g lb o' s' c' tv tr W' where
  log := hl
  own := fun k hk => by
    rcases hg.new k hk with h1 | h1
    · exact h.own k h1
    · exact Nat.le_trans h.bel.size h1
  lbl := h.lbl
  bel := h.bel.trans (hg.off.below h.bel.size (fun k hk => by
    rcases hk with hk | hk
    · exact h.own k hk
    · rw [hk]; exact h.lbl))
  row := row_offS h.row hg.off (fun rb e hh => by
    obtain ⟨p1, p2⟩ := h.far rb e
    rcases hh with hh | hh
    · exact hh p1
    · exact p2 hh)
  far := fun rb e => ⟨none_grow (h.far rb e).1 (h.row.lt rb e).2 hg.new, (h.far rb e).2⟩
theorem sv_below {w0 : World} {g lb : Nat} {o : Ow} {s : Dk} {c : Int} {tv : Value} {tr : RL} {W W' : World} (h : SvS w0 g lb o s c tv tr W) (hb : Below W.heap.size W W') : SvS w0 g lb o s c tv tr W' := sv_grow h (logS_below h.log hb) (growL_below hb)
/-- one record appended, and where the row lies then -/
theorem appRX {ops : Array Oper} {rest : List Oper} {o : Oper} {a : Act} {Q : Exit → Act → World → Prop} {wr : World} {q0 q1 q2 : Int} {x : ByteArray} {H : Nat} (hgd : o.guard = none) (s z : Operand)
    (ho : o.op = .call { callee := .builtin .append, args := #[s, z], argTypes := #[42, 42] }) {w0 : World} {g lb : Nat} {ow : Ow} {sd : Dk} {c : Int} {v : Value} {ps : RL} (hs : a.eval s = v) (hsv : SvS w0 g lb ow sd c v ps wr)
    (p : Rc) (h0 : q0 = p.1) (h1 : q1 = p.2.1) (h2 : q2 = p.2.2.1) (hx : x = ⟨p.2.2.2.toArray⟩) (hz : a.eval z = .slice (some ⟨H, 0, none⟩) 1 1) (hH : wr.heap.size = H) (hlen : (ps.length + 1) * 40 ≤ 140737488355328)
    (h : ∀ v' w', SvS w0 g lb ow sd c v' (ps ++ [p]) w' → wpList Tryz.prog ops Q rest (a.put o.dst v') w') : wpList Tryz.prog ops Q (o :: rest) a (wr.alloc (.cells #[.int .i64 q0, .int .i64 q1, .int .i64 q2, .string x] 53)) := by
  subst hx h0 h1 h2 hH
  obtain ⟨i0, hi, hz0, hz1, hz2⟩ := info_parts Tryz.info53
  have hb := bel_a wr (.cells #[.int .i64 p.1, .int .i64 p.2.1, .int .i64 p.2.2.1, .string ⟨p.2.2.2.toArray⟩] 53)
  have hv := sv_below hsv hb
  have hsz := hsv.bel.size
  refine wpList_append_own_at _ hgd s z 42 ho w0.heap.size 53 i0 (.agg #[.int .i64 0, .int .i64 0, .int .i64 0, .string ⟨#[]⟩]) 4 40 Tryz.underlying42 hi hz0 hz1 hz2 rfl (by decide) v ps.length (cellsR ps) hs hv.row ⟨wr.heap.size, 0, none⟩ 1 1 (celR p) hz rfl ?_ ?_ ?_ ?_ ?_ ?_
  · intro j u hj
    match j, hj with
    | 0, hj => simp [celR] at hj; subst hj; simp [Addr.add]
    | 1, hj => simp [celR] at hj; subst hj; simp [Addr.add]
    | 2, hj => simp [celR] at hj; subst hj; simp [Addr.add]
    | 3, hj => simp [celR] at hj; subst hj; simp [Addr.add, S]
  · intro u hu; simp [celR] at hu; rcases hu with rfl | rfl | rfl | rfl <;> rfl
  · unfold maxLen; omega
  · omega
  · simp; omega
  · intro v' w' r1 r2 _ r4
    have hoff : Off (fun k => v.ownBlock = some k) (wr.alloc (.cells #[.int .i64 p.1, .int .i64 p.2.1, .int .i64 p.2.2.1, .string ⟨p.2.2.2.toArray⟩] 53)) w' := off_grown r2 (fun k e => e)
    refine h v' w' ⟨⟨dsk_off hv.log.dsk hoff (fun k hk => (hv.far k hk).1), blk_offL hv.log.blk hoff (fun e => (hv.far lb e).2 rfl), hv.log.no⟩, hv.own, hv.lbl, hv.bel.trans (hoff.below hv.bel.size (fun k hk => (hv.row.lt k hk).1)), by rw [cellsR_snoc]; simpa using r1, fun rb e => ?_⟩
    rcases r4 with r4 | r4
    · exact hv.far rb (by rw [← r4]; exact e)
    · rw [r4] at e
      have e' := Option.some.inj e
      exact ⟨none_of_lt (dsk_lt hv.log.dsk) (by omega), by have := hv.log.blk.2; omega⟩
/-- behind the loop: what the disk would leave, what was tried -/
def FinS (w0 : World) (g : Nat) (tv fv : Value) (W : World) : Prop :=
  ∃ (o : Ow) (s : Dk) (T tr : RL) (fm : Nat), fv = .int .i64 (fm : Int) ∧ Dsk o g s W ∧ (∀ k, o.has k → w0.heap.size ≤ k) ∧ Below w0.heap.size w0 W ∧ W.ownsRow w0.heap.size 53 4 tv tr.length (cellsR tr) ∧ Bd 60000000 s ∧ (∀ k keep, Lft T fm (s.left k keep)) ∧ T <+: tr ∧ T.length ≤ 100 ∧ tr.length ≤ 101
theorem takeRx {w : World} {ao : Option Addr} {vl vc : Nat} {rs : RL} (h : HoldsR w (.slice ao vl vc) rs) (k : Nat) (hk : k ≤ rs.length) : (∀ W, Sem.run Tryz.prog (Instr.slice 42 (.slice ao vl vc) none (some (.int .i64 (k : Int))) none) W = .ok (.slice ao k vc) W) ∧ HoldsR w (.slice ao k vc) (rs.take k) := by
  have h' := h
  obtain ⟨ao', cap, e, h0, hc, hcell⟩ := h'
  simp only [Value.slice.injEq] at e
  obtain ⟨rfl, rfl, rfl⟩ := e
  refine ⟨fun W => ?_, ao, vc, by rw [List.length_take, Nat.min_eq_left hk], h0, by rw [List.length_take]; omega, fun hne => ?_⟩
  · have hel : Tryz.prog.elem 42 = 53 := by kernel_rfl
    have hh := run_slice_h (P := Tryz.prog) W 42 ao rs.length vc (by rw [hel]; exact Tryz.underlying42) .i64 k (by omega) (by omega)
    rw [hel, Tryz.sizeOf53] at hh
    simp only [Result.andThen, Int.toNat_natCast, sliced] at hh
    rw [hh]
    by_cases hz : vc = 0
    · subst hz
      obtain rfl : k = 0 := by omega
      cases ao <;> simp
    · simp [Addr.add]
  · obtain ⟨b, off, e1, e2, e3⟩ := hcell (fun e => hne (by rw [e]; simp))
    refine ⟨b, off, e1, e2, fun j hj => ?_⟩
    rw [List.length_take] at hj
    have := e3 j (by omega)
    rw [List.getElem_take]
    exact this
theorem holdsR_row {w : World} {base : Nat} {v : Value} {rs : RL} (h : w.ownsRow base 53 4 v rs.length (cellsR rs)) : HoldsR w v rs := by
  obtain ⟨hl, h1 | ⟨g, cap, cur, rfl, hg, hh, hr⟩⟩ := id h
  · obtain ⟨rfl, hn⟩ := h1
    obtain rfl : rs = [] := List.eq_nil_of_length_eq_zero hn
    exact ⟨none, 0, rfl, fun _ => rfl, Nat.le_refl _, fun h => absurd rfl h⟩
  · refine ⟨_, cap, rfl, fun e => (by cases e), hr.1, fun _ => ⟨g, 0, rfl, (h.lt g rfl).2, fun j hj => ?_⟩⟩
    have c := cellsR_at rs j hj
    unfold RcAt
    rw [Nat.zero_add]
    exact ⟨by rw [h.cellAt (j * 4) (by omega)]; exact c.1, by rw [h.cellAt (j * 4 + 1) (by omega)]; exact c.2.1, by rw [h.cellAt (j * 4 + 2) (by omega)]; exact c.2.2.1, by rw [h.cellAt (j * 4 + 3) (by omega)]; exact c.2.2.2⟩
theorem newE_leftS {s : Dk} (h : Wf s) (k : Int) (keep : List Int) : newE (s.left k keep) 1048576 = 0 := by
  unfold newE
  rw [if_neg (by decide), if_pos (left_ok h k keep)]
theorem lft_bd {T : RL} {fm : Nat} {fs : FilL} (h : Lft T fm fs) (hT : T.length ≤ 100) : fs.length ≤ 411200 ∧ ∀ f ∈ fs, f.1.length ≤ 140737488351232 ∧ f.2.length ≤ 411200 := by
  rcases h with ⟨rfl, _⟩ | ⟨p, K, rfl, _, _, _, _, h5⟩
  · exact ⟨Nat.zero_le _, fun f hf => by cases hf⟩
  · refine ⟨by simp, fun f hf => ?_⟩
    rw [List.mem_singleton.1 hf]
    exact ⟨by show lgN.length ≤ _; decide, by show p.length ≤ _; omega⟩
/-- Open of any disk -/
theorem openL {o : Ow} {g : Nat} {s : Dk} {W : World} (h : Dsk o g s W) (m : Nat) (hB : Bd m s) (hm : m ≤ 1000000) :
    Calls Tryz.prog 7 #[lptr g] W fun e W' => OpPost o g (openT rdT s) W e W' ∧ Bd (15 * m + 200) (openT rdT s).1.1.1 := by
  refine (openC h m (7 * m + 100) hB (by omega) (by omega) rdT (fun lb o' w hl _ => ?_)).mono ?_
  · refine (readG hl (m + 2) (by omega) (remU_bd (st := (s, 0)) hB)).mono ?_
    rintro e W' ⟨p1, p2⟩
    exact ⟨p1, bd_mono p2 (by omega)⟩
  · rintro e W' ⟨p1, p2⟩
    exact ⟨p1, bd_mono p2 (by omega)⟩
end Go.Proofs.YtijnjgnckipghaaGreat
namespace Go.Proofs.YtijnjgnckipghaaGreat
theorem open_ref (s : Dk) : (openT rdT s).2 = (refOpen s).2.2 ∧ (openT rdT s).1.1.1 = (refOpen s).1.1 ∧ ((openT rdT s).2 = 0 → (openT rdT s).1.2 = (refOpen s).2.1 ∧ (refOpen s).1.2 = ((openT rdT s).1.2.length : Int)) := by
  have hc : (remU (s, 0)).1.2 = 0 := by
    unfold remU
    split <;> rfl
  have h0 : (remU (s, 0)).1 = ((remU (s, 0)).1.1, 0) := Prod.ext rfl hc
  obtain ⟨g1, g2, g3⟩ := rd_ref (remU (s, 0)).1.1
  unfold openT refOpen
  by_cases h : (remU (s, 0)).2 = 0
  · rw [if_pos h]
    rw [runT_ok (show (stepA remU ((s, 0), [])).2 = 0 from h)]
    have e1 : (stepA remU ((s, 0), [])).1 = (((remU (s, 0)).1.1, 0), []) := by
      show ((remU (s, 0)).1, ([] : RL)) = _
      rw [h0]
    rw [e1]
    by_cases h2 : (rdT ((remU (s, 0)).1.1, 0)).1.2 = 0
    · rw [runT_ok (show (stepBo rdT (((remU (s, 0)).1.1, 0), [])).2 = 0 from h2), runT_nil]
      refine ⟨by rw [← g1, h2], g2, fun _ => g3 h2⟩
    · rw [runT_bad (show (stepBo rdT (((remU (s, 0)).1.1, 0), [])).2 ≠ 0 from h2)]
      exact ⟨g1, g2, fun e => absurd e h2⟩
  · rw [if_neg h]
    rw [runT_bad (show (stepA remU ((s, 0), [])).2 ≠ 0 from h)]
    exact ⟨rfl, rfl, fun e => absurd e h⟩
end Go.Proofs.YtijnjgnckipghaaGreat
namespace Go.Proofs.YtijnjgnckipghaaGreat
theorem addT_keeps {s : Dk} {c : Int} {m : Nat} (op no : Int) (id : List UInt8) (hw : Wf s) (hb : Bd m s) : Wf (addT op no id (s, c)).1.1 ∧ Bd (m + id.length + 29) (addT op no id (s, c)).1.1 ∧ (addT op no id (s, c)).1.1.fails = s.fails := by
  unfold addT
  split
  · rw [add_ref]
    have h := stps_keeps [(2, lgN, [], (encOf c op no id).1), (3, lgN, [], [])] hw hb
    have hl := enc_len c op no id
    refine ⟨h.1, bd_mono h.2.1 ?_, h.2.2⟩
    simp only [bulkO, lgN, List.length_cons, List.length_nil]
    omega
  · exact ⟨hw, bd_mono hb (by omega), rfl⟩
theorem rewT_keeps {s : Dk} {c : Int} {m : Nat} (rs : RL) (hw : Wf s) (hb : Bd m s) : Wf (rewT rs (s, c)).1.1 ∧ Bd (m + bulkR rs + 60) (rewT rs (s, c)).1.1 ∧ (rewT rs (s, c)).1.1.fails = s.fails := by
  unfold rewT
  split
  · rename_i hz
    rw [rew_ref]
    have h := stps_keeps [(1, nwN, [], []), (2, nwN, [], (encG 0 rs).1), (3, nwN, [], []), (5, nwN, lgN, []), (4, [], [], [])] hw hb
    have hl : (encG 0 rs).1.length ≤ bulkR rs := by
      have := encH_len rs 0 []
      rw [encH_nil _ (encG_bad _ _)] at this
      simpa using this
    have e : stpsT (rewOps (encG 0 rs).1) s = stpsT (opsD [(1, nwN, [], []), (2, nwN, [], (encG 0 rs).1), (3, nwN, [], []), (5, nwN, lgN, []), (4, [], [], [])]) s := rfl
    have hB : Bd (m + bulkR rs + 58) (stpsT (rewOps (encG 0 rs).1) s).1 := by
      rw [e]
      refine bd_mono h.2.1 ?_
      simp only [bulkO, lgN, nwN, List.length_cons, List.length_nil]
      omega
    have hW : Wf (stpsT (rewOps (encG 0 rs).1) s).1 := by rw [e]; exact h.1
    have hF : (stpsT (rewOps (encG 0 rs).1) s).1.fails = s.fails := by rw [e]; exact h.2.2
    unfold refRewR
    dsimp only
    split
    · exact ⟨wf_step hW _, bd_mono (bd_step hB ⟨6, nwN, [], []⟩) (by simp only [List.length_nil]; omega), (step_fails _ _).trans hF⟩
    · exact ⟨hW, bd_mono hB (by omega), hF⟩
  · exact ⟨hw, bd_mono hb (by omega), rfl⟩
theorem refRd_keeps {s : Dk} {m : Nat} (hw : Wf s) (hb : Bd m s) : Wf (refRd s).1.1 ∧ Bd (m + m + 60) (refRd s).1.1 ∧ (refRd s).1.1.fails = s.fails := by
  unfold refRd
  split
  · have h := stps_keeps [(1, lgN, [], []), (3, lgN, [], []), (4, [], [], [])] hw hb
    refine ⟨h.1, bd_mono h.2.1 ?_, h.2.2⟩
    simp only [bulkO, lgN, List.length_cons, List.length_nil]
    omega
  · split
    · exact ⟨hw, bd_mono hb (by omega), rfl⟩
    · have hK := sndK_stops (s.read lgN).1
      have hbk := bulk_rep (sndK (s.read lgN).1) hK.1
      have hal := atR_le (s.read lgN).1 (sndK (s.read lgN).1)
      have hrl := read_len hb lgN
      have h := rewT_keeps (c := (sndK (s.read lgN).1 : Int)) (repR (s.read lgN).1 (sndK (s.read lgN).1)) hw hb
      split
      · split
        · exact ⟨h.1, bd_mono h.2.1 (by omega), h.2.2⟩
        · exact ⟨h.1, bd_mono h.2.1 (by omega), h.2.2⟩
      · exact ⟨hw, bd_mono hb (by omega), rfl⟩
theorem refOpen_keeps {s : Dk} {m : Nat} (hw : Wf s) (hb : Bd m s) : Wf (refOpen s).1.1 ∧ Bd (m + m + 70) (refOpen s).1.1 ∧ (refOpen s).1.1.fails = s.fails := by
  have hr : Wf (remU (s, 0)).1.1 ∧ Bd (m + 2) (remU (s, 0)).1.1 ∧ (remU (s, 0)).1.1.fails = s.fails := by
    unfold remU
    split
    · exact ⟨wf_step hw _, bd_step hb ⟨6, nwN, [], []⟩, step_fails _ _⟩
    · exact ⟨hw, bd_mono hb (by omega), rfl⟩
  unfold refOpen
  split
  · have h := refRd_keeps hr.1 hr.2.1
    exact ⟨h.1, bd_mono h.2.1 (by omega), h.2.2.trans hr.2.2⟩
  · exact ⟨hr.1, bd_mono hr.2.1 (by omega), hr.2.2⟩
end Go.Proofs.YtijnjgnckipghaaGreat
namespace Go.Proofs.YtijnjgnckipghaaGreat
open Go.RowKit
theorem openM {o : Ow} {g : Nat} {s : Dk} {W : World} (h : Dsk o g s W) (m : Nat) (hB : Bd m s) (hm : m ≤ 1100000) :
    Calls Tryz.prog 7 #[lptr g] W fun e W' => OpPost o g (openT rdT s) W e W' := by
  refine (openC h m (7 * m + 100) hB (by omega) (by omega) rdT (fun lb o' w hl _ => ?_)).mono ?_
  · refine (readG hl (m + 2) (by omega) (remU_bd (st := (s, 0)) hB)).mono ?_
    rintro e W' ⟨p1, p2⟩
    exact ⟨p1, bd_mono p2 (by omega)⟩
  · rintro e W' ⟨p1, p2⟩
    exact p1
theorem refRd_none (s : Dk) (h : (refRd s).2.2 ≠ 0) : (refRd s).2.1 = [] := by
  unfold refRd at h ⊢
  split
  · rfl
  · rename_i h1
    rw [if_neg h1] at h
    split
    · rfl
    · rename_i h2
      rw [if_neg h2] at h
      split
      · rename_i h3
        rw [if_pos h3] at h
        split
        · rename_i h4; rw [if_pos h4] at h; exact absurd rfl h
        · rfl
      · rename_i h3
        rw [if_neg h3] at h
        exact absurd rfl h
theorem refOpen_none (s : Dk) (h : (refOpen s).2.2 ≠ 0) : (refOpen s).2.1 = [] := by
  unfold refOpen at h ⊢
  split
  · rename_i h1
    rw [if_pos h1] at h
    exact refRd_none _ h
  · rfl
theorem bulkR_lenX (rs : RL) : rs.length ≤ bulkR rs := by
  induction rs with
  | nil => exact Nat.zero_le _
  | cons r rs ih => simp only [bulkR, List.length_cons]; omega
theorem bulkQ_bulkX (rs : RL) : bulkR rs ≤ 4 * bulkQ rs := by
  induction rs with
  | nil => exact Nat.zero_le _
  | cons r rs ih => simp only [bulkR, bulkQ]; omega
theorem rep_lenX {s : Dk} {m : Nat} (hb : Bd m s) : (repR (s.read lgN).1 (sndK (s.read lgN).1)).length ≤ m := by
  have hK := sndK_stops (s.read lgN).1
  have hbk := bulk_rep (sndK (s.read lgN).1) hK.1
  have hal := atR_le (s.read lgN).1 (sndK (s.read lgN).1)
  have hrl := read_len hb lgN
  have := bulkR_lenX (repR (s.read lgN).1 (sndK (s.read lgN).1))
  omega
theorem refRd_len {s : Dk} {m : Nat} (hb : Bd m s) : (refRd s).2.1.length ≤ m := by
  have h := rep_lenX hb
  unfold refRd
  split
  · exact Nat.zero_le _
  · split
    · exact Nat.zero_le _
    · split
      · split
        · exact h
        · exact Nat.zero_le _
      · exact h
theorem refOpen_len {s : Dk} {m : Nat} (hb : Bd m s) : (refOpen s).2.1.length ≤ m + 2 := by
  unfold refOpen
  split
  · exact refRd_len (remU_bd (st := (s, 0)) hb)
  · exact Nat.zero_le _
/-- one step of the script, in words -/
noncomputable def stZ (x : StT) (st : LSt) : LSt := if 0 < x.2.length then (rewT x.2 st).1 else (addT x.1.2.1 x.1.2.2.1 x.1.2.2.2 st).1
noncomputable def runZ (st : LSt) : List StT → LSt
  | [] => st
  | x :: r => runZ (stZ x st) r
theorem runZ_snoc : ∀ (os : List StT) (st : LSt) (j : Nat) (h : j < os.length), runZ st (os.take (j + 1)) = stZ os[j] (runZ st (os.take j)) := by
  intro os
  induction os with
  | nil => intro st j h; cases h
  | cons x r ih =>
    intro st j h
    cases j with
    | zero => rfl
    | succ j =>
      rw [List.take_succ_cons, List.take_succ_cons]
      exact ih (stZ x st) j (by simpa using h)
theorem stZ_keeps {st : LSt} {m : Nat} (x : StT) (hw : Wf st.1) (hb : Bd m st.1) : Wf (stZ x st).1 ∧ Bd (m + x.1.2.2.2.length + 4 * bulkQ x.2 + 60) (stZ x st).1 ∧ (stZ x st).1.fails = st.1.fails := by
  obtain ⟨s, c⟩ := st
  unfold stZ
  split
  · have h := rewT_keeps (c := c) x.2 hw hb
    have := bulkQ_bulkX x.2
    exact ⟨h.1, bd_mono h.2.1 (by omega), h.2.2⟩
  · have h := addT_keeps (c := c) x.1.2.1 x.1.2.2.1 x.1.2.2.2 hw hb
    exact ⟨h.1, bd_mono h.2.1 (by omega), h.2.2⟩
theorem runZ_keeps : ∀ (os : List StT) {st : LSt} {m : Nat}, Wf st.1 → Bd m st.1 → Wf (runZ st os).1 ∧ Bd (m + 4 * bulkZ os + 60 * os.length) (runZ st os).1 ∧ (runZ st os).1.fails = st.1.fails := by
  intro os
  induction os with
  | nil => intro st m hw hb; exact ⟨hw, hb, rfl⟩
  | cons x r ih =>
    intro st m hw hb
    obtain ⟨h1, h2, h3⟩ := stZ_keeps x hw hb
    obtain ⟨g1, g2, g3⟩ := ih h1 h2
    refine ⟨g1, bd_mono g2 ?_, g3.trans h3⟩
    simp only [bulkZ, List.length_cons]
    omega
theorem bulkZ_take : ∀ (os : List StT) (j : Nat), bulkZ (os.take j) ≤ bulkZ os := by
  intro os
  induction os with
  | nil => intro j; simp [bulkZ]
  | cons x r ih =>
    intro j
    cases j with
    | zero => exact Nat.zero_le _
    | succ j => rw [List.take_succ_cons]; simp only [bulkZ]; have := ih j; omega
/-- the blocks of the log, and the document's log's own -/
def Nq (o : Ow) (lb rb k : Nat) : Prop := o.has k ∨ k = lb ∨ k = rb
structure Sx (o : Ow) (g lb rb : Nat) (vs : List Value) (v : Value) (s : Dk) (c : Int) (t : Dk) (w W : World) : Prop where
  log : LogS o g lb s c W
  own : ∀ k, o.has k → w.heap.size ≤ k
  lo : w.heap.size ≤ lb
  bel : Below w.heap.size w W
  rlo : w.heap.size ≤ rb
  rout : o rb = none
  rne : rb ≠ lb
  blk : Blk rb W vs
  ref : RefS (mask (Nq o lb rb) W) v t
/-- a block that is none of these -/
structure Kz (o : Ow) (lb rb : Nat) (w : World) (b : Nat) (cs : List Value) (W : World) : Prop where
  out : o b = none
  ne : b ≠ lb
  ne2 : b ≠ rb
  lo : w.heap.size ≤ b
  blk : Blk b W cs
section
variable {o o' : Ow} {w W W' : World} {g lb rb b : Nat} {vs us cs : List Value} {v v' : Value} {s s' t t' : Dk} {c c' : Int}
theorem sx_lt (h : Sx o g lb rb vs v s c t w W) : ∀ k, Nq o lb rb k → k < W.heap.size := fun k e => by
  rcases e with e | e | e
  · exact dsk_lt h.log.dsk k e
  · rw [e]; exact h.log.blk.2
  · rw [e]; exact h.blk.2
theorem sx_refS (h : Sx o g lb rb vs v s c t w W) : RefS W v t := refS_sub h.ref (mask_sub _ _)
theorem sx_below (h : Sx o g lb rb vs v s c t w W) (hb : Below W.heap.size W W') : Sx o g lb rb vs v s c t w W' :=
  ⟨logS_below h.log hb, h.own, h.lo, h.bel.trans (hb.mono h.bel.size), h.rlo, h.rout, h.rne, blk_below h.blk hb, refS_sub h.ref (off_mask (S := Nq o lb rb) (S' := Nq o lb rb) (off_of hb) (fun _ e => .inl e))⟩
theorem kz_below (h : Kz o lb rb w b cs W) (hb : Below W.heap.size W W') : Kz o lb rb w b cs W' := ⟨h.out, h.ne, h.ne2, h.lo, blk_below h.blk hb⟩
theorem sx_grow (h : Sx o g lb rb vs v s c t w W) (hl : LogS o' g lb s' c' W') (hg : GrowL lb o W o' W') : Sx o' g lb rb vs v s' c' t w W' := by
  refine ⟨hl, fun k e => (hg.new k e).elim (h.own k) (fun e => Nat.le_trans h.bel.size e), h.lo, h.bel.trans (hg.off.below h.bel.size (fun k e => e.elim (h.own k) (fun e => by rw [e]; exact h.lo))), h.rlo, none_grow h.rout h.blk.2 hg.new, h.rne, blk_offL h.blk hg.off (fun e => e.elim (fun e => e h.rout) h.rne), refS_sub h.ref (off_mask (S := Nq o lb rb) (S' := Nq o' lb rb) (hg.off.mono (fun k e => e.elim .inl (fun e => .inr (.inl e)))) (fun k e => ?_))⟩
  rcases e with e | e | e
  · exact (hg.new k e).elim (fun e => .inl (.inl e)) .inr
  · exact .inl (.inr (.inl e))
  · exact .inl (.inr (.inr e))
theorem kz_grow (h : Kz o lb rb w b cs W) (hg : GrowL lb o W o' W') : Kz o' lb rb w b cs W' := ⟨none_grow h.out h.blk.2 hg.new, h.ne, h.ne2, h.lo, blk_offL h.blk hg.off (fun e => e.elim (fun e => e h.out) h.ne)⟩
theorem sx_ref (h : Sx o g lb rb vs v s c t w W) (hb : Below W.heap.size W W') (hr : RefS (mask (Nq o lb rb) W') v' t') : Sx o g lb rb vs v' s c t' w W' :=
  ⟨logS_below h.log hb, h.own, h.lo, h.bel.trans (hb.mono h.bel.size), h.rlo, h.rout, h.rne, blk_below h.blk hb, hr⟩
theorem sx_put (h : Sx o g lb rb vs v s c t w W) (hu : us.length = vs.length) : Sx o g lb rb us v s c t w (putFrom rb 0 W us) := by
  refine ⟨⟨dsk_off h.log.dsk (off_put (S := fun k => k = rb) rfl us 0 W) (fun k e => by rw [e]; exact h.rout), blk_putX (Ne.symm h.rne) us 0 _ h.log.blk, h.log.no⟩, h.own, h.lo, below_put h.rlo us 0 W h.bel, h.rlo, h.rout, h.rne, ?_, refS_sub h.ref (off_mask (S := Nq o lb rb) (S' := Nq o lb rb) (off_put (.inr (.inr rfl)) us 0 W) (fun _ e => .inl e))⟩
  have := cells_putFrom us 0 W vs h.blk (by omega)
  rw [List.drop_eq_nil_of_le (by omega)] at this
  simpa using this
theorem kz_put (h : Kz o lb rb w b cs W) (us : List Value) : Kz o lb rb w b cs (putFrom rb 0 W us) := ⟨h.out, h.ne, h.ne2, h.lo, blk_putX h.ne2 us 0 _ h.blk⟩
theorem kz_new (h : Sx o g lb rb vs v s c t w W) (hk : Blk W.heap.size W' cs) : Kz o lb rb w W.heap.size cs W' :=
  ⟨by
    cases e : o W.heap.size with
    | none => rfl
    | some r => exact absurd (dsk_lt h.log.dsk _ (has_of e)) (by omega), fun e => by have := h.log.blk.2; omega, fun e => by have := h.blk.2; omega, h.bel.size, hk⟩
/-- the beginning: both are opened, the document's block is laid -/
theorem sx_start (hl : LogS o g lb s c W) (ho : ∀ k, o.has k → w.heap.size ≤ k) (hlo : w.heap.size ≤ lb) (hb : Below w.heap.size w W) (hr : RefS (mask (fun k => o.has k ∨ k = lb) W) v t) (hb' : Below W.heap.size W W') (hk : Blk W.heap.size W' vs) : Sx o g lb W.heap.size vs v s c t w W' :=
  ⟨logS_below hl hb', ho, hlo, hb.trans (hb'.mono hb.size), hb.size, by
    cases e : o W.heap.size with
    | none => rfl
    | some r => exact absurd (dsk_lt hl.dsk _ (has_of e)) (by omega), fun e => by have := hl.blk.2; omega, hk, refS_sub hr (off_mask (S := fun k => o.has k ∨ k = lb) (S' := Nq o lb W.heap.size) (off_of hb') (fun k e => by
      rcases e with e | e | e
      · exact .inl (.inl e)
      · exact .inl (.inr e)
      · exact .inr (by omega)))⟩
theorem kz_start (hn : o b = none) (hne : b ≠ lb) (hlo : w.heap.size ≤ b) (hk : Blk b W cs) (hb' : Below W.heap.size W W') : Kz o lb W.heap.size w b cs W' := ⟨hn, hne, fun e => by have := hk.2; omega, hlo, blk_below hk hb'⟩
end
end Go.Proofs.YtijnjgnckipghaaGreat
namespace Go.Proofs.YtijnjgnckipghaaGreat
open Go.RowKit
theorem openX {o : Ow} {g : Nat} {s : Dk} {W : World} (h : Dsk o g s W) (m : Nat) (hB : Bd m s) (hm : m ≤ 1100000) {S1 : Dk} {c1 : Int} {L1 : RL} {e1 : Int} (hQ : refOpen s = ((S1, c1), L1, e1)) :
    Calls Tryz.prog 7 #[lptr g] W fun e W' => (e1 ≠ 0 ∧ e = .returned (.tuple #[.pointer none, .slice none 0 0, .int .i64 e1]) ∧ ∃ o', Dsk o' g S1 W' ∧ Grow o W o' W') ∨ (e1 = 0 ∧ ∃ lb lv o', e = .returned (.tuple #[lptr lb, lv, .int .i64 0]) ∧ LogS o' g lb S1 c1 W' ∧ Grow o W o' W' ∧ W.heap.size ≤ lb ∧ HoldsR W' lv L1) := by
  obtain ⟨p1, p2, p3⟩ := open_ref s
  rw [hQ] at p1 p2 p3
  dsimp only at p1 p2 p3
  refine (openM h m hB hm).mono ?_
  rintro e W' op
  unfold OpPost at op
  rw [p1] at op
  rw [p1] at p3
  obtain ⟨ne, rfl, o', hd, hg⟩ | ⟨ok, lb, lv, o', rfl, hl, hg, hlb, hr⟩ := op
  · rw [p2] at hd
    exact .inl ⟨ne, rfl, o', hd, hg⟩
  · obtain ⟨q1, q2⟩ := p3 ok
    have hr1 := hr.1
    rw [p2, ← q2] at hl
    rw [q1] at hr1
    exact .inr ⟨ok, lb, lv, o', rfl, hl, hg, hlb, hr1⟩
theorem sameRX (va vb : Value) (xs : RL) (w : World) (ha : HoldsR w va xs) (hb : HoldsR w vb xs) (la : xs.length ≤ 1000000000000) :
    Calls Tryz.prog 9 #[va, vb] w fun e w' => e = .returned (.bool true) ∧ Below w.heap.size w w' := by
  refine (sameRC va vb xs xs w ha hb la).mono ?_
  rintro e w' ⟨rfl, n, rfl⟩
  exact ⟨by simp, below_drewN w n⟩
theorem st_slice {w : World} {v : Value} {os : List StT} (h : HoldsSt w v os) : ∃ oa oc, v = .slice oa os.length oc ∧ (0 < os.length → ∃ b off, oa = some ⟨b, off, none⟩) := by
  obtain ⟨ao, cap, rfl, _, _, hc⟩ := h
  refine ⟨ao, cap, rfl, fun hp => ?_⟩
  obtain ⟨b, off, e, _⟩ := hc (fun e => by rw [e] at hp; cases hp)
  exact ⟨b, off, e⟩
theorem st_at {w : World} {b off cap : Nat} {os : List StT} (h : HoldsSt w (.slice (some ⟨b, off, none⟩) os.length cap) os) (j : Nat) (hj : j < os.length) :
    ∃ xa xc, (w.cell? ⟨b, off + j * 5, none⟩ = some (.int .i64 os[j].1.1) ∧ w.cell? ⟨b, off + j * 5 + 1, none⟩ = some (.int .i64 os[j].1.2.1) ∧ w.cell? ⟨b, off + j * 5 + 2, none⟩ = some (.int .i64 os[j].1.2.2.1) ∧ w.cell? ⟨b, off + j * 5 + 3, none⟩ = some (.string ⟨os[j].1.2.2.2.toArray⟩) ∧ w.cell? ⟨b, off + j * 5 + 4, none⟩ = some (.slice xa os[j].2.length xc)) ∧ HoldsR w (.slice xa os[j].2.length xc) os[j].2 := by
  obtain ⟨ao, cap', e, _, _, hc⟩ := h
  obtain ⟨b', off', e2, hlt, hcell⟩ := hc (fun e => by rw [e] at hj; cases hj)
  simp only [Value.slice.injEq] at e
  obtain ⟨rfl, _, rfl⟩ := e
  simp only [Option.some.injEq, Addr.mk.injEq, and_true] at e2
  obtain ⟨rfl, rfl⟩ := e2
  obtain ⟨⟨h1, h2, h3, h4⟩, u, h5, h6⟩ := hcell j hj
  obtain ⟨xa, xc, hu, _⟩ := id h6
  subst hu
  exact ⟨xa, xc, ⟨h1, h2, h3, h4, h5⟩, h6⟩
theorem put_size {b : Nat} : ∀ (us : List Value) (o : Nat) (W : World), W.heap.size ≤ (putFrom b o W us).heap.size := fun us o W => (off_put (S := fun k => k = b) rfl us o W).size
theorem rsd_put {o : Ow} {lb n0 rb : Nat} {v : Value} {rs : RL} {W : World} (h : Rsd o lb n0 v rs W) (hn : rb < n0) (us : List Value) : Rsd o lb n0 v rs (putFrom rb 0 W us) :=
  ⟨holdsR_put h.1 (fun ad n c e => by have := h.2 ad n c e; omega) us, fun ad n c e => by
    obtain ⟨p1, p2, p3, p4⟩ := h.2 ad n c e
    exact ⟨p1, p2, p3, Nat.lt_of_lt_of_le p4 (put_size us 0 W)⟩⟩
theorem rsd_below {o : Ow} {lb n0 : Nat} {v : Value} {rs : RL} {W W' : World} (h : Rsd o lb n0 v rs W) (hb : Below W.heap.size W W') : Rsd o lb n0 v rs W' := rsd_grow h (growL_below hb)
theorem blk_five {b : Nat} {W : World} {v0 v1 v2 v3 v4 : Value} (h : Blk b W [v0, v1, v2, v3, v4]) : W.cell? ⟨b, 0, none⟩ = some v0 ∧ W.cell? ⟨b, 1, none⟩ = some v1 ∧ W.cell? ⟨b, 2, none⟩ = some v2 ∧ W.cell? ⟨b, 3, none⟩ = some v3 ∧ W.cell? ⟨b, 4, none⟩ = some v4 :=
  ⟨(h.1 0 (by simp)).1, (h.1 1 (by simp)).1, (h.1 2 (by simp)).1, (h.1 3 (by simp)).1, (h.1 4 (by simp)).1⟩
/-- both logs, and the fate's block -/
def Lq (g lb rb fb : Nat) (vs cs : List Value) (v : Value) (s : Dk) (c : Int) (t : Dk) (w W : World) : Prop := ∃ o, Sx o g lb rb vs v s c t w W ∧ Kz o lb rb w fb cs W
theorem lq_below {g lb rb fb : Nat} {vs cs : List Value} {v : Value} {s t : Dk} {c : Int} {w W W' : World} (h : Lq g lb rb fb vs cs v s c t w W) (hb : Below W.heap.size W W') : Lq g lb rb fb vs cs v s c t w W' := by
  obtain ⟨o, h1, h2⟩ := h
  exact ⟨o, sx_below h1 hb, kz_below h2 hb⟩
theorem lq_bel {g lb rb fb : Nat} {vs cs : List Value} {v : Value} {s t : Dk} {c : Int} {w W : World} (h : Lq g lb rb fb vs cs v s c t w W) : Below w.heap.size w W := by
  obtain ⟨o, h1, h2⟩ := h
  exact h1.bel
theorem lq_blk {g lb rb fb : Nat} {vs cs : List Value} {v : Value} {s t : Dk} {c : Int} {w W : World} (h : Lq g lb rb fb vs cs v s c t w W) : Blk rb W vs ∧ Blk fb W cs := by
  obtain ⟨o, h1, h2⟩ := h
  exact ⟨h1.blk, h2.blk⟩
end Go.Proofs.YtijnjgnckipghaaGreat
namespace Go.Proofs.YtijnjgnckipghaaGreat
open Go.RowKit
set_option maxRecDepth 20000 in
set_option maxHeartbeats 16000000 in
theorem stepsSW {w : World} {fv zv ov kv : Value} {fs : FL} {fails keep : List Int} {os : List StT} (room power k1 : Int) (hf : HoldsFi w fv fs) (hz : HoldsI w zv fails) (ho : HoldsSt w ov os) (hk : HoldsI w kv keep) (b1 : bulkF fs ≤ 1048576) (b2 : fails.length ≤ 1048576) (b3 : bulkZ os ≤ 1048576) (b4 : keep.length ≤ 1048576)
    (zb : ∀ z ∈ fails, -9223372036854775808 ≤ z ∧ z ≤ 9223372036854775807) (r1 : -9223372036854775808 ≤ k1 ∧ k1 ≤ 9223372036854775807) (kb : ∀ z ∈ keep, -9223372036854775808 ≤ z ∧ z ≤ 9223372036854775807) :
    Calls Tryz.prog 3 #[.agg #[fv, .int .i64 room, zv, .int .i64 power], ov, .agg #[.int .i64 k1, kv]] w fun e w' => e = .returned (.bool true) ∧ Below w.heap.size w w' := by
  obtain ⟨fa, fc, hfv, -⟩ := id hf
  obtain ⟨za, zc, hzv, -⟩ := id hz
  obtain ⟨ka, kc, hkv, -⟩ := id hk
  obtain ⟨oa, oc, hov, -⟩ := st_slice ho
  subst hfv hzv hov hkv
  have HF := hide' hf
  have HZ := hide' hz
  have HO := hide' ho
  have HK := hide' hk
  have B1 := hide' b1
  have B2 := hide' b2
  have B3 := hide' b3
  have B4 := hide' b4
  have ZB := hide' zb
  have R1 := hide' r1
  have KB := hide' kb
  clear hf hz ho hk b1 b2 b3 b4 zb r1 kb
  obtain ⟨nf, hnf⟩ : ∃ n, n = fs.length := ⟨_, rfl⟩
  obtain ⟨nz, hnz⟩ : ∃ n, n = fails.length := ⟨_, rfl⟩
  obtain ⟨no, hno⟩ : ∃ n, n = os.length := ⟨_, rfl⟩
  obtain ⟨nk, hnk⟩ : ∃ n, n = keep.length := ⟨_, rfl⟩
  have ENF := hide' hnf
  have ENZ := hide' hnz
  rw [← hnf] at HF
  rw [← hnz] at HZ
  rw [← hno] at HO
  rw [← hnk] at HK
  rw [← hnf, ← hnz, ← hno, ← hnk]
  clear hnf hnz hno hnk
  have BS : Hid (Blk w.heap.size ((w.alloc (.cells #[.slice fa nf fc, .int .i64 room, .slice za nz zc, .int .i64 power] 25)).alloc (.cells #[.int .i64 k1, .slice ka nk kc] 28)) [.slice fa nf fc, .int .i64 room, .slice za nz zc, .int .i64 power] ∧ Blk (w.heap.size + 1) ((w.alloc (.cells #[.slice fa nf fc, .int .i64 room, .slice za nz zc, .int .i64 power] 25)).alloc (.cells #[.int .i64 k1, .slice ka nk kc] 28)) [.int .i64 k1, .slice ka nk kc] ∧ Below w.heap.size w ((w.alloc (.cells #[.slice fa nf fc, .int .i64 room, .slice za nz zc, .int .i64 power] 25)).alloc (.cells #[.int .i64 k1, .slice ka nk kc] 28))) := by
    have x1 := below_alloc' w (.cells #[.slice fa nf fc, .int .i64 room, .slice za nz zc, .int .i64 power] 25)
    have x2 := below_alloc' (w.alloc (.cells #[.slice fa nf fc, .int .i64 room, .slice za nz zc, .int .i64 power] 25)) (.cells #[.int .i64 k1, .slice ka nk kc] 28)
    have x3 := cells_lit (w.alloc (.cells #[.slice fa nf fc, .int .i64 room, .slice za nz zc, .int .i64 power] 25)) #[.int .i64 k1, .slice ka nk kc] 28
    have z1 : (w.alloc (.cells #[.slice fa nf fc, .int .i64 room, .slice za nz zc, .int .i64 power] 25)).heap.size = w.heap.size + 1 := by simp
    rw [z1] at x3
    exact ⟨blk_below (by simpa using cells_lit w #[.slice fa nf fc, .int .i64 room, .slice za nz zc, .int .i64 power] 25) x2, by simpa using x3, x1.trans (x2.mono x1.size)⟩
  go_enter Tryz.func3, Tryz.ntmps3
  go_wp2_with fail
  generalize ((w.alloc (.cells #[.slice fa nf fc, .int .i64 room, .slice za nz zc, .int .i64 power] 25)).alloc (.cells #[.int .i64 k1, .slice ka nk kc] 28)) = W3 at BS ⊢
  obtain ⟨fb, hfb⟩ : ∃ q, q = w.heap.size + 1 := ⟨_, rfl⟩
  have FBL : Hid (w.heap.size ≤ fb) := by unfold Hid; omega
  rw [← hfb] at BS ⊢
  clear hfb
  refine (aliveL W3).mono ?_
  rintro e w1 ⟨rfl, hb1⟩
  have BS1 : Hid (Blk w.heap.size w1 [.slice fa nf fc, .int .i64 room, .slice za nz zc, .int .i64 power] ∧ Blk fb w1 [.int .i64 k1, .slice ka nk kc] ∧ Below w.heap.size w w1) := ⟨blk_below BS.out.1 hb1, blk_below BS.out.2.1 hb1, BS.out.2.2.trans (hb1.mono BS.out.2.2.size)⟩
  clear hb1 BS
  obtain ⟨⟨x0, x1, x2, x3⟩, _⟩ := cells_4 BS1.out.1
  have CB := begin11C fa fc fs room za zc fails power w1 (by rw [← ENF.out]; exact holdsFi_mono HF.out BS1.out.2.2) (by rw [← ENZ.out]; exact holdsI_mono HZ.out BS1.out.2.2) (fun f h => by have := bulkF_mem fs f h; have := B1.out; omega) (by have := bulkF_len fs; have := B1.out; omega) (by have := B2.out; omega) ZB.out
  rw [← ENF.out, ← ENZ.out] at CB
  replace CB := hide' CB
  go_wp2_with fail
  refine CB.out.mono ?_
  intro e w2 np
  clear x0 x1 x2 x3 CB
  obtain ⟨nb, hor⟩ := np
  have BS2 : Hid (Blk w.heap.size w2 [.slice fa nf fc, .int .i64 room, .slice za nz zc, .int .i64 power] ∧ Blk fb w2 [.int .i64 k1, .slice ka nk kc] ∧ Below w.heap.size w w2) := ⟨blk_below BS1.out.1 nb, blk_below BS1.out.2.1 nb, BS1.out.2.2.trans (nb.mono BS1.out.2.2.size)⟩
  obtain ⟨⟨x0, x1, x2, x3⟩, _⟩ := cells_4 BS2.out.1
  obtain ⟨ne, rfl⟩ | ⟨hne0, g, o, rfl, hD, hO⟩ := hor
  · have CN := hide' (newRC (Sx := fun _ => False) (w := w2) (fun _ e => e.elim) (.slice fa nf fc) fs room (.slice za nz zc) fails power (holdsFi_mono HF.out BS2.out.2.2) (holdsI_sub (no_mask w2) (holdsI_mono HZ.out BS2.out.2.2)) (fun f h => by have := bulkF_mem fs f h; have := B1.out; omega) (by have := bulkF_len fs; have := B1.out; omega))
    have ne' : ((newE fs room) != 0) = true := by simpa using ne
    clear nb
    generalize newE fs room = er at ne ne' CN ⊢
    go_wp2_with fail
    refine CN.out.mono ?_
    rintro e w3 ⟨v0, v1, v2, v3, v4, v5, v6, v7, v8, rfl, hb3, -, hzz⟩
    have hzz := hzz ne
    simp only [List.cons.injEq, and_true] at hzz
    obtain ⟨rfl, rfl, rfl, rfl, rfl, rfl, rfl, rfl, rfl⟩ := hzz
    have NB := hide' (BS2.out.2.2.trans (hb3.mono BS2.out.2.2.size))
    clear hb3 x0 x1 x2 x3 CN
    go_wp2_with fail
    go_ret
    exact ⟨rfl, NB.out.trans ((below_alloc' _ _).mono NB.out.size)⟩
  have CN := hide' (newRC (Sx := o.has) (w := w2) (dsk_lt hD) (.slice fa nf fc) fs room (.slice za nz zc) fails power (holdsFi_mono HF.out BS2.out.2.2) (holdsI_sub (in_sub BS1.out.2.2 nb hO) HZ.out) (fun f h => by have := bulkF_mem fs f h; have := B1.out; omega) (by have := bulkF_len fs; have := B1.out; omega))
  have FO : Hid (o fb = none) := by
    show o fb = none
    cases e : o fb with
    | none => rfl
    | some r => exact absurd (hO _ (has_of e)) (by have := BS1.out.2.1.2; omega)
  have OWN : Hid (∀ k, o.has k → w.heap.size ≤ k) := fun k e => Nat.le_trans BS1.out.2.2.size (hO k e)
  have HD := hide' hD
  have BF2 : Hid (Blk fb w2 [.int .i64 k1, .slice ka nk kc] ∧ Below w.heap.size w w2) := BS2.out.2
  rw [hne0] at CN
  clear hD hO nb hne0 BS1 BS2
  go_wp2_with fail
  refine CN.out.mono ?_
  rintro e w3 ⟨v0, v1, v2, v3, v4, v5, v6, v7, v8, rfl, hb3, hr, -⟩
  obtain ⟨⟨a0, n0, c0⟩, ⟨a1, n1, c1⟩, ⟨a2, n2, c2⟩, ⟨a3, n3, c3⟩, ⟨a4, n4, c4⟩, ⟨a6, n6, c6⟩, ev, hv⟩ := id (hr (by first | rfl | trivial))
  have hr := hr (by first | rfl | trivial)
  unfold stV at ev
  dsimp only at ev
  obtain ⟨rfl, rfl, rfl, rfl, rfl, rfl, rfl, rfl, rfl⟩ := agg9_inj ev
  obtain ⟨S0, hS0⟩ : ∃ S, S = newS fs room fails power := ⟨_, rfl⟩
  rw [← hS0] at hr HD ⊢
  have BD0 : Hid (Bd 1048576 S0) := by
    rw [hS0]
    exact bd_new fs room fails power 1048576 (by have := bulkF_len fs; have := B1.out; omega) (fun f h => by have := bulkF_mem fs f h; have := B1.out; omega)
  have FL0 : Hid (S0.fails.length ≤ 1048576) := by rw [hS0]; exact B2.out
  have WF0 := hide' (dsk_wf HD.out).1
  have ba4 := below_alloc' w3 (.cells #[.slice a0 n0 c0, .slice a1 n1 c1, .slice a2 n2 c2, .slice a3 n3 c3, .slice a4 n4 c4, .int .i64 S0.room, .slice a6 n6 c6, .int .i64 S0.power, .int .i64 (S0.n : Int)] 38)
  have DK4 : Hid (Dsk o g S0 (w3.alloc (.cells #[.slice a0 n0 c0, .slice a1 n1 c1, .slice a2 n2 c2, .slice a3 n3 c3, .slice a4 n4 c4, .int .i64 S0.room, .slice a6 n6 c6, .int .i64 S0.power, .int .i64 (S0.n : Int)] 38))) := dsk_below (dsk_below HD.out hb3) ba4
  have RF4 : Hid (RefS (mask o.has (w3.alloc (.cells #[.slice a0 n0 c0, .slice a1 n1 c1, .slice a2 n2 c2, .slice a3 n3 c3, .slice a4 n4 c4, .int .i64 S0.room, .slice a6 n6 c6, .int .i64 S0.power, .int .i64 (S0.n : Int)] 38))) (.agg #[.slice a0 n0 c0, .slice a1 n1 c1, .slice a2 n2 c2, .slice a3 n3 c3, .slice a4 n4 c4, .int .i64 S0.room, .slice a6 n6 c6, .int .i64 S0.power, .int .i64 (S0.n : Int)]) S0) := refS_sub hr (off_mask (S := o.has) (S' := o.has) (off_of ba4) (fun _ e => .inl e))
  have QB4 : Hid (Blk w3.heap.size (w3.alloc (.cells #[.slice a0 n0 c0, .slice a1 n1 c1, .slice a2 n2 c2, .slice a3 n3 c3, .slice a4 n4 c4, .int .i64 S0.room, .slice a6 n6 c6, .int .i64 S0.power, .int .i64 (S0.n : Int)] 38)) [.slice a0 n0 c0, .slice a1 n1 c1, .slice a2 n2 c2, .slice a3 n3 c3, .slice a4 n4 c4, .int .i64 S0.room, .slice a6 n6 c6, .int .i64 S0.power, .int .i64 (S0.n : Int)]) := hide' (by simpa using cells_lit w3 #[.slice a0 n0 c0, .slice a1 n1 c1, .slice a2 n2 c2, .slice a3 n3 c3, .slice a4 n4 c4, .int .i64 S0.room, .slice a6 n6 c6, .int .i64 S0.power, .int .i64 (S0.n : Int)] 38)
  have QO : Hid (o w3.heap.size = none) := by
    show o w3.heap.size = none
    cases e : o w3.heap.size with
    | none => rfl
    | some r => exact absurd (dsk_lt (dsk_below HD.out hb3) _ (has_of e)) (by omega)
  have BF4 : Hid (Blk fb (w3.alloc (.cells #[.slice a0 n0 c0, .slice a1 n1 c1, .slice a2 n2 c2, .slice a3 n3 c3, .slice a4 n4 c4, .int .i64 S0.room, .slice a6 n6 c6, .int .i64 S0.power, .int .i64 (S0.n : Int)] 38)) [.int .i64 k1, .slice ka nk kc] ∧ Below w.heap.size w (w3.alloc (.cells #[.slice a0 n0 c0, .slice a1 n1 c1, .slice a2 n2 c2, .slice a3 n3 c3, .slice a4 n4 c4, .int .i64 S0.room, .slice a6 n6 c6, .int .i64 S0.power, .int .i64 (S0.n : Int)] 38))) := by
    have b := BF2.out.2.trans (hb3.mono BF2.out.2.size)
    exact ⟨blk_below (blk_below BF2.out.1 hb3) ba4, b.trans (ba4.mono b.size)⟩
  clear hv ev hr hb3 CN x0 x1 x2 x3 ba4 HD BF2 hS0
  obtain ⟨S1, d1, L1, e1, hQ⟩ : ∃ S1 d1 L1 e1, refOpen S0 = ((S1, d1), L1, e1) := ⟨_, _, _, _, rfl⟩
  have CO := hide' (openX DK4.out 1048576 BD0.out (by omega) hQ)
  have KP1 := refOpen_keeps WF0.out BD0.out
  have LN1 := refOpen_len BD0.out
  have NO1 := refOpen_none S0
  rw [hQ] at KP1 LN1 NO1
  dsimp only at KP1 LN1 NO1
  replace KP1 := hide' KP1
  replace LN1 := hide' LN1
  replace NO1 := hide' NO1
  have HQ := hide' hQ
  clear hQ
  go_wp2_with fail
  generalize (w3.alloc (.cells #[.slice a0 n0 c0, .slice a1 n1 c1, .slice a2 n2 c2, .slice a3 n3 c3, .slice a4 n4 c4, .int .i64 S0.room, .slice a6 n6 c6, .int .i64 S0.power, .int .i64 (S0.n : Int)] 38)) = w4 at DK4 RF4 QB4 BF4 CO ⊢
  obtain ⟨q, hq⟩ : ∃ q, q = w3.heap.size := ⟨_, rfl⟩
  rw [← hq] at QB4 QO ⊢
  clear hq
  refine CO.out.mono ?_
  rintro e w5 op
  clear CO
  obtain ⟨ne, rfl, o5, hd5, hg5⟩ | ⟨ok, lb, lv, o5, rfl, hl5, hg5, hlb, hrs⟩ := op
  · have ne' : (e1 != 0) = true := by simpa using ne
    have hlt5 : ∀ k, o5.has k → k < w5.heap.size := dsk_lt hd5
    have hr5 : RefS (mask o5.has w5) (.agg #[.slice a0 n0 c0, .slice a1 n1 c1, .slice a2 n2 c2, .slice a3 n3 c3, .slice a4 n4 c4, .int .i64 S0.room, .slice a6 n6 c6, .int .i64 S0.power, .int .i64 (S0.n : Int)]) S0 := refS_sub RF4.out (off_mask (S := o.has) (S' := o5.has) hg5.off hg5.new)
    obtain ⟨z0, z1, z2, z3, z4, z5, z6, z7, z8⟩ := cells_9 (blk_offL QB4.out hg5.off (fun e => e QO.out))
    have FB5 : Hid (Blk fb w5 [.int .i64 k1, .slice ka nk kc]) := blk_offL BF4.out.1 hg5.off (fun e => e FO.out)
    have FO5 : Hid (o5 fb = none) := none_grow FO.out BF4.out.1.2 hg5.new
    have OW5 : Hid (∀ k, o5.has k → w.heap.size ≤ k) := fun k e => (hg5.new k e).elim (OWN.out k) (fun e => Nat.le_trans BF4.out.2.size e)
    have BW5 : Hid (Below w.heap.size w w5) := BF4.out.2.trans (hg5.off.below BF4.out.2.size (fun k e => OWN.out k e))
    have CR := openRC (S := o5.has) (W0 := w5) hlt5 hr5 WF0.out 1048576 BD0.out (by have := FL0.out; omega) (by omega)
    rw [HQ.out] at CR
    replace CR := hide' CR
    have D5 := hide' hd5
    clear hd5 hg5 hr5 hlt5 RF4 QB4 QO DK4 BF4 FO OWN
    go_wp2_with fail
    refine CR.out.mono ?_
    rintro e w6 ⟨⟨ra0, rn0, rc0⟩, ⟨ra1, rn1, rc1⟩, ⟨ra2, rn2, rc2⟩, ⟨ra3, rn3, rc3⟩, ⟨ra4, rn4, rc4⟩, ⟨ra6, rn6, rc6⟩, s', lw, es', rfl, hlw, hr6, hb6⟩
    dsimp only at *
    replace es' := es'.symm
    subst es'
    have a7 := below_alloc' w6 (.cells #[.slice ra0 rn0 rc0, .slice ra1 rn1 rc1, .slice ra2 rn2 rc2, .slice ra3 rn3 rc3, .slice ra4 rn4 rc4, .int .i64 S1.room, .slice ra6 rn6 rc6, .int .i64 S1.power, .int .i64 (S1.n : Int), .int .i64 d1] 46)
    have k7 : Blk w6.heap.size (w6.alloc (.cells #[.slice ra0 rn0 rc0, .slice ra1 rn1 rc1, .slice ra2 rn2 rc2, .slice ra3 rn3 rc3, .slice ra4 rn4 rc4, .int .i64 S1.room, .slice ra6 rn6 rc6, .int .i64 S1.power, .int .i64 (S1.n : Int), .int .i64 d1] 46)) [.slice ra0 rn0 rc0, .slice ra1 rn1 rc1, .slice ra2 rn2 rc2, .slice ra3 rn3 rc3, .slice ra4 rn4 rc4, .int .i64 S1.room, .slice ra6 rn6 rc6, .int .i64 S1.power, .int .i64 (S1.n : Int), .int .i64 d1] := by simpa using cells_lit w6 #[.slice ra0 rn0 rc0, .slice ra1 rn1 rc1, .slice ra2 rn2 rc2, .slice ra3 rn3 rc3, .slice ra4 rn4 rc4, .int .i64 S1.room, .slice ra6 rn6 rc6, .int .i64 S1.power, .int .i64 (S1.n : Int), .int .i64 d1] 46
    have BW6 := BW5.out.trans (hb6.mono BW5.out.size)
    have HW7 := hide' (holdsR_mono hlw a7)
    have FB7 := hide' (blk_below (blk_below FB5.out hb6) a7)
    have D7 := hide' (dsk_below (dsk_below D5.out hb6) a7)
    have RF7 : Hid (RefS (w6.alloc (.cells #[.slice ra0 rn0 rc0, .slice ra1 rn1 rc1, .slice ra2 rn2 rc2, .slice ra3 rn3 rc3, .slice ra4 rn4 rc4, .int .i64 S1.room, .slice ra6 rn6 rc6, .int .i64 S1.power, .int .i64 (S1.n : Int), .int .i64 d1] 46)) (.agg #[.slice ra0 rn0 rc0, .slice ra1 rn1 rc1, .slice ra2 rn2 rc2, .slice ra3 rn3 rc3, .slice ra4 rn4 rc4, .int .i64 S1.room, .slice ra6 rn6 rc6, .int .i64 S1.power, .int .i64 (S1.n : Int)]) S1) := refS_sub (refS_sub hr6 (mask_sub _ _)) (sub_below a7)
    have BW7 := hide' (BW6.trans (a7.mono BW6.size))
    have K7 := hide' k7
    clear hlw hr6 hb6 a7 k7 BW6 z0 z1 z2 z3 z4 z5 z6 z7 z8 CR
    go_wp2_with fail
    generalize w6.alloc (.cells #[.slice ra0 rn0 rc0, .slice ra1 rn1 rc1, .slice ra2 rn2 rc2, .slice ra3 rn3 rc3, .slice ra4 rn4 rc4, .int .i64 S1.room, .slice ra6 rn6 rc6, .int .i64 S1.power, .int .i64 (S1.n : Int), .int .i64 d1] 46) = w7 at FB7 D7 RF7 BW7 K7 HW7 ⊢
    obtain ⟨rb, hrb⟩ : ∃ q, q = w6.heap.size := ⟨_, rfl⟩
    rw [← hrb] at K7 ⊢
    clear hrb
    refine (sameRX (.slice none 0 0) lw L1 w7 (by rw [NO1.out ne]; exact holdsR_nil _) HW7.out (by have := LN1.out; omega)).mono ?_
    rintro e w8 ⟨rfl, hb8⟩
    have FB8 := hide' (blk_below FB7.out hb8)
    have D8 := hide' (dsk_below D7.out hb8)
    have RF8 := hide' (refS_sub RF7.out (sub_below hb8))
    have BW8 := hide' (BW7.out.trans (hb8.mono BW7.out.size))
    have K8 := hide' (blk_below K7.out hb8)
    have CSM := hide' (sameLC D8.out RF8.out (bd_mono KP1.out.2.1 (by omega)) k1 ka nk kc keep (holdsI_mono HK.out BW8.out) B4.out R1.out KB.out)
    obtain ⟨⟨k0, k1', k2, k3, k4, k5, k6, k7, k8, k9⟩, -⟩ := cells_ten K8.out
    obtain ⟨⟨m0, m1⟩, -⟩ := cells_2 FB8.out
    clear FB7 D7 RF7 BW7 K7 HW7 hb8
    go_wp2_with fail
    refine CSM.out.mono ?_
    rintro e w9 ⟨rfl, hb9⟩
    have BW9 := hide' (BW8.out.trans (hb9.mono BW8.out.size))
    clear CSM hb9 k0 k1' k2 k3 k4 k5 k6 k7 k8 k9 m0 m1 FB8 D8 RF8 BW8 K8
    have C0 := hide' (cut11C (.slice oa no oc) os w9 (holdsSt_mono HO.out BW9.out) (by have := bulkZ_len os; have := B3.out; omega))
    go_wp2_with fail
    refine C0.out.mono ?_
    rintro e w10 ⟨u, rfl, hu, rfl⟩
    have hcut := hu w HO.out
    obtain ⟨ua, uc, huv, hpos⟩ := st_slice hcut
    have CUT := hide' hcut
    clear C0 hu hcut
    subst huv
    obtain ⟨nt, hnt⟩ : ∃ n, n = (os.take 100).length := ⟨_, rfl⟩
    rw [← hnt] at hpos ⊢
    clear CUT hpos hnt
    go_wp2_with fail
    go_loopw [15] (fun i wr => i = .int .i64 0 ∧ Hid (Below w.heap.size w wr)) (fun i _ => 0)
    case atStart => exact ⟨rfl, BW9⟩
    case round =>
      obtain ⟨rfl, BR⟩ := hrel
      by_cases hlt : 0 < nt
      · go_wp2_with fail
        go_ret
        exact ⟨rfl, BR.out⟩
      · obtain rfl : nt = 0 := by omega
        go_wp2_with fail
        go_ret
        exact ⟨rfl, BR.out⟩
  subst ok
  have hlt5 : ∀ k, (o5.has k ∨ k = lb) → k < w5.heap.size := fun k e => e.elim (dsk_lt hl5.dsk k) (fun e => by rw [e]; exact hl5.blk.2)
  have hr5 : RefS (mask (fun k => o5.has k ∨ k = lb) w5) (.agg #[.slice a0 n0 c0, .slice a1 n1 c1, .slice a2 n2 c2, .slice a3 n3 c3, .slice a4 n4 c4, .int .i64 S0.room, .slice a6 n6 c6, .int .i64 S0.power, .int .i64 (S0.n : Int)]) S0 := refS_sub RF4.out (off_mask (S := o.has) (S' := fun k => o5.has k ∨ k = lb) hg5.off (fun k e => e.elim (hg5.new k) (fun e => .inr (by omega))))
  obtain ⟨z0, z1, z2, z3, z4, z5, z6, z7, z8⟩ := cells_9 (blk_offL QB4.out hg5.off (fun e => e QO.out))
  have FB5 : Hid (Blk fb w5 [.int .i64 k1, .slice ka nk kc]) := blk_offL BF4.out.1 hg5.off (fun e => e FO.out)
  have FO5 : Hid (o5 fb = none) := none_grow FO.out BF4.out.1.2 hg5.new
  have OW5 : Hid (∀ k, o5.has k → w.heap.size ≤ k) := fun k e => (hg5.new k e).elim (OWN.out k) (fun e => Nat.le_trans BF4.out.2.size e)
  have BW5 : Hid (Below w.heap.size w w5) := BF4.out.2.trans (hg5.off.below BF4.out.2.size (fun k e => OWN.out k e))
  have LB5 : Hid (w.heap.size ≤ lb ∧ fb ≠ lb) := ⟨Nat.le_trans BF4.out.2.size hlb, fun e => by have := BF4.out.1.2; omega⟩
  have CR := openRC (S := fun k => o5.has k ∨ k = lb) (W0 := w5) hlt5 hr5 WF0.out 1048576 BD0.out (by have := FL0.out; omega) (by omega)
  rw [HQ.out] at CR
  replace CR := hide' CR
  have D5 := hide' hl5
  have R5 := hide' hrs
  clear hl5 hg5 hr5 hlt5 hrs hlb RF4 QB4 QO DK4 BF4 FO OWN
  go_wp2_with fail
  refine CR.out.mono ?_
  rintro e w6 ⟨⟨ra0, rn0, rc0⟩, ⟨ra1, rn1, rc1⟩, ⟨ra2, rn2, rc2⟩, ⟨ra3, rn3, rc3⟩, ⟨ra4, rn4, rc4⟩, ⟨ra6, rn6, rc6⟩, s', lw, es', rfl, hlw, hr6, hb6⟩
  dsimp only at *
  replace es' := es'.symm
  subst es'
  have a7 := below_alloc' w6 (.cells #[.slice ra0 rn0 rc0, .slice ra1 rn1 rc1, .slice ra2 rn2 rc2, .slice ra3 rn3 rc3, .slice ra4 rn4 rc4, .int .i64 S1.room, .slice ra6 rn6 rc6, .int .i64 S1.power, .int .i64 (S1.n : Int), .int .i64 d1] 46)
  have k7 : Blk w6.heap.size (w6.alloc (.cells #[.slice ra0 rn0 rc0, .slice ra1 rn1 rc1, .slice ra2 rn2 rc2, .slice ra3 rn3 rc3, .slice ra4 rn4 rc4, .int .i64 S1.room, .slice ra6 rn6 rc6, .int .i64 S1.power, .int .i64 (S1.n : Int), .int .i64 d1] 46)) [.slice ra0 rn0 rc0, .slice ra1 rn1 rc1, .slice ra2 rn2 rc2, .slice ra3 rn3 rc3, .slice ra4 rn4 rc4, .int .i64 S1.room, .slice ra6 rn6 rc6, .int .i64 S1.power, .int .i64 (S1.n : Int), .int .i64 d1] := by simpa using cells_lit w6 #[.slice ra0 rn0 rc0, .slice ra1 rn1 rc1, .slice ra2 rn2 rc2, .slice ra3 rn3 rc3, .slice ra4 rn4 rc4, .int .i64 S1.room, .slice ra6 rn6 rc6, .int .i64 S1.power, .int .i64 (S1.n : Int), .int .i64 d1] 46
  have BW6 := BW5.out.trans (hb6.mono BW5.out.size)
  have HW7 := hide' (holdsR_mono hlw a7)
  have SX7 := hide' (sx_start (w := w) (logS_below D5.out hb6) OW5.out LB5.out.1 BW6 hr6 a7 k7)
  have KZ7 := hide' (kz_start (w := w) FO5.out LB5.out.2 FBL.out (blk_below FB5.out hb6) a7)
  have R7 := hide' (holdsR_mono (holdsR_mono R5.out hb6) a7)
  clear hlw hr6 hb6 a7 k7 BW6 z0 z1 z2 z3 z4 z5 z6 z7 z8 CR
  go_wp2_with fail
  generalize w6.alloc (.cells #[.slice ra0 rn0 rc0, .slice ra1 rn1 rc1, .slice ra2 rn2 rc2, .slice ra3 rn3 rc3, .slice ra4 rn4 rc4, .int .i64 S1.room, .slice ra6 rn6 rc6, .int .i64 S1.power, .int .i64 (S1.n : Int), .int .i64 d1] 46) = w7 at SX7 KZ7 R7 HW7 ⊢
  obtain ⟨rb, hrb⟩ : ∃ q, q = w6.heap.size := ⟨_, rfl⟩
  rw [← hrb] at SX7 KZ7 ⊢
  clear hrb
  refine (sameRX (lv) lw L1 w7 (R7.out) HW7.out (by have := LN1.out; omega)).mono ?_
  rintro e w8 ⟨rfl, hb8⟩
  have SX8 := hide' (sx_below SX7.out hb8)
  have KZ8 := hide' (kz_below KZ7.out hb8)
  have CSM := hide' (sameLC SX8.out.log.dsk (sx_refS SX8.out) (bd_mono KP1.out.2.1 (by omega)) k1 ka nk kc keep (holdsI_mono HK.out SX8.out.bel) B4.out R1.out KB.out)
  obtain ⟨⟨k0, k1', k2, k3, k4, k5, k6, k7, k8, k9⟩, -⟩ := cells_ten SX8.out.blk
  obtain ⟨⟨m0, m1⟩, -⟩ := cells_2 KZ8.out.blk
  clear SX7 KZ7 R7 HW7 hb8
  go_wp2_with fail
  refine CSM.out.mono ?_
  rintro e w9 ⟨rfl, hb9⟩
  have LQ9 : Hid (Lq g lb rb fb [.slice ra0 rn0 rc0, .slice ra1 rn1 rc1, .slice ra2 rn2 rc2, .slice ra3 rn3 rc3, .slice ra4 rn4 rc4, .int .i64 S1.room, .slice ra6 rn6 rc6, .int .i64 S1.power, .int .i64 (S1.n : Int), .int .i64 d1] [.int .i64 k1, .slice ka nk kc] (.agg #[.slice ra0 rn0 rc0, .slice ra1 rn1 rc1, .slice ra2 rn2 rc2, .slice ra3 rn3 rc3, .slice ra4 rn4 rc4, .int .i64 S1.room, .slice ra6 rn6 rc6, .int .i64 S1.power, .int .i64 (S1.n : Int)]) S1 d1 S1 w w9) := ⟨o5, sx_below SX8.out hb9, kz_below KZ8.out hb9⟩
  clear CSM hb9 k0 k1' k2 k3 k4 k5 k6 k7 k8 k9 m0 m1 SX8 KZ8
  have C0 := hide' (cut11C (.slice oa no oc) os w9 (holdsSt_mono HO.out (lq_bel LQ9.out)) (by have := bulkZ_len os; have := B3.out; omega))
  go_wp2_with fail
  refine C0.out.mono ?_
  rintro e w10 ⟨u, rfl, hu, rfl⟩
  have hcut := hu w HO.out
  obtain ⟨ua, uc, huv, hpos⟩ := st_slice hcut
  have CUT := hide' hcut
  clear C0 hu hcut
  have BT : Hid (bulkZ (os.take 100) ≤ 1048576) := Nat.le_trans (bulkZ_take os 100) B3.out
  have LT : Hid ((os.take 100).length ≤ 100) := by unfold Hid; rw [List.length_take]; omega
  generalize os.take 100 = ot at CUT huv hpos BT LT
  subst huv
  obtain ⟨nt, hnt⟩ : ∃ n, n = ot.length := ⟨_, rfl⟩
  have NT := hide' hnt
  rw [← hnt] at hpos ⊢
  have lnt : nt ≤ 100 := by have := LT.out; omega
  have KPS : Hid (∀ j, Wf (runZ (S1, d1) (ot.take j)).1 ∧ Bd 7000000 (runZ (S1, d1) (ot.take j)).1 ∧ (runZ (S1, d1) (ot.take j)).1.fails.length ≤ 1048576) := fun j => by
    obtain ⟨h1, h2, h3⟩ := runZ_keeps (ot.take j) (st := (S1, d1)) KP1.out.1 KP1.out.2.1
    refine ⟨h1, bd_mono h2 ?_, ?_⟩
    · have := bulkZ_take ot j
      have := BT.out
      have := LT.out
      have : (ot.take j).length ≤ ot.length := by rw [List.length_take]; omega
      omega
    · rw [h3]
      show S1.fails.length ≤ _
      rw [KP1.out.2.2]
      exact FL0.out
  have RUN : Hid (∀ j (h : j < ot.length), runZ (S1, d1) (ot.take (j + 1)) = stZ ot[j] (runZ (S1, d1) (ot.take j))) := fun j h => runZ_snoc ot (S1, d1) j h
  have SD : Hid (∃ (y0 y1 y2 y3 y4 y6 : Sl), Lq g lb rb fb [.slice y0.a y0.n y0.c, .slice y1.a y1.n y1.c, .slice y2.a y2.n y2.c, .slice y3.a y3.n y3.c, .slice y4.a y4.n y4.c, .int .i64 S1.room, .slice y6.a y6.n y6.c, .int .i64 S1.power, .int .i64 (S1.n : Int), .int .i64 d1] [.int .i64 k1, .slice ka nk kc] (.agg #[.slice y0.a y0.n y0.c, .slice y1.a y1.n y1.c, .slice y2.a y2.n y2.c, .slice y3.a y3.n y3.c, .slice y4.a y4.n y4.c, .int .i64 S1.room, .slice y6.a y6.n y6.c, .int .i64 S1.power, .int .i64 (S1.n : Int)]) S1 d1 S1 w w10) := ⟨⟨ra0, rn0, rc0⟩, ⟨ra1, rn1, rc1⟩, ⟨ra2, rn2, rc2⟩, ⟨ra3, rn3, rc3⟩, ⟨ra4, rn4, rc4⟩, ⟨ra6, rn6, rc6⟩, LQ9.out⟩
  clear hnt LQ9
  go_wp2_with fail
  go_loopw [15] (fun i wr => ∃ j : Nat, j ≤ nt ∧ i = .int .i64 j ∧ Hid (∃ (y0 y1 y2 y3 y4 y6 : Sl) (s : Dk) (c : Int), runZ (S1, d1) (ot.take j) = (s, c) ∧ Lq g lb rb fb [.slice y0.a y0.n y0.c, .slice y1.a y1.n y1.c, .slice y2.a y2.n y2.c, .slice y3.a y3.n y3.c, .slice y4.a y4.n y4.c, .int .i64 s.room, .slice y6.a y6.n y6.c, .int .i64 s.power, .int .i64 (s.n : Int), .int .i64 c] [.int .i64 k1, .slice ka nk kc] (.agg #[.slice y0.a y0.n y0.c, .slice y1.a y1.n y1.c, .slice y2.a y2.n y2.c, .slice y3.a y3.n y3.c, .slice y4.a y4.n y4.c, .int .i64 s.room, .slice y6.a y6.n y6.c, .int .i64 s.power, .int .i64 (s.n : Int)]) s c s w wr)) (fun i _ => nt - (intOf i).toNat)
  case atStart =>
    obtain ⟨y0, y1, y2, y3, y4, y6, h⟩ := SD.out
    exact ⟨0, by omega, rfl, ⟨y0, y1, y2, y3, y4, y6, S1, d1, rfl, h⟩⟩
  case round =>
    obtain ⟨j, hj, rfl, HL⟩ := hrel
    by_cases hlt : j < nt
    · have hj' : j < ot.length := by rw [← NT.out]; exact hlt
      obtain ⟨b, off, rfl⟩ := hpos (by omega)
      obtain ⟨⟨ra0, rn0, rc0⟩, ⟨ra1, rn1, rc1⟩, ⟨ra2, rn2, rc2⟩, ⟨ra3, rn3, rc3⟩, ⟨ra4, rn4, rc4⟩, ⟨ra6, rn6, rc6⟩, s, c, hrun, o, hT, hK⟩ := HL.out
      dsimp only at hT
      have hbw : Below w.heap.size w wr := hT.bel
      have CUT' := CUT.out
      rw [← NT.out] at CUT'
      obtain ⟨xa, xc, ⟨q0, q1, q2, q3, q4⟩, hxl⟩ := st_at (by rw [← NT.out]; exact CUT') j hj'
      replace q0 := (hbw.cell (cell_lt q0)).trans q0
      replace q1 := (hbw.cell (cell_lt q1)).trans q1
      replace q2 := (hbw.cell (cell_lt q2)).trans q2
      replace q3 := (hbw.cell (cell_lt q3)).trans q3
      replace q4 := (hbw.cell (cell_lt q4)).trans q4
      have hbo := bulkZ_mem ot _ (List.getElem_mem hj')
      have hbt := BT.out
      have KJ := KPS.out j
      have KJ2 := KPS.out (j + 1)
      have RJ := RUN.out j hj'
      rw [hrun] at KJ RJ
      rw [RJ] at KJ2
      replace KJ := hide' KJ
      replace KJ2 := hide' KJ2
      replace RJ := hide' RJ
      have HXL := hide' hxl
      have LNX : Hid ((ot[j]'hj').1.2.2.2.length + bulkQ (ot[j]'hj').2 ≤ 1048576) := by unfold Hid; omega
      clear hxl hbo hbt hbw HL CUT' hrun
      generalize ot[j]'hj' = x at q0 q1 q2 q3 q4 KJ KJ2 RJ HXL LNX
      obtain ⟨xn, hxn⟩ : ∃ n, n = x.2.length := ⟨_, rfl⟩
      rw [← hxn] at q4 HXL
      have XN := hide' hxn
      clear hxn
      have a7 := below_alloc' wr (.cells #[.int .i64 x.1.1, .int .i64 x.1.2.1, .int .i64 x.1.2.2.1, .string ⟨x.1.2.2.2.toArray⟩, .slice xa xn xc] 55)
      have KX7 : Hid (Kz o lb rb w wr.heap.size [.int .i64 x.1.1, .int .i64 x.1.2.1, .int .i64 x.1.2.2.1, .string ⟨x.1.2.2.2.toArray⟩, .slice xa xn xc] (wr.alloc (.cells #[.int .i64 x.1.1, .int .i64 x.1.2.1, .int .i64 x.1.2.2.1, .string ⟨x.1.2.2.2.toArray⟩, .slice xa xn xc] 55))) := kz_new hT (by simpa using cells_lit wr #[.int .i64 x.1.1, .int .i64 x.1.2.1, .int .i64 x.1.2.2.1, .string ⟨x.1.2.2.2.toArray⟩, .slice xa xn xc] 55)
      have SX7 := hide' (sx_below hT a7)
      have KF7 := hide' (kz_below hK a7)
      clear a7 hT hK
      by_cases hpx : 0 < xn
      · have hpx2 : 0 < x.2.length := by rw [← XN.out]; exact hpx
        have EZ : stZ x (s, c) = (rewT x.2 (s, c)).1 := by unfold stZ; rw [if_pos hpx2]
        have KK := KJ2.out
        rw [EZ] at KK
        have RJ2 := RJ.out
        rw [EZ] at RJ2
        replace KK := hide' KK
        replace RJ2 := hide' RJ2
        clear EZ hpx2 KJ2 RJ
        obtain ⟨g0, g1, g2, g3, g4⟩ := blk_five KX7.out.blk
        obtain ⟨⟨k0, k1', k2, k3, k4, k5, k6, k7, k8, k9⟩, -⟩ := cells_ten SX7.out.blk
        go_wp2_with fail
        clear q0 q1 q2 q3 q4 g0 g1 g2 g3 g4 k0 k1' k2 k3 k4 k5 k6 k7 k8 k9
        generalize wr.alloc (.cells #[.int .i64 x.1.1, .int .i64 x.1.2.1, .int .i64 x.1.2.2.1, .string ⟨x.1.2.2.2.toArray⟩, .slice xa xn xc] 55) = w7 at KX7 SX7 KF7 ⊢
        obtain ⟨xb, hxb⟩ : ∃ q, q = wr.heap.size := ⟨_, rfl⟩
        rw [← hxb] at KX7 ⊢
        clear hxb
        have CC := hide' (copyRC (.slice xa xn xc) x.2 w7 (holdsR_mono HXL.out SX7.out.bel) (by have := bulkQ_len x.2; have := LNX.out; omega))
        refine CC.out.mono ?_
        rintro e w8 ⟨u, rfl, hown⟩
        obtain ⟨ya, yc, hu⟩ := ownR_sl hown
        subst hu
        have RS8 := hide' (rsd_own SX7.out.log hown)
        have RBL : Hid (rb < w7.heap.size) := SX7.out.blk.2
        have SX8 := hide' (sx_below SX7.out hown.2)
        have KF8 := hide' (kz_below KF7.out hown.2)
        have KX8 := hide' (kz_below KX7.out hown.2)
        clear CC hown SX7 KF7 KX7
        rw [← XN.out] at RS8 ⊢
        have CR := hide' (rewRC (S := Nq o lb rb) (sx_lt SX8.out) SX8.out.ref KJ.out.1 7000000 KJ.out.2.1 (by have := KJ.out.2.2; omega) c (.slice xa xn xc) x.2 (holdsR_mono HXL.out SX8.out.bel) (by have := bulkQ_bulkX x.2; have := LNX.out; omega))
        obtain ⟨g0, g1, g2, g3, g4⟩ := blk_five KX8.out.blk
        obtain ⟨⟨k0, k1', k2, k3, k4, k5, k6, k7, k8, k9⟩, -⟩ := cells_ten SX8.out.blk
        go_wp2_with fail
        refine CR.out.mono ?_
        rintro e w9 ⟨⟨ya0, yn0, yc0⟩, ⟨ya1, yn1, yc1⟩, ⟨ya2, yn2, yc2⟩, ⟨ya3, yn3, yc3⟩, ⟨ya4, yn4, yc4⟩, ⟨ya6, yn6, yc6⟩, s', es', rfl, hr9, hb9⟩
        dsimp only at hr9
        obtain ⟨c', hc'⟩ : ∃ c', c' = (rewT x.2 (s, c)).1.2 := ⟨_, rfl⟩
        obtain ⟨er, her⟩ : ∃ er, er = (rewT x.2 (s, c)).2 := ⟨_, rfl⟩
        have ET : Hid ((rewT x.2 (s, c)) = ((s', c'), er)) := Prod.ext (Prod.ext es'.symm hc'.symm) her.symm
        rw [← hc', ← her]
        have KL := KK.out
        rw [ET.out] at KL
        have RL2 := RJ2.out
        rw [ET.out] at RL2
        replace KL := hide' KL
        replace RL2 := hide' RL2
        clear es' hc' her KK RJ2 CR
        clear g0 g1 g2 g3 g4 k0 k1' k2 k3 k4 k5 k6 k7 k8 k9
        have a9 := below_alloc' w9 (.cells #[.slice ya0 yn0 yc0, .slice ya1 yn1 yc1, .slice ya2 yn2 yc2, .slice ya3 yn3 yc3, .slice ya4 yn4 yc4, .int .i64 s'.room, .slice ya6 yn6 yc6, .int .i64 s'.power, .int .i64 (s'.n : Int), .int .i64 c'] 46)
        have SXA := hide' (sx_below (sx_ref SX8.out hb9 hr9) a9)
        have KFA := hide' (kz_below (kz_below KF8.out hb9) a9)
        have KXA := hide' (kz_below (kz_below KX8.out hb9) a9)
        have sxp := sx_put SXA.out (us := [.slice ya0 yn0 yc0, .slice ya1 yn1 yc1, .slice ya2 yn2 yc2, .slice ya3 yn3 yc3, .slice ya4 yn4 yc4, .int .i64 s'.room, .slice ya6 yn6 yc6, .int .i64 s'.power, .int .i64 (s'.n : Int), .int .i64 c']) rfl
        have kfp := kz_put KFA.out [.slice ya0 yn0 yc0, .slice ya1 yn1 yc1, .slice ya2 yn2 yc2, .slice ya3 yn3 yc3, .slice ya4 yn4 yc4, .int .i64 s'.room, .slice ya6 yn6 yc6, .int .i64 s'.power, .int .i64 (s'.n : Int), .int .i64 c']
        have kxp := kz_put KXA.out [.slice ya0 yn0 yc0, .slice ya1 yn1 yc1, .slice ya2 yn2 yc2, .slice ya3 yn3 yc3, .slice ya4 yn4 yc4, .int .i64 s'.room, .slice ya6 yn6 yc6, .int .i64 s'.power, .int .i64 (s'.n : Int), .int .i64 c']
        have rsp := rsd_put (rsd_below (rsd_below RS8.out hb9) a9) RBL.out [.slice ya0 yn0 yc0, .slice ya1 yn1 yc1, .slice ya2 yn2 yc2, .slice ya3 yn3 yc3, .slice ya4 yn4 yc4, .int .i64 s'.room, .slice ya6 yn6 yc6, .int .i64 s'.power, .int .i64 (s'.n : Int), .int .i64 c']
        simp only [putFrom] at sxp kfp kxp rsp
        have SXB := hide' sxp
        have KFB := hide' kfp
        have KXB := hide' kxp
        have RSB := hide' rsp
        obtain ⟨⟨k0, k1', k2, k3, k4, k5, k6, k7, k8, k9⟩, f0, f1, f2, f3, f4, f5, f6, f7, f8, f9⟩ := cells_ten SXA.out.blk
        clear sxp kfp kxp rsp SXA KFA KXA SX8 KF8 KX8 a9 hb9 hr9 RS8
        go_wp2_with fail
        clear k0 k1' k2 k3 k4 k5 k6 k7 k8 k9 f0 f1 f2 f3 f4 f5 f6 f7 f8 f9
        generalize (((((((((((w9.alloc (.cells #[.slice ya0 yn0 yc0, .slice ya1 yn1 yc1, .slice ya2 yn2 yc2, .slice ya3 yn3 yc3, .slice ya4 yn4 yc4, .int .i64 s'.room, .slice ya6 yn6 yc6, .int .i64 s'.power, .int .i64 (s'.n : Int), .int .i64 c'] 46)).setCell ⟨rb, 0, none⟩ (.slice ya0 yn0 yc0)).setCell ⟨rb, 1, none⟩ (.slice ya1 yn1 yc1)).setCell ⟨rb, 2, none⟩ (.slice ya2 yn2 yc2)).setCell ⟨rb, 3, none⟩ (.slice ya3 yn3 yc3)).setCell ⟨rb, 4, none⟩ (.slice ya4 yn4 yc4)).setCell ⟨rb, 5, none⟩ (.int .i64 s'.room)).setCell ⟨rb, 6, none⟩ (.slice ya6 yn6 yc6)).setCell ⟨rb, 7, none⟩ (.int .i64 s'.power)).setCell ⟨rb, 8, none⟩ (.int .i64 (s'.n : Int))).setCell ⟨rb, 9, none⟩ (.int .i64 c')) = wA at SXB KFB KXB RSB ⊢
        have CW := hide' (rewriteC SXB.out.log 7000000 KJ.out.2.1 ya xn yc x.2 RSB.out.1 (by have := bulkQ_bulkX x.2; have := LNX.out; omega))
        refine CW.out.mono ?_
        rintro e wB ⟨⟨rfl, o', hl', hg'⟩, -⟩
        rw [ET.out] at hl' ⊢
        dsimp only at hl' ⊢
        have SXC := hide' (sx_grow SXB.out hl' hg')
        have KFC := hide' (kz_grow KFB.out hg')
        have KXC := hide' (kz_grow KXB.out hg')
        have RSC := hide' (rsd_grow RSB.out hg')
        clear CW hl' hg' SXB KFB KXB RSB
        obtain ⟨g0, g1, g2, g3, g4⟩ := blk_five KXC.out.blk
        have CS := hide' (sameRX (.slice ya xn yc) (.slice xa xn xc) x.2 wB RSC.out.1 (holdsR_mono HXL.out SXC.out.bel) (by have := bulkQ_len x.2; have := LNX.out; omega))
        go_wp2_with fail
        refine CS.out.mono ?_
        rintro e wC ⟨rfl, hbC⟩
        have RX : Hid (Lq g lb rb fb [.slice ya0 yn0 yc0, .slice ya1 yn1 yc1, .slice ya2 yn2 yc2, .slice ya3 yn3 yc3, .slice ya4 yn4 yc4, .int .i64 s'.room, .slice ya6 yn6 yc6, .int .i64 s'.power, .int .i64 (s'.n : Int), .int .i64 c'] [.int .i64 k1, .slice ka nk kc] (.agg #[.slice ya0 yn0 yc0, .slice ya1 yn1 yc1, .slice ya2 yn2 yc2, .slice ya3 yn3 yc3, .slice ya4 yn4 yc4, .int .i64 s'.room, .slice ya6 yn6 yc6, .int .i64 s'.power, .int .i64 (s'.n : Int)]) s' c' s' w wC) := ⟨o', sx_below SXC.out hbC, kz_below KFC.out hbC⟩
        clear CS hbC SXC KFC KXC RSC g0 g1 g2 g3 g4
        go_wp2_with fail
        have CEL : Hid (∀ Wx, Lq g lb rb fb [.slice ya0 yn0 yc0, .slice ya1 yn1 yc1, .slice ya2 yn2 yc2, .slice ya3 yn3 yc3, .slice ya4 yn4 yc4, .int .i64 s'.room, .slice ya6 yn6 yc6, .int .i64 s'.power, .int .i64 (s'.n : Int), .int .i64 c'] [.int .i64 k1, .slice ka nk kc] (.agg #[.slice ya0 yn0 yc0, .slice ya1 yn1 yc1, .slice ya2 yn2 yc2, .slice ya3 yn3 yc3, .slice ya4 yn4 yc4, .int .i64 s'.room, .slice ya6 yn6 yc6, .int .i64 s'.power, .int .i64 (s'.n : Int)]) s' c' s' w Wx → (Wx.cell? ⟨rb, 0, none⟩ = some (.slice ya0 yn0 yc0) ∧ Wx.cell? ⟨rb, 1, none⟩ = some (.slice ya1 yn1 yc1) ∧ Wx.cell? ⟨rb, 2, none⟩ = some (.slice ya2 yn2 yc2) ∧ Wx.cell? ⟨rb, 3, none⟩ = some (.slice ya3 yn3 yc3) ∧ Wx.cell? ⟨rb, 4, none⟩ = some (.slice ya4 yn4 yc4) ∧ Wx.cell? ⟨rb, 5, none⟩ = some (.int .i64 s'.room) ∧ Wx.cell? ⟨rb, 6, none⟩ = some (.slice ya6 yn6 yc6) ∧ Wx.cell? ⟨rb, 7, none⟩ = some (.int .i64 s'.power) ∧ Wx.cell? ⟨rb, 8, none⟩ = some (.int .i64 (s'.n : Int)) ∧ Wx.cell? ⟨rb, 9, none⟩ = some (.int .i64 c')) ∧ (Wx.cell? ⟨fb, 0, none⟩ = some (.int .i64 k1) ∧ Wx.cell? ⟨fb, 1, none⟩ = some (.slice ka nk kc))) := fun Wx h => ⟨(cells_ten (lq_blk h).1).1, (cells_2 (lq_blk h).2).1⟩
        have C1 : Hid (∀ Wx, Hid (Lq g lb rb fb [.slice ya0 yn0 yc0, .slice ya1 yn1 yc1, .slice ya2 yn2 yc2, .slice ya3 yn3 yc3, .slice ya4 yn4 yc4, .int .i64 s'.room, .slice ya6 yn6 yc6, .int .i64 s'.power, .int .i64 (s'.n : Int), .int .i64 c'] [.int .i64 k1, .slice ka nk kc] (.agg #[.slice ya0 yn0 yc0, .slice ya1 yn1 yc1, .slice ya2 yn2 yc2, .slice ya3 yn3 yc3, .slice ya4 yn4 yc4, .int .i64 s'.room, .slice ya6 yn6 yc6, .int .i64 s'.power, .int .i64 (s'.n : Int)]) s' c' s' w Wx) → Calls Tryz.prog 17 #[lptr lb] Wx fun e w' => e = .returned (.int .i64 c') ∧ Hid (Lq g lb rb fb [.slice ya0 yn0 yc0, .slice ya1 yn1 yc1, .slice ya2 yn2 yc2, .slice ya3 yn3 yc3, .slice ya4 yn4 yc4, .int .i64 s'.room, .slice ya6 yn6 yc6, .int .i64 s'.power, .int .i64 (s'.n : Int), .int .i64 c'] [.int .i64 k1, .slice ka nk kc] (.agg #[.slice ya0 yn0 yc0, .slice ya1 yn1 yc1, .slice ya2 yn2 yc2, .slice ya3 yn3 yc3, .slice ya4 yn4 yc4, .int .i64 s'.room, .slice ya6 yn6 yc6, .int .i64 s'.power, .int .i64 (s'.n : Int)]) s' c' s' w w') ∧ (w'.cell? ⟨rb, 0, none⟩ = some (.slice ya0 yn0 yc0) ∧ w'.cell? ⟨rb, 1, none⟩ = some (.slice ya1 yn1 yc1) ∧ w'.cell? ⟨rb, 2, none⟩ = some (.slice ya2 yn2 yc2) ∧ w'.cell? ⟨rb, 3, none⟩ = some (.slice ya3 yn3 yc3) ∧ w'.cell? ⟨rb, 4, none⟩ = some (.slice ya4 yn4 yc4) ∧ w'.cell? ⟨rb, 5, none⟩ = some (.int .i64 s'.room) ∧ w'.cell? ⟨rb, 6, none⟩ = some (.slice ya6 yn6 yc6) ∧ w'.cell? ⟨rb, 7, none⟩ = some (.int .i64 s'.power) ∧ w'.cell? ⟨rb, 8, none⟩ = some (.int .i64 (s'.n : Int)) ∧ w'.cell? ⟨rb, 9, none⟩ = some (.int .i64 c')) ∧ (w'.cell? ⟨fb, 0, none⟩ = some (.int .i64 k1) ∧ w'.cell? ⟨fb, 1, none⟩ = some (.slice ka nk kc))) := fun Wx h => by
          obtain ⟨o2, h1, h2⟩ := id h.out
          refine (countL h1.log).mono ?_
          rintro e w' ⟨rfl, rfl⟩
          exact ⟨rfl, h, CEL.out _ h.out⟩
        have C2 : Hid (∀ Wx, Hid (Lq g lb rb fb [.slice ya0 yn0 yc0, .slice ya1 yn1 yc1, .slice ya2 yn2 yc2, .slice ya3 yn3 yc3, .slice ya4 yn4 yc4, .int .i64 s'.room, .slice ya6 yn6 yc6, .int .i64 s'.power, .int .i64 (s'.n : Int), .int .i64 c'] [.int .i64 k1, .slice ka nk kc] (.agg #[.slice ya0 yn0 yc0, .slice ya1 yn1 yc1, .slice ya2 yn2 yc2, .slice ya3 yn3 yc3, .slice ya4 yn4 yc4, .int .i64 s'.room, .slice ya6 yn6 yc6, .int .i64 s'.power, .int .i64 (s'.n : Int)]) s' c' s' w Wx) → Calls Tryz.prog 10 #[.pointer (some ⟨g, 0, none⟩), .agg #[.slice ya0 yn0 yc0, .slice ya1 yn1 yc1, .slice ya2 yn2 yc2, .slice ya3 yn3 yc3, .slice ya4 yn4 yc4, .int .i64 s'.room, .slice ya6 yn6 yc6, .int .i64 s'.power, .int .i64 (s'.n : Int)], .agg #[.int .i64 k1, .slice ka nk kc]] Wx fun e w' => e = .returned (.bool true) ∧ Hid (Lq g lb rb fb [.slice ya0 yn0 yc0, .slice ya1 yn1 yc1, .slice ya2 yn2 yc2, .slice ya3 yn3 yc3, .slice ya4 yn4 yc4, .int .i64 s'.room, .slice ya6 yn6 yc6, .int .i64 s'.power, .int .i64 (s'.n : Int), .int .i64 c'] [.int .i64 k1, .slice ka nk kc] (.agg #[.slice ya0 yn0 yc0, .slice ya1 yn1 yc1, .slice ya2 yn2 yc2, .slice ya3 yn3 yc3, .slice ya4 yn4 yc4, .int .i64 s'.room, .slice ya6 yn6 yc6, .int .i64 s'.power, .int .i64 (s'.n : Int)]) s' c' s' w w') ∧ (w'.cell? ⟨rb, 0, none⟩ = some (.slice ya0 yn0 yc0) ∧ w'.cell? ⟨rb, 1, none⟩ = some (.slice ya1 yn1 yc1) ∧ w'.cell? ⟨rb, 2, none⟩ = some (.slice ya2 yn2 yc2) ∧ w'.cell? ⟨rb, 3, none⟩ = some (.slice ya3 yn3 yc3) ∧ w'.cell? ⟨rb, 4, none⟩ = some (.slice ya4 yn4 yc4) ∧ w'.cell? ⟨rb, 5, none⟩ = some (.int .i64 s'.room) ∧ w'.cell? ⟨rb, 6, none⟩ = some (.slice ya6 yn6 yc6) ∧ w'.cell? ⟨rb, 7, none⟩ = some (.int .i64 s'.power) ∧ w'.cell? ⟨rb, 8, none⟩ = some (.int .i64 (s'.n : Int)) ∧ w'.cell? ⟨rb, 9, none⟩ = some (.int .i64 c')) ∧ (w'.cell? ⟨fb, 0, none⟩ = some (.int .i64 k1) ∧ w'.cell? ⟨fb, 1, none⟩ = some (.slice ka nk kc))) := fun Wx h => by
          obtain ⟨o2, h1, h2⟩ := id h.out
          refine (sameLC h1.log.dsk (sx_refS h1) (bd_mono KL.out.2.1 (by omega)) k1 ka nk kc keep (holdsI_mono HK.out h1.bel) B4.out R1.out KB.out).mono ?_
          rintro e w' ⟨rfl, hb⟩
          have h' := lq_below h.out hb
          exact ⟨rfl, h', CEL.out _ h'⟩
        obtain ⟨⟨k0, k1', k2, k3, k4, k5, k6, k7, k8, k9⟩, ⟨m0, m1⟩⟩ := CEL.out _ RX.out
        clear CEL
        go_region_held3 (fun w' => w'.cell? ⟨rb, 0, none⟩ = some (.slice ya0 yn0 yc0) ∧ w'.cell? ⟨rb, 1, none⟩ = some (.slice ya1 yn1 yc1) ∧ w'.cell? ⟨rb, 2, none⟩ = some (.slice ya2 yn2 yc2) ∧ w'.cell? ⟨rb, 3, none⟩ = some (.slice ya3 yn3 yc3) ∧ w'.cell? ⟨rb, 4, none⟩ = some (.slice ya4 yn4 yc4) ∧ w'.cell? ⟨rb, 5, none⟩ = some (.int .i64 s'.room) ∧ w'.cell? ⟨rb, 6, none⟩ = some (.slice ya6 yn6 yc6) ∧ w'.cell? ⟨rb, 7, none⟩ = some (.int .i64 s'.power) ∧ w'.cell? ⟨rb, 8, none⟩ = some (.int .i64 (s'.n : Int)) ∧ w'.cell? ⟨rb, 9, none⟩ = some (.int .i64 c') ∧ w'.cell? ⟨fb, 0, none⟩ = some (.int .i64 k1) ∧ w'.cell? ⟨fb, 1, none⟩ = some (.slice ka nk kc)) (go_keep)
          (first
            | (go_at_call 17; refine (C1.out _ ?_).mono ?_; (first | exact RX | exact hide' (lq_below RX.out (Below.refl _ _).drew)); rintro e wD ⟨rfl, HD1, ⟨⟨k0, k1', k2, k3, k4, k5, k6, k7, k8, k9⟩, ⟨m0, m1⟩⟩⟩)
            | (go_at_call 10; refine (C2.out _ HD1).mono ?_; rintro e wE ⟨rfl, HD2, ⟨⟨k0, k1', k2, k3, k4, k5, k6, k7, k8, k9⟩, ⟨m0, m1⟩⟩⟩))
        all_goals
          go_wp2_with fail
          go_roundw
          case rel =>
            exact ⟨j + 1, by omega, by go_num, ⟨⟨ya0, yn0, yc0⟩, ⟨ya1, yn1, yc1⟩, ⟨ya2, yn2, yc2⟩, ⟨ya3, yn3, yc3⟩, ⟨ya4, yn4, yc4⟩, ⟨ya6, yn6, yc6⟩, s', c', RL2.out, HD2.out⟩⟩
          case measure => simp [intOf]; omega
      · have hpx2 : ¬ 0 < x.2.length := by rw [← XN.out]; exact hpx
        obtain rfl : xn = 0 := by omega
        have EZ : stZ x (s, c) = (addT x.1.2.1 x.1.2.2.1 x.1.2.2.2 (s, c)).1 := by unfold stZ; rw [if_neg hpx2]
        have KK := KJ2.out
        rw [EZ] at KK
        have RJ2 := RJ.out
        rw [EZ] at RJ2
        replace KK := hide' KK
        replace RJ2 := hide' RJ2
        clear EZ hpx2 KJ2 RJ
        obtain ⟨g0, g1, g2, g3, g4⟩ := blk_five KX7.out.blk
        obtain ⟨⟨k0, k1', k2, k3, k4, k5, k6, k7, k8, k9⟩, -⟩ := cells_ten SX7.out.blk
        go_wp2_with fail
        clear q0 q1 q2 q3 q4 g0 g1 g2 g3 g4 k0 k1' k2 k3 k4 k5 k6 k7 k8 k9
        generalize wr.alloc (.cells #[.int .i64 x.1.1, .int .i64 x.1.2.1, .int .i64 x.1.2.2.1, .string ⟨x.1.2.2.2.toArray⟩, .slice xa 0 xc] 55) = w7 at KX7 SX7 KF7 ⊢
        obtain ⟨xb, hxb⟩ : ∃ q, q = wr.heap.size := ⟨_, rfl⟩
        rw [← hxb] at KX7 ⊢
        clear hxb
        have SX8 := SX7
        have KF8 := KF7
        have KX8 := KX7
        clear SX7 KF7 KX7
        have CR := hide' (addRC (S := Nq o lb rb) (sx_lt SX8.out) SX8.out.ref KJ.out.1 7000000 KJ.out.2.1 (by have := KJ.out.2.2; omega) c x.1.2.1 x.1.2.2.1 x.1.2.2.2 (by have := LNX.out; omega) (by omega))
        refine CR.out.mono ?_
        rintro e w9 ⟨⟨ya0, yn0, yc0⟩, ⟨ya1, yn1, yc1⟩, ⟨ya2, yn2, yc2⟩, ⟨ya3, yn3, yc3⟩, ⟨ya4, yn4, yc4⟩, ⟨ya6, yn6, yc6⟩, s', es', rfl, hr9, hb9⟩
        dsimp only at hr9
        obtain ⟨c', hc'⟩ : ∃ c', c' = (addT x.1.2.1 x.1.2.2.1 x.1.2.2.2 (s, c)).1.2 := ⟨_, rfl⟩
        obtain ⟨er, her⟩ : ∃ er, er = (addT x.1.2.1 x.1.2.2.1 x.1.2.2.2 (s, c)).2 := ⟨_, rfl⟩
        have ET : Hid ((addT x.1.2.1 x.1.2.2.1 x.1.2.2.2 (s, c)) = ((s', c'), er)) := Prod.ext (Prod.ext es'.symm hc'.symm) her.symm
        rw [← hc', ← her]
        have KL := KK.out
        rw [ET.out] at KL
        have RL2 := RJ2.out
        rw [ET.out] at RL2
        replace KL := hide' KL
        replace RL2 := hide' RL2
        clear es' hc' her KK RJ2 CR
        have a9 := below_alloc' w9 (.cells #[.slice ya0 yn0 yc0, .slice ya1 yn1 yc1, .slice ya2 yn2 yc2, .slice ya3 yn3 yc3, .slice ya4 yn4 yc4, .int .i64 s'.room, .slice ya6 yn6 yc6, .int .i64 s'.power, .int .i64 (s'.n : Int), .int .i64 c'] 46)
        have SXA := hide' (sx_below (sx_ref SX8.out hb9 hr9) a9)
        have KFA := hide' (kz_below (kz_below KF8.out hb9) a9)
        have KXA := hide' (kz_below (kz_below KX8.out hb9) a9)
        have sxp := sx_put SXA.out (us := [.slice ya0 yn0 yc0, .slice ya1 yn1 yc1, .slice ya2 yn2 yc2, .slice ya3 yn3 yc3, .slice ya4 yn4 yc4, .int .i64 s'.room, .slice ya6 yn6 yc6, .int .i64 s'.power, .int .i64 (s'.n : Int), .int .i64 c']) rfl
        have kfp := kz_put KFA.out [.slice ya0 yn0 yc0, .slice ya1 yn1 yc1, .slice ya2 yn2 yc2, .slice ya3 yn3 yc3, .slice ya4 yn4 yc4, .int .i64 s'.room, .slice ya6 yn6 yc6, .int .i64 s'.power, .int .i64 (s'.n : Int), .int .i64 c']
        have kxp := kz_put KXA.out [.slice ya0 yn0 yc0, .slice ya1 yn1 yc1, .slice ya2 yn2 yc2, .slice ya3 yn3 yc3, .slice ya4 yn4 yc4, .int .i64 s'.room, .slice ya6 yn6 yc6, .int .i64 s'.power, .int .i64 (s'.n : Int), .int .i64 c']
        simp only [putFrom] at sxp kfp kxp
        have SXB := hide' sxp
        have KFB := hide' kfp
        have KXB := hide' kxp
        obtain ⟨⟨k0, k1', k2, k3, k4, k5, k6, k7, k8, k9⟩, f0, f1, f2, f3, f4, f5, f6, f7, f8, f9⟩ := cells_ten SXA.out.blk
        clear sxp kfp kxp SXA KFA KXA SX8 KF8 KX8 a9 hb9 hr9
        go_upto_region 24 with fail
        clear k0 k1' k2 k3 k4 k5 k6 k7 k8 k9 f0 f1 f2 f3 f4 f5 f6 f7 f8 f9
        generalize (((((((((((w9.alloc (.cells #[.slice ya0 yn0 yc0, .slice ya1 yn1 yc1, .slice ya2 yn2 yc2, .slice ya3 yn3 yc3, .slice ya4 yn4 yc4, .int .i64 s'.room, .slice ya6 yn6 yc6, .int .i64 s'.power, .int .i64 (s'.n : Int), .int .i64 c'] 46)).setCell ⟨rb, 0, none⟩ (.slice ya0 yn0 yc0)).setCell ⟨rb, 1, none⟩ (.slice ya1 yn1 yc1)).setCell ⟨rb, 2, none⟩ (.slice ya2 yn2 yc2)).setCell ⟨rb, 3, none⟩ (.slice ya3 yn3 yc3)).setCell ⟨rb, 4, none⟩ (.slice ya4 yn4 yc4)).setCell ⟨rb, 5, none⟩ (.int .i64 s'.room)).setCell ⟨rb, 6, none⟩ (.slice ya6 yn6 yc6)).setCell ⟨rb, 7, none⟩ (.int .i64 s'.power)).setCell ⟨rb, 8, none⟩ (.int .i64 (s'.n : Int))).setCell ⟨rb, 9, none⟩ (.int .i64 c')) = wA at SXB KFB KXB ⊢
        have CW := hide' (addC SXB.out.log 7000000 KJ.out.2.1 x.1.2.1 x.1.2.2.1 x.1.2.2.2 (by have := LNX.out; omega) (by omega))
        obtain ⟨g0, g1, g2, g3, g4⟩ := blk_five KXB.out.blk
        go_wp2_with fail
        refine CW.out.mono ?_
        rintro e wB ⟨⟨rfl, o', hl', hg'⟩, -⟩
        rw [ET.out] at hl' ⊢
        dsimp only at hl' ⊢
        have SXC := hide' (sx_grow SXB.out hl' hg')
        have KFC := hide' (kz_grow KFB.out hg')
        have KXC := hide' (kz_grow KXB.out hg')
        clear CW hl' hg' SXB KFB KXB g0 g1 g2 g3 g4
        have RX : Hid (Lq g lb rb fb [.slice ya0 yn0 yc0, .slice ya1 yn1 yc1, .slice ya2 yn2 yc2, .slice ya3 yn3 yc3, .slice ya4 yn4 yc4, .int .i64 s'.room, .slice ya6 yn6 yc6, .int .i64 s'.power, .int .i64 (s'.n : Int), .int .i64 c'] [.int .i64 k1, .slice ka nk kc] (.agg #[.slice ya0 yn0 yc0, .slice ya1 yn1 yc1, .slice ya2 yn2 yc2, .slice ya3 yn3 yc3, .slice ya4 yn4 yc4, .int .i64 s'.room, .slice ya6 yn6 yc6, .int .i64 s'.power, .int .i64 (s'.n : Int)]) s' c' s' w wB) := ⟨o', SXC.out, KFC.out⟩
        clear SXC KFC KXC
        go_wp2_with fail
        have CEL : Hid (∀ Wx, Lq g lb rb fb [.slice ya0 yn0 yc0, .slice ya1 yn1 yc1, .slice ya2 yn2 yc2, .slice ya3 yn3 yc3, .slice ya4 yn4 yc4, .int .i64 s'.room, .slice ya6 yn6 yc6, .int .i64 s'.power, .int .i64 (s'.n : Int), .int .i64 c'] [.int .i64 k1, .slice ka nk kc] (.agg #[.slice ya0 yn0 yc0, .slice ya1 yn1 yc1, .slice ya2 yn2 yc2, .slice ya3 yn3 yc3, .slice ya4 yn4 yc4, .int .i64 s'.room, .slice ya6 yn6 yc6, .int .i64 s'.power, .int .i64 (s'.n : Int)]) s' c' s' w Wx → (Wx.cell? ⟨rb, 0, none⟩ = some (.slice ya0 yn0 yc0) ∧ Wx.cell? ⟨rb, 1, none⟩ = some (.slice ya1 yn1 yc1) ∧ Wx.cell? ⟨rb, 2, none⟩ = some (.slice ya2 yn2 yc2) ∧ Wx.cell? ⟨rb, 3, none⟩ = some (.slice ya3 yn3 yc3) ∧ Wx.cell? ⟨rb, 4, none⟩ = some (.slice ya4 yn4 yc4) ∧ Wx.cell? ⟨rb, 5, none⟩ = some (.int .i64 s'.room) ∧ Wx.cell? ⟨rb, 6, none⟩ = some (.slice ya6 yn6 yc6) ∧ Wx.cell? ⟨rb, 7, none⟩ = some (.int .i64 s'.power) ∧ Wx.cell? ⟨rb, 8, none⟩ = some (.int .i64 (s'.n : Int)) ∧ Wx.cell? ⟨rb, 9, none⟩ = some (.int .i64 c')) ∧ (Wx.cell? ⟨fb, 0, none⟩ = some (.int .i64 k1) ∧ Wx.cell? ⟨fb, 1, none⟩ = some (.slice ka nk kc))) := fun Wx h => ⟨(cells_ten (lq_blk h).1).1, (cells_2 (lq_blk h).2).1⟩
        have C1 : Hid (∀ Wx, Hid (Lq g lb rb fb [.slice ya0 yn0 yc0, .slice ya1 yn1 yc1, .slice ya2 yn2 yc2, .slice ya3 yn3 yc3, .slice ya4 yn4 yc4, .int .i64 s'.room, .slice ya6 yn6 yc6, .int .i64 s'.power, .int .i64 (s'.n : Int), .int .i64 c'] [.int .i64 k1, .slice ka nk kc] (.agg #[.slice ya0 yn0 yc0, .slice ya1 yn1 yc1, .slice ya2 yn2 yc2, .slice ya3 yn3 yc3, .slice ya4 yn4 yc4, .int .i64 s'.room, .slice ya6 yn6 yc6, .int .i64 s'.power, .int .i64 (s'.n : Int)]) s' c' s' w Wx) → Calls Tryz.prog 17 #[lptr lb] Wx fun e w' => e = .returned (.int .i64 c') ∧ Hid (Lq g lb rb fb [.slice ya0 yn0 yc0, .slice ya1 yn1 yc1, .slice ya2 yn2 yc2, .slice ya3 yn3 yc3, .slice ya4 yn4 yc4, .int .i64 s'.room, .slice ya6 yn6 yc6, .int .i64 s'.power, .int .i64 (s'.n : Int), .int .i64 c'] [.int .i64 k1, .slice ka nk kc] (.agg #[.slice ya0 yn0 yc0, .slice ya1 yn1 yc1, .slice ya2 yn2 yc2, .slice ya3 yn3 yc3, .slice ya4 yn4 yc4, .int .i64 s'.room, .slice ya6 yn6 yc6, .int .i64 s'.power, .int .i64 (s'.n : Int)]) s' c' s' w w') ∧ (w'.cell? ⟨rb, 0, none⟩ = some (.slice ya0 yn0 yc0) ∧ w'.cell? ⟨rb, 1, none⟩ = some (.slice ya1 yn1 yc1) ∧ w'.cell? ⟨rb, 2, none⟩ = some (.slice ya2 yn2 yc2) ∧ w'.cell? ⟨rb, 3, none⟩ = some (.slice ya3 yn3 yc3) ∧ w'.cell? ⟨rb, 4, none⟩ = some (.slice ya4 yn4 yc4) ∧ w'.cell? ⟨rb, 5, none⟩ = some (.int .i64 s'.room) ∧ w'.cell? ⟨rb, 6, none⟩ = some (.slice ya6 yn6 yc6) ∧ w'.cell? ⟨rb, 7, none⟩ = some (.int .i64 s'.power) ∧ w'.cell? ⟨rb, 8, none⟩ = some (.int .i64 (s'.n : Int)) ∧ w'.cell? ⟨rb, 9, none⟩ = some (.int .i64 c')) ∧ (w'.cell? ⟨fb, 0, none⟩ = some (.int .i64 k1) ∧ w'.cell? ⟨fb, 1, none⟩ = some (.slice ka nk kc))) := fun Wx h => by
          obtain ⟨o2, h1, h2⟩ := id h.out
          refine (countL h1.log).mono ?_
          rintro e w' ⟨rfl, rfl⟩
          exact ⟨rfl, h, CEL.out _ h.out⟩
        have C2 : Hid (∀ Wx, Hid (Lq g lb rb fb [.slice ya0 yn0 yc0, .slice ya1 yn1 yc1, .slice ya2 yn2 yc2, .slice ya3 yn3 yc3, .slice ya4 yn4 yc4, .int .i64 s'.room, .slice ya6 yn6 yc6, .int .i64 s'.power, .int .i64 (s'.n : Int), .int .i64 c'] [.int .i64 k1, .slice ka nk kc] (.agg #[.slice ya0 yn0 yc0, .slice ya1 yn1 yc1, .slice ya2 yn2 yc2, .slice ya3 yn3 yc3, .slice ya4 yn4 yc4, .int .i64 s'.room, .slice ya6 yn6 yc6, .int .i64 s'.power, .int .i64 (s'.n : Int)]) s' c' s' w Wx) → Calls Tryz.prog 10 #[.pointer (some ⟨g, 0, none⟩), .agg #[.slice ya0 yn0 yc0, .slice ya1 yn1 yc1, .slice ya2 yn2 yc2, .slice ya3 yn3 yc3, .slice ya4 yn4 yc4, .int .i64 s'.room, .slice ya6 yn6 yc6, .int .i64 s'.power, .int .i64 (s'.n : Int)], .agg #[.int .i64 k1, .slice ka nk kc]] Wx fun e w' => e = .returned (.bool true) ∧ Hid (Lq g lb rb fb [.slice ya0 yn0 yc0, .slice ya1 yn1 yc1, .slice ya2 yn2 yc2, .slice ya3 yn3 yc3, .slice ya4 yn4 yc4, .int .i64 s'.room, .slice ya6 yn6 yc6, .int .i64 s'.power, .int .i64 (s'.n : Int), .int .i64 c'] [.int .i64 k1, .slice ka nk kc] (.agg #[.slice ya0 yn0 yc0, .slice ya1 yn1 yc1, .slice ya2 yn2 yc2, .slice ya3 yn3 yc3, .slice ya4 yn4 yc4, .int .i64 s'.room, .slice ya6 yn6 yc6, .int .i64 s'.power, .int .i64 (s'.n : Int)]) s' c' s' w w') ∧ (w'.cell? ⟨rb, 0, none⟩ = some (.slice ya0 yn0 yc0) ∧ w'.cell? ⟨rb, 1, none⟩ = some (.slice ya1 yn1 yc1) ∧ w'.cell? ⟨rb, 2, none⟩ = some (.slice ya2 yn2 yc2) ∧ w'.cell? ⟨rb, 3, none⟩ = some (.slice ya3 yn3 yc3) ∧ w'.cell? ⟨rb, 4, none⟩ = some (.slice ya4 yn4 yc4) ∧ w'.cell? ⟨rb, 5, none⟩ = some (.int .i64 s'.room) ∧ w'.cell? ⟨rb, 6, none⟩ = some (.slice ya6 yn6 yc6) ∧ w'.cell? ⟨rb, 7, none⟩ = some (.int .i64 s'.power) ∧ w'.cell? ⟨rb, 8, none⟩ = some (.int .i64 (s'.n : Int)) ∧ w'.cell? ⟨rb, 9, none⟩ = some (.int .i64 c')) ∧ (w'.cell? ⟨fb, 0, none⟩ = some (.int .i64 k1) ∧ w'.cell? ⟨fb, 1, none⟩ = some (.slice ka nk kc))) := fun Wx h => by
          obtain ⟨o2, h1, h2⟩ := id h.out
          refine (sameLC h1.log.dsk (sx_refS h1) (bd_mono KL.out.2.1 (by omega)) k1 ka nk kc keep (holdsI_mono HK.out h1.bel) B4.out R1.out KB.out).mono ?_
          rintro e w' ⟨rfl, hb⟩
          have h' := lq_below h.out hb
          exact ⟨rfl, h', CEL.out _ h'⟩
        obtain ⟨⟨k0, k1', k2, k3, k4, k5, k6, k7, k8, k9⟩, ⟨m0, m1⟩⟩ := CEL.out _ RX.out
        clear CEL
        go_region_held3 (fun w' => w'.cell? ⟨rb, 0, none⟩ = some (.slice ya0 yn0 yc0) ∧ w'.cell? ⟨rb, 1, none⟩ = some (.slice ya1 yn1 yc1) ∧ w'.cell? ⟨rb, 2, none⟩ = some (.slice ya2 yn2 yc2) ∧ w'.cell? ⟨rb, 3, none⟩ = some (.slice ya3 yn3 yc3) ∧ w'.cell? ⟨rb, 4, none⟩ = some (.slice ya4 yn4 yc4) ∧ w'.cell? ⟨rb, 5, none⟩ = some (.int .i64 s'.room) ∧ w'.cell? ⟨rb, 6, none⟩ = some (.slice ya6 yn6 yc6) ∧ w'.cell? ⟨rb, 7, none⟩ = some (.int .i64 s'.power) ∧ w'.cell? ⟨rb, 8, none⟩ = some (.int .i64 (s'.n : Int)) ∧ w'.cell? ⟨rb, 9, none⟩ = some (.int .i64 c') ∧ w'.cell? ⟨fb, 0, none⟩ = some (.int .i64 k1) ∧ w'.cell? ⟨fb, 1, none⟩ = some (.slice ka nk kc)) (go_keep)
          (first
            | (go_at_call 17; refine (C1.out _ ?_).mono ?_; (first | exact RX | exact hide' (lq_below RX.out (Below.refl _ _).drew)); rintro e wD ⟨rfl, HD1, ⟨⟨k0, k1', k2, k3, k4, k5, k6, k7, k8, k9⟩, ⟨m0, m1⟩⟩⟩)
            | (go_at_call 10; refine (C2.out _ HD1).mono ?_; rintro e wE ⟨rfl, HD2, ⟨⟨k0, k1', k2, k3, k4, k5, k6, k7, k8, k9⟩, ⟨m0, m1⟩⟩⟩))
        all_goals
          go_wp2_with fail
          go_roundw
          case rel =>
            exact ⟨j + 1, by omega, by go_num, ⟨⟨ya0, yn0, yc0⟩, ⟨ya1, yn1, yc1⟩, ⟨ya2, yn2, yc2⟩, ⟨ya3, yn3, yc3⟩, ⟨ya4, yn4, yc4⟩, ⟨ya6, yn6, yc6⟩, s', c', RL2.out, HD2.out⟩⟩
          case measure => simp [intOf]; omega
    · obtain ⟨_, _, _, _, _, _, s, c, _, hT⟩ := HL.out
      have NB := hide' (lq_bel hT)
      clear hT
      go_wp2_with fail
      go_ret
      exact ⟨rfl, NB.out⟩
end Go.Proofs.YtijnjgnckipghaaGreat
namespace Go.Proofs.YtijnjgnckipghaaGreat
open Go.ChangeShapes Go.WideShapes Go.ChangeAt Go.RowKit
theorem num_wf {n : Int} (h : (Lit.int .i64 n).wf = true) : -9223372036854775808 ≤ n ∧ n ≤ 9223372036854775807 := i64_wf h
set_option maxRecDepth 100000 in
theorem open_fate {H : Type} {enc : TypeId × Value → H} {W : World} {base : Nat} {v : Value} {d : DataW H} {p : List MemPlace} (hok : Value.okWide Tryz.prog W .any base 28 v) (h : DataW.Trod enc Tryz.prog W 0 (fun _ => true) true 28 v d p) :
    ∃ (k : Int) (kv : Value) (zs : List Int), v = .agg #[.int .i64 k, kv] ∧ HoldsI W kv zs ∧ zs.length + 2 ≤ Rows.uptoBulk d ∧ (-9223372036854775808 ≤ k ∧ k ≤ 9223372036854775807) ∧ ∀ z ∈ zs, -9223372036854775808 ≤ z ∧ z ≤ 9223372036854775807 := by
  obtain ⟨v0, v1, y0, y1, n, rfl, rfl, _, h0, h1⟩ := Joins.open_agg2 Tryz.underlying28 (by kernel_rfl) (by kernel_rfl) hok h
  obtain ⟨k, e0, x0, wf0⟩ := DataW.trod_int Tryz.underlying3 h0
  obtain ⟨a, l, c, e1⟩ := Joins.slice_form Tryz.underlying23 h1
  simp only [List.cons.injEq, and_true] at e0 e1
  subst e0 e1 x0
  obtain ⟨zs, hZ, hzb, hzr⟩ := open_numsS ⟨a, l, c, rfl⟩ (⟨n, h1⟩ : DataW.Trod enc Tryz.prog W 0 (fun _ => true) true 23 (.slice a l c) y1.1 y1.2)
  refine ⟨k, _, zs, rfl, hZ, ?_, num_wf wf0, hzr⟩
  simp only [Rows.uptoBulk, Rows.uptoBulkAll]
  omega
set_option maxRecDepth 100000 in
theorem open_script {H : Type} {enc : TypeId × Value → H} {W : World} {base : Nat} {v : Value} {d : DataW H} {p : List MemPlace} (hok : Value.okWide Tryz.prog W .any base 88 v) (h : DataW.Trod enc Tryz.prog W 0 (fun _ => true) true 88 v d p) :
    ∃ os : List OpT, HoldsO W v os ∧ bulkO os + 1 ≤ Rows.uptoBulk d ∧ ∀ o ∈ os, -9223372036854775808 ≤ o.1 ∧ o.1 ≤ 9223372036854775807 :=
  open_ops Tryz.underlying88 Tryz.underlying83 (by kernel_rfl) rfl rfl rfl rfl rfl rfl rfl rfl (okWide_slice Tryz.underlying88 hok) h
end Go.Proofs.YtijnjgnckipghaaGreat
namespace Go.Proofs.YtijnjgnckipghaaGreat
open Go.ChangeShapes Go.WideShapes Go.ChangeAt Go.RowKit
set_option maxRecDepth 100000 in
theorem open_start11 {H : Type} {enc : TypeId × Value → H} {W : World} {base : Nat} {v : Value} {d : DataW H} {p : List MemPlace} (hok : Value.okWide Tryz.prog W .any base 25 v) (h : DataW.Trod enc Tryz.prog W 0 (fun _ => true) true 25 v d p) :
    ∃ (fv : Value) (fs : FL) (room : Int) (zv : Value) (zs : List Int) (power : Int), v = .agg #[fv, .int .i64 room, zv, .int .i64 power] ∧ HoldsFi W fv fs ∧ HoldsI W zv zs ∧ bulkF fs + zs.length + 4 ≤ Rows.uptoBulk d ∧ (-9223372036854775808 ≤ room ∧ room ≤ 9223372036854775807) ∧ (-9223372036854775808 ≤ power ∧ power ≤ 9223372036854775807) ∧ ∀ z ∈ zs, -9223372036854775808 ≤ z ∧ z ≤ 9223372036854775807 := by
  obtain ⟨v0, v1, v2, v3, y0, y1, y2, y3, n, rfl, rfl, _, h0, h1, h2, h3⟩ := Joins.open_agg4 Tryz.underlying25 (by kernel_rfl) (by kernel_rfl) hok h
  obtain ⟨a, l, c, e0⟩ := Joins.slice_form Tryz.underlying22 h0
  obtain ⟨k, e1, x1, wf1⟩ := DataW.trod_int Tryz.underlying3 h1
  obtain ⟨a2, l2, c2, e2⟩ := Joins.slice_form Tryz.underlying23 h2
  obtain ⟨k3, e3, x3, wf3⟩ := DataW.trod_int Tryz.underlying3 h3
  simp only [List.cons.injEq, and_true] at e0 e1 e2 e3
  subst e0 e1 e2 e3 x1 x3
  obtain ⟨fs, hF, hb⟩ := open_files Tryz.underlying22 Tryz.underlying69 (by kernel_rfl) rfl rfl rfl rfl ⟨a, l, c, rfl⟩ (⟨n, h0⟩ : DataW.Trod enc Tryz.prog W 0 (fun _ => true) true 22 (.slice a l c) y0.1 y0.2)
  obtain ⟨zs, hZ, hzb, hzr⟩ := open_numsS ⟨a2, l2, c2, rfl⟩ (⟨n, h2⟩ : DataW.Trod enc Tryz.prog W 0 (fun _ => true) true 23 (.slice a2 l2 c2) y2.1 y2.2)
  refine ⟨_, fs, k, _, zs, k3, rfl, hF, hZ, ?_, num_wf wf1, num_wf wf3, hzr⟩
  simp only [Rows.uptoBulk, Rows.uptoBulkAll]
  omega
end Go.Proofs.YtijnjgnckipghaaGreat
