/- The law's 'same': both disks tell the same. -/
import Derived.Test.YtijnjgnckipghaaGreatSwDd
import Derived.Test.YtijnjgnckipghaaGreatDsE
import Derived.Deep.RegionHeld3
namespace Go.Proofs.YtijnjgnckipghaaGreat
open Go.RowKit
theorem used_bdX {s : Dk} (h : Bd 10000000 s) : s.used ≤ 1000000000000000000 := by
  have h1 := h.2.2.1
  have h2 := h.2.2.2.2.2
  have key : ∀ l : NL, (l.map (fun p => (s.data.getD p.2 []).length)).sum ≤ l.length * 10000000 := by
    intro l
    induction l with
    | nil => simp
    | cons x r ih => simp only [List.map_cons, List.sum_cons, List.length_cons]; have := h2 x.2; omega
  have := key s.now
  unfold Dk.used
  omega
set_option maxRecDepth 20000 in
set_option maxHeartbeats 16000000 in
theorem sameLC {o : Ow} {g : Nat} {s : Dk} {W : World} {a0 a1 a2 a3 a4 a6 : Option Addr} {n0 c0 n1 c1 n2 c2 n3 c3 n4 c4 n6 c6 : Nat} (hD : Dsk o g s W) (hR : RefS W (.agg #[.slice a0 n0 c0, .slice a1 n1 c1, .slice a2 n2 c2, .slice a3 n3 c3, .slice a4 n4 c4, .int .i64 s.room, .slice a6 n6 c6, .int .i64 s.power, .int .i64 (s.n : Int)]) s) (hB : Bd 10000000 s) (k1 : Int) (ka : Option Addr) (nk kc : Nat) (keep1 : List Int) (hk : HoldsI W (.slice ka nk kc) keep1) (hl : keep1.length ≤ 1048576) (r1 : -9223372036854775808 ≤ k1 ∧ k1 ≤ 9223372036854775807) (kb1 : ∀ z ∈ keep1, -9223372036854775808 ≤ z ∧ z ≤ 9223372036854775807) :
    Calls Tryz.prog 10 #[.pointer (some ⟨g, 0, none⟩), .agg #[.slice a0 n0 c0, .slice a1 n1 c1, .slice a2 n2 c2, .slice a3 n3 c3, .slice a4 n4 c4, .int .i64 s.room, .slice a6 n6 c6, .int .i64 s.power, .int .i64 (s.n : Int)], .agg #[.int .i64 k1, .slice ka nk kc]] W fun e w' => e = .returned (.bool true) ∧ Below W.heap.size W w' := by
  have b1 := below_alloc' W (.cells #[.slice a0 n0 c0, .slice a1 n1 c1, .slice a2 n2 c2, .slice a3 n3 c3, .slice a4 n4 c4, .int .i64 s.room, .slice a6 n6 c6, .int .i64 s.power, .int .i64 (s.n : Int)] 38)
  have b2 := below_alloc' (W.alloc (.cells #[.slice a0 n0 c0, .slice a1 n1 c1, .slice a2 n2 c2, .slice a3 n3 c3, .slice a4 n4 c4, .int .i64 s.room, .slice a6 n6 c6, .int .i64 s.power, .int .i64 (s.n : Int)] 38)) (.cells #[.int .i64 k1, .slice ka nk kc] 28)
  have z1 : (W.alloc (.cells #[.slice a0 n0 c0, .slice a1 n1 c1, .slice a2 n2 c2, .slice a3 n3 c3, .slice a4 n4 c4, .int .i64 s.room, .slice a6 n6 c6, .int .i64 s.power, .int .i64 (s.n : Int)] 38)).heap.size = W.heap.size + 1 := by simp
  have B0 : Hid (Below W.heap.size W ((W.alloc (.cells #[.slice a0 n0 c0, .slice a1 n1 c1, .slice a2 n2 c2, .slice a3 n3 c3, .slice a4 n4 c4, .int .i64 s.room, .slice a6 n6 c6, .int .i64 s.power, .int .i64 (s.n : Int)] 38)).alloc (.cells #[.int .i64 k1, .slice ka nk kc] 28))) := b1.trans (b2.mono b1.size)
  have Q0 : Hid (Blk W.heap.size ((W.alloc (.cells #[.slice a0 n0 c0, .slice a1 n1 c1, .slice a2 n2 c2, .slice a3 n3 c3, .slice a4 n4 c4, .int .i64 s.room, .slice a6 n6 c6, .int .i64 s.power, .int .i64 (s.n : Int)] 38)).alloc (.cells #[.int .i64 k1, .slice ka nk kc] 28)) [.slice a0 n0 c0, .slice a1 n1 c1, .slice a2 n2 c2, .slice a3 n3 c3, .slice a4 n4 c4, .int .i64 s.room, .slice a6 n6 c6, .int .i64 s.power, .int .i64 (s.n : Int)]) := cells_below (by simpa using cells_lit W #[.slice a0 n0 c0, .slice a1 n1 c1, .slice a2 n2 c2, .slice a3 n3 c3, .slice a4 n4 c4, .int .i64 s.room, .slice a6 n6 c6, .int .i64 s.power, .int .i64 (s.n : Int)] 38) b2
  have F0 : Hid (Blk (W.heap.size + 1) ((W.alloc (.cells #[.slice a0 n0 c0, .slice a1 n1 c1, .slice a2 n2 c2, .slice a3 n3 c3, .slice a4 n4 c4, .int .i64 s.room, .slice a6 n6 c6, .int .i64 s.power, .int .i64 (s.n : Int)] 38)).alloc (.cells #[.int .i64 k1, .slice ka nk kc] 28)) [.int .i64 k1, .slice ka nk kc]) := by
    have := cells_lit (W.alloc (.cells #[.slice a0 n0 c0, .slice a1 n1 c1, .slice a2 n2 c2, .slice a3 n3 c3, .slice a4 n4 c4, .int .i64 s.room, .slice a6 n6 c6, .int .i64 s.power, .int .i64 (s.n : Int)] 38)) #[.int .i64 k1, .slice ka nk kc] 28
    rw [z1] at this
    exact this
  have WF := hide' (dsk_wf hD).1
  have HD := hide' hD
  have HR := hide' hR
  have HB := hide' hB
  have HK := hide' hk
  have HL := hide' hl
  have R1 := hide' r1
  have KB1 := hide' kb1
  clear b1 b2 z1 hD hR hB hk hl r1 kb1
  go_enter Tryz.func10, Tryz.ntmps10
  go_wp2_with fail
  generalize ((W.alloc (.cells #[.slice a0 n0 c0, .slice a1 n1 c1, .slice a2 n2 c2, .slice a3 n3 c3, .slice a4 n4 c4, .int .i64 s.room, .slice a6 n6 c6, .int .i64 s.power, .int .i64 (s.n : Int)] 38)).alloc (.cells #[.int .i64 k1, .slice ka nk kc] 28)) = w2 at B0 Q0 F0 ⊢
  obtain ⟨qb, hqb⟩ : ∃ q, q = W.heap.size := ⟨_, rfl⟩
  obtain ⟨fb, hfb⟩ : ∃ q, q = W.heap.size + 1 := ⟨_, rfl⟩
  rw [← hqb] at Q0
  rw [← hfb] at F0
  rw [← hfb, ← hqb]
  clear hqb hfb
  have CEL : Hid (∀ Wx, Below w2.heap.size w2 Wx → (Wx.cell? ⟨qb, 0, none⟩ = some (.slice a0 n0 c0) ∧ Wx.cell? ⟨qb, 1, none⟩ = some (.slice a1 n1 c1) ∧ Wx.cell? ⟨qb, 2, none⟩ = some (.slice a2 n2 c2) ∧ Wx.cell? ⟨qb, 3, none⟩ = some (.slice a3 n3 c3) ∧ Wx.cell? ⟨qb, 4, none⟩ = some (.slice a4 n4 c4) ∧ Wx.cell? ⟨qb, 5, none⟩ = some (.int .i64 s.room) ∧ Wx.cell? ⟨qb, 6, none⟩ = some (.slice a6 n6 c6) ∧ Wx.cell? ⟨qb, 7, none⟩ = some (.int .i64 s.power) ∧ Wx.cell? ⟨qb, 8, none⟩ = some (.int .i64 (s.n : Int))) ∧ (Wx.cell? ⟨fb, 0, none⟩ = some (.int .i64 k1) ∧ Wx.cell? ⟨fb, 1, none⟩ = some (.slice ka nk kc))) := fun Wx h => ⟨cells_9 (cells_below Q0.out h), (cells_2 (cells_below F0.out h)).1⟩
  have DX : Hid (∀ Wx, Below w2.heap.size w2 Wx → Dsk o g s Wx) := fun Wx h => dsk_below HD.out (B0.out.trans (h.mono B0.out.size))
  have RX : Hid (∀ Wx, Below w2.heap.size w2 Wx → RefS Wx (.agg #[.slice a0 n0 c0, .slice a1 n1 c1, .slice a2 n2 c2, .slice a3 n3 c3, .slice a4 n4 c4, .int .i64 s.room, .slice a6 n6 c6, .int .i64 s.power, .int .i64 (s.n : Int)]) s) := fun Wx h => refS_sub HR.out (sub_below (B0.out.trans (h.mono B0.out.size)))
  have KX : Hid (∀ Wx, Below w2.heap.size w2 Wx → HoldsI Wx (.slice ka nk kc) keep1) := fun Wx h => holdsI_mono HK.out (B0.out.trans (h.mono B0.out.size))
  have LB : Hid (∀ k keep, (s.left k keep).length ≤ 20000000 ∧ ∀ f ∈ s.left k keep, f.1.length ≤ 64 ∧ f.2.length ≤ 10000000) := fun k keep => left_bd HD.out HB.out k keep
  have C1 : Hid (∀ Wx, Hid (Below w2.heap.size w2 Wx) → Calls Tryz.prog 19 #[.pointer (some ⟨g, 0, none⟩)] Wx fun e w' => e = .returned (.int .i64 (s.n : Int)) ∧ Hid (Below w2.heap.size w2 w') ∧ (w'.cell? ⟨qb, 0, none⟩ = some (.slice a0 n0 c0) ∧ w'.cell? ⟨qb, 1, none⟩ = some (.slice a1 n1 c1) ∧ w'.cell? ⟨qb, 2, none⟩ = some (.slice a2 n2 c2) ∧ w'.cell? ⟨qb, 3, none⟩ = some (.slice a3 n3 c3) ∧ w'.cell? ⟨qb, 4, none⟩ = some (.slice a4 n4 c4) ∧ w'.cell? ⟨qb, 5, none⟩ = some (.int .i64 s.room) ∧ w'.cell? ⟨qb, 6, none⟩ = some (.slice a6 n6 c6) ∧ w'.cell? ⟨qb, 7, none⟩ = some (.int .i64 s.power) ∧ w'.cell? ⟨qb, 8, none⟩ = some (.int .i64 (s.n : Int))) ∧ (w'.cell? ⟨fb, 0, none⟩ = some (.int .i64 k1) ∧ w'.cell? ⟨fb, 1, none⟩ = some (.slice ka nk kc))) := fun Wx hb => by
    refine (stepsC (DX.out Wx hb.out)).mono ?_
    rintro e w' ⟨rfl, rfl⟩
    have hb2 := hb.out.trans ((Below.refl w'.heap.size w').mono hb.out.size)
    exact ⟨rfl, hb2, CEL.out _ hb2⟩
  have C4 : Hid (∀ Wx, Hid (Below w2.heap.size w2 Wx) → Calls Tryz.prog 20 #[.pointer (some ⟨g, 0, none⟩)] Wx fun e w' => e = .returned (.int .i64 (s.used : Int)) ∧ Hid (Below w2.heap.size w2 w') ∧ (w'.cell? ⟨qb, 0, none⟩ = some (.slice a0 n0 c0) ∧ w'.cell? ⟨qb, 1, none⟩ = some (.slice a1 n1 c1) ∧ w'.cell? ⟨qb, 2, none⟩ = some (.slice a2 n2 c2) ∧ w'.cell? ⟨qb, 3, none⟩ = some (.slice a3 n3 c3) ∧ w'.cell? ⟨qb, 4, none⟩ = some (.slice a4 n4 c4) ∧ w'.cell? ⟨qb, 5, none⟩ = some (.int .i64 s.room) ∧ w'.cell? ⟨qb, 6, none⟩ = some (.slice a6 n6 c6) ∧ w'.cell? ⟨qb, 7, none⟩ = some (.int .i64 s.power) ∧ w'.cell? ⟨qb, 8, none⟩ = some (.int .i64 (s.n : Int))) ∧ (w'.cell? ⟨fb, 0, none⟩ = some (.int .i64 k1) ∧ w'.cell? ⟨fb, 1, none⟩ = some (.slice ka nk kc))) := fun Wx hb => by
    refine (usedC (DX.out Wx hb.out) (bd_mono HB.out (by omega))).mono ?_
    rintro e w' ⟨rfl, hb'⟩
    have hb2 := hb.out.trans (hb'.mono hb.out.size)
    exact ⟨rfl, hb2, CEL.out _ hb2⟩
  have C5 : Hid (∀ Wx, Hid (Below w2.heap.size w2 Wx) → Calls Tryz.prog 33 #[.agg #[.slice a0 n0 c0, .slice a1 n1 c1, .slice a2 n2 c2, .slice a3 n3 c3, .slice a4 n4 c4, .int .i64 s.room, .slice a6 n6 c6, .int .i64 s.power, .int .i64 (s.n : Int)]] Wx fun e w' => e = .returned (.int .i64 (s.used : Int)) ∧ Hid (Below w2.heap.size w2 w') ∧ (w'.cell? ⟨qb, 0, none⟩ = some (.slice a0 n0 c0) ∧ w'.cell? ⟨qb, 1, none⟩ = some (.slice a1 n1 c1) ∧ w'.cell? ⟨qb, 2, none⟩ = some (.slice a2 n2 c2) ∧ w'.cell? ⟨qb, 3, none⟩ = some (.slice a3 n3 c3) ∧ w'.cell? ⟨qb, 4, none⟩ = some (.slice a4 n4 c4) ∧ w'.cell? ⟨qb, 5, none⟩ = some (.int .i64 s.room) ∧ w'.cell? ⟨qb, 6, none⟩ = some (.slice a6 n6 c6) ∧ w'.cell? ⟨qb, 7, none⟩ = some (.int .i64 s.power) ∧ w'.cell? ⟨qb, 8, none⟩ = some (.int .i64 (s.n : Int))) ∧ (w'.cell? ⟨fb, 0, none⟩ = some (.int .i64 k1) ∧ w'.cell? ⟨fb, 1, none⟩ = some (.slice ka nk kc))) := fun Wx hb => by
    refine (usedRC (RX.out Wx hb.out) WF.out (by have := HB.out.2.2.1; omega) (used_bdX HB.out)).mono ?_
    rintro e w' ⟨rfl, hb'⟩
    have hb2 := hb.out.trans (hb'.mono hb.out.size)
    exact ⟨rfl, hb2, CEL.out _ hb2⟩
  have C6 : Hid (∀ Wx, Hid (Below w2.heap.size w2 Wx) → Calls Tryz.prog 35 #[.pointer (some ⟨g, 0, none⟩)] Wx fun e w' => ∃ u, e = .returned (u) ∧ Hid (Holds w' u s.list) ∧ Hid (Below w2.heap.size w2 w') ∧ (w'.cell? ⟨qb, 0, none⟩ = some (.slice a0 n0 c0) ∧ w'.cell? ⟨qb, 1, none⟩ = some (.slice a1 n1 c1) ∧ w'.cell? ⟨qb, 2, none⟩ = some (.slice a2 n2 c2) ∧ w'.cell? ⟨qb, 3, none⟩ = some (.slice a3 n3 c3) ∧ w'.cell? ⟨qb, 4, none⟩ = some (.slice a4 n4 c4) ∧ w'.cell? ⟨qb, 5, none⟩ = some (.int .i64 s.room) ∧ w'.cell? ⟨qb, 6, none⟩ = some (.slice a6 n6 c6) ∧ w'.cell? ⟨qb, 7, none⟩ = some (.int .i64 s.power) ∧ w'.cell? ⟨qb, 8, none⟩ = some (.int .i64 (s.n : Int))) ∧ (w'.cell? ⟨fb, 0, none⟩ = some (.int .i64 k1) ∧ w'.cell? ⟨fb, 1, none⟩ = some (.slice ka nk kc))) := fun Wx hb => by
    refine (listC (DX.out Wx hb.out) (bd_mono HB.out (by omega))).mono ?_
    rintro e w' ⟨u, rfl, ho⟩
    have hb2 := hb.out.trans (ho.2.mono hb.out.size)
    exact ⟨u, rfl, holds_own ho, hb2, CEL.out _ hb2⟩
  have C7 : Hid (∀ Wx, Hid (Below w2.heap.size w2 Wx) → Calls Tryz.prog 28 #[.agg #[.slice a0 n0 c0, .slice a1 n1 c1, .slice a2 n2 c2, .slice a3 n3 c3, .slice a4 n4 c4, .int .i64 s.room, .slice a6 n6 c6, .int .i64 s.power, .int .i64 (s.n : Int)]] Wx fun e w' => ∃ u, e = .returned (u) ∧ Hid (Holds w' u s.list ∧ Below Wx.heap.size Wx w') ∧ Hid (Below w2.heap.size w2 w') ∧ (w'.cell? ⟨qb, 0, none⟩ = some (.slice a0 n0 c0) ∧ w'.cell? ⟨qb, 1, none⟩ = some (.slice a1 n1 c1) ∧ w'.cell? ⟨qb, 2, none⟩ = some (.slice a2 n2 c2) ∧ w'.cell? ⟨qb, 3, none⟩ = some (.slice a3 n3 c3) ∧ w'.cell? ⟨qb, 4, none⟩ = some (.slice a4 n4 c4) ∧ w'.cell? ⟨qb, 5, none⟩ = some (.int .i64 s.room) ∧ w'.cell? ⟨qb, 6, none⟩ = some (.slice a6 n6 c6) ∧ w'.cell? ⟨qb, 7, none⟩ = some (.int .i64 s.power) ∧ w'.cell? ⟨qb, 8, none⟩ = some (.int .i64 (s.n : Int))) ∧ (w'.cell? ⟨fb, 0, none⟩ = some (.int .i64 k1) ∧ w'.cell? ⟨fb, 1, none⟩ = some (.slice ka nk kc))) := fun Wx hb => by
    refine (listRC (RX.out Wx hb.out) (by have := HB.out.2.2.1; omega)).mono ?_
    rintro e w' ⟨u, rfl, hu, hb'⟩
    have hb2 := hb.out.trans (hb'.mono hb.out.size)
    exact ⟨u, rfl, ⟨hu, hb'⟩, hb2, CEL.out _ hb2⟩
  have CE : Hid (∀ Wx ua ub, Hid (Below w2.heap.size w2 Wx) → Holds Wx ua s.list → Holds Wx ub s.list → Calls Tryz.prog 34 #[ua, ub] Wx fun e w' => e = .returned (.bool true) ∧ Hid (Below w2.heap.size w2 w') ∧ (w'.cell? ⟨qb, 0, none⟩ = some (.slice a0 n0 c0) ∧ w'.cell? ⟨qb, 1, none⟩ = some (.slice a1 n1 c1) ∧ w'.cell? ⟨qb, 2, none⟩ = some (.slice a2 n2 c2) ∧ w'.cell? ⟨qb, 3, none⟩ = some (.slice a3 n3 c3) ∧ w'.cell? ⟨qb, 4, none⟩ = some (.slice a4 n4 c4) ∧ w'.cell? ⟨qb, 5, none⟩ = some (.int .i64 s.room) ∧ w'.cell? ⟨qb, 6, none⟩ = some (.slice a6 n6 c6) ∧ w'.cell? ⟨qb, 7, none⟩ = some (.int .i64 s.power) ∧ w'.cell? ⟨qb, 8, none⟩ = some (.int .i64 (s.n : Int))) ∧ (w'.cell? ⟨fb, 0, none⟩ = some (.int .i64 k1) ∧ w'.cell? ⟨fb, 1, none⟩ = some (.slice ka nk kc))) := fun Wx ua ub hb ha hbb => by
    refine (sameTe ua ub s.list Wx ha hbb (by have := list_lenB HB.out; omega)).mono ?_
    rintro e w' ⟨rfl, hb'⟩
    have hb2 := hb.out.trans (hb'.mono hb.out.size)
    exact ⟨rfl, hb2, CEL.out _ hb2⟩
  have CF : Hid (∀ Wx, Hid (Below w2.heap.size w2 Wx) → Calls Tryz.prog 38 #[.agg #[.int .i64 k1, .slice ka nk kc]] Wx fun e w' => ∃ u, e = .returned (.agg #[.int .i64 k1, u]) ∧ Hid (HoldsI w' u keep1) ∧ Hid (Below w2.heap.size w2 w') ∧ (w'.cell? ⟨qb, 0, none⟩ = some (.slice a0 n0 c0) ∧ w'.cell? ⟨qb, 1, none⟩ = some (.slice a1 n1 c1) ∧ w'.cell? ⟨qb, 2, none⟩ = some (.slice a2 n2 c2) ∧ w'.cell? ⟨qb, 3, none⟩ = some (.slice a3 n3 c3) ∧ w'.cell? ⟨qb, 4, none⟩ = some (.slice a4 n4 c4) ∧ w'.cell? ⟨qb, 5, none⟩ = some (.int .i64 s.room) ∧ w'.cell? ⟨qb, 6, none⟩ = some (.slice a6 n6 c6) ∧ w'.cell? ⟨qb, 7, none⟩ = some (.int .i64 s.power) ∧ w'.cell? ⟨qb, 8, none⟩ = some (.int .i64 (s.n : Int))) ∧ (w'.cell? ⟨fb, 0, none⟩ = some (.int .i64 k1) ∧ w'.cell? ⟨fb, 1, none⟩ = some (.slice ka nk kc))) := fun Wx hb => by
    refine (copyFateC k1 _ keep1 Wx (KX.out Wx hb.out) (by have := HL.out; omega)).mono ?_
    rintro e w' ⟨u, rfl, hu, hb'⟩
    have hb2 := hb.out.trans (hb'.mono hb.out.size)
    exact ⟨u, rfl, hu, hb2, CEL.out _ hb2⟩
  have CL : Hid (∀ Wx kv, Hid (Below w2.heap.size w2 Wx) → Hid (HoldsI Wx kv keep1) → Calls Tryz.prog 37 #[.pointer (some ⟨g, 0, none⟩), .agg #[.int .i64 k1, kv]] Wx fun e w' => ∃ u, e = .returned (u) ∧ Hid (HoldsFi w' u (s.left k1 keep1)) ∧ Hid (Below w2.heap.size w2 w') ∧ (w'.cell? ⟨qb, 0, none⟩ = some (.slice a0 n0 c0) ∧ w'.cell? ⟨qb, 1, none⟩ = some (.slice a1 n1 c1) ∧ w'.cell? ⟨qb, 2, none⟩ = some (.slice a2 n2 c2) ∧ w'.cell? ⟨qb, 3, none⟩ = some (.slice a3 n3 c3) ∧ w'.cell? ⟨qb, 4, none⟩ = some (.slice a4 n4 c4) ∧ w'.cell? ⟨qb, 5, none⟩ = some (.int .i64 s.room) ∧ w'.cell? ⟨qb, 6, none⟩ = some (.slice a6 n6 c6) ∧ w'.cell? ⟨qb, 7, none⟩ = some (.int .i64 s.power) ∧ w'.cell? ⟨qb, 8, none⟩ = some (.int .i64 (s.n : Int))) ∧ (w'.cell? ⟨fb, 0, none⟩ = some (.int .i64 k1) ∧ w'.cell? ⟨fb, 1, none⟩ = some (.slice ka nk kc))) := fun Wx kv hb hkv => by
    refine (leftC (DX.out Wx hb.out) k1 _ keep1 hkv.out R1.out KB1.out (bd_mono HB.out (by omega))).mono ?_
    rintro e w' ⟨u, rfl, hu, hb'⟩
    have hb2 := hb.out.trans (hb'.mono hb.out.size)
    exact ⟨u, rfl, holdsFi_sub (mask_sub _ _) hu, hb2, CEL.out _ hb2⟩
  have CM : Hid (∀ Wx, Hid (Below w2.heap.size w2 Wx) → Calls Tryz.prog 39 #[.agg #[.slice a0 n0 c0, .slice a1 n1 c1, .slice a2 n2 c2, .slice a3 n3 c3, .slice a4 n4 c4, .int .i64 s.room, .slice a6 n6 c6, .int .i64 s.power, .int .i64 (s.n : Int)], .agg #[.int .i64 k1, .slice ka nk kc]] Wx fun e w' => ∃ u, e = .returned (u) ∧ Hid (HoldsFi w' u (s.left k1 keep1) ∧ Below Wx.heap.size Wx w') ∧ Hid (Below w2.heap.size w2 w') ∧ (w'.cell? ⟨qb, 0, none⟩ = some (.slice a0 n0 c0) ∧ w'.cell? ⟨qb, 1, none⟩ = some (.slice a1 n1 c1) ∧ w'.cell? ⟨qb, 2, none⟩ = some (.slice a2 n2 c2) ∧ w'.cell? ⟨qb, 3, none⟩ = some (.slice a3 n3 c3) ∧ w'.cell? ⟨qb, 4, none⟩ = some (.slice a4 n4 c4) ∧ w'.cell? ⟨qb, 5, none⟩ = some (.int .i64 s.room) ∧ w'.cell? ⟨qb, 6, none⟩ = some (.slice a6 n6 c6) ∧ w'.cell? ⟨qb, 7, none⟩ = some (.int .i64 s.power) ∧ w'.cell? ⟨qb, 8, none⟩ = some (.int .i64 (s.n : Int))) ∧ (w'.cell? ⟨fb, 0, none⟩ = some (.int .i64 k1) ∧ w'.cell? ⟨fb, 1, none⟩ = some (.slice ka nk kc))) := fun Wx hb => by
    refine (leftRC (RX.out Wx hb.out) WF.out (bd_mono HB.out (by omega)) k1 _ keep1 (KX.out Wx hb.out) (by have := HL.out; omega) KB1.out (by have := (LB.out k1 keep1).1; unfold Dk.left at this; rw [List.length_map] at this; omega)).mono ?_
    rintro e w' ⟨u, rfl, hu, hb'⟩
    have hb2 := hb.out.trans (hb'.mono hb.out.size)
    exact ⟨u, rfl, ⟨hu, hb'⟩, hb2, CEL.out _ hb2⟩
  have CQ : Hid (∀ Wx ua ub, Hid (Below w2.heap.size w2 Wx) → HoldsFi Wx ua (s.left k1 keep1) → HoldsFi Wx ub (s.left k1 keep1) → Calls Tryz.prog 36 #[ua, ub] Wx fun e w' => e = .returned (.bool true) ∧ Hid (Below w2.heap.size w2 w') ∧ (w'.cell? ⟨qb, 0, none⟩ = some (.slice a0 n0 c0) ∧ w'.cell? ⟨qb, 1, none⟩ = some (.slice a1 n1 c1) ∧ w'.cell? ⟨qb, 2, none⟩ = some (.slice a2 n2 c2) ∧ w'.cell? ⟨qb, 3, none⟩ = some (.slice a3 n3 c3) ∧ w'.cell? ⟨qb, 4, none⟩ = some (.slice a4 n4 c4) ∧ w'.cell? ⟨qb, 5, none⟩ = some (.int .i64 s.room) ∧ w'.cell? ⟨qb, 6, none⟩ = some (.slice a6 n6 c6) ∧ w'.cell? ⟨qb, 7, none⟩ = some (.int .i64 s.power) ∧ w'.cell? ⟨qb, 8, none⟩ = some (.int .i64 (s.n : Int))) ∧ (w'.cell? ⟨fb, 0, none⟩ = some (.int .i64 k1) ∧ w'.cell? ⟨fb, 1, none⟩ = some (.slice ka nk kc))) := fun Wx ua ub hb ha hbb => by
    refine (sameFi ua ub _ Wx ha hbb (by have := (LB.out k1 keep1).1; omega) (fun f hf => by have := ((LB.out k1 keep1).2 f hf).2; omega)).mono ?_
    rintro e w' ⟨rfl, hb'⟩
    have hb2 := hb.out.trans (hb'.mono hb.out.size)
    exact ⟨rfl, hb2, CEL.out _ hb2⟩
  have CL0 : Hid (∀ Wx, Hid (Below w2.heap.size w2 Wx) → Calls Tryz.prog 37 #[.pointer (some ⟨g, 0, none⟩), .agg #[.int .i64 1073741824, .slice none 0 0]] Wx fun e w' => ∃ u, e = .returned (u) ∧ Hid (HoldsFi w' u (s.left 1073741824 [])) ∧ Hid (Below w2.heap.size w2 w') ∧ (w'.cell? ⟨qb, 0, none⟩ = some (.slice a0 n0 c0) ∧ w'.cell? ⟨qb, 1, none⟩ = some (.slice a1 n1 c1) ∧ w'.cell? ⟨qb, 2, none⟩ = some (.slice a2 n2 c2) ∧ w'.cell? ⟨qb, 3, none⟩ = some (.slice a3 n3 c3) ∧ w'.cell? ⟨qb, 4, none⟩ = some (.slice a4 n4 c4) ∧ w'.cell? ⟨qb, 5, none⟩ = some (.int .i64 s.room) ∧ w'.cell? ⟨qb, 6, none⟩ = some (.slice a6 n6 c6) ∧ w'.cell? ⟨qb, 7, none⟩ = some (.int .i64 s.power) ∧ w'.cell? ⟨qb, 8, none⟩ = some (.int .i64 (s.n : Int))) ∧ (w'.cell? ⟨fb, 0, none⟩ = some (.int .i64 k1) ∧ w'.cell? ⟨fb, 1, none⟩ = some (.slice ka nk kc))) := fun Wx hb => by
    refine (leftC (DX.out Wx hb.out) 1073741824 _ [] ⟨none, 0, rfl, fun _ => rfl, Nat.le_refl _, fun h => absurd rfl h⟩ (by decide) (fun z h => by cases h) (bd_mono HB.out (by omega))).mono ?_
    rintro e w' ⟨u, rfl, hu, hb'⟩
    have hb2 := hb.out.trans (hb'.mono hb.out.size)
    exact ⟨u, rfl, holdsFi_sub (mask_sub _ _) hu, hb2, CEL.out _ hb2⟩
  have CM0 : Hid (∀ Wx, Hid (Below w2.heap.size w2 Wx) → Calls Tryz.prog 39 #[.agg #[.slice a0 n0 c0, .slice a1 n1 c1, .slice a2 n2 c2, .slice a3 n3 c3, .slice a4 n4 c4, .int .i64 s.room, .slice a6 n6 c6, .int .i64 s.power, .int .i64 (s.n : Int)], .agg #[.int .i64 1073741824, .slice none 0 0]] Wx fun e w' => ∃ u, e = .returned (u) ∧ Hid (HoldsFi w' u (s.left 1073741824 []) ∧ Below Wx.heap.size Wx w') ∧ Hid (Below w2.heap.size w2 w') ∧ (w'.cell? ⟨qb, 0, none⟩ = some (.slice a0 n0 c0) ∧ w'.cell? ⟨qb, 1, none⟩ = some (.slice a1 n1 c1) ∧ w'.cell? ⟨qb, 2, none⟩ = some (.slice a2 n2 c2) ∧ w'.cell? ⟨qb, 3, none⟩ = some (.slice a3 n3 c3) ∧ w'.cell? ⟨qb, 4, none⟩ = some (.slice a4 n4 c4) ∧ w'.cell? ⟨qb, 5, none⟩ = some (.int .i64 s.room) ∧ w'.cell? ⟨qb, 6, none⟩ = some (.slice a6 n6 c6) ∧ w'.cell? ⟨qb, 7, none⟩ = some (.int .i64 s.power) ∧ w'.cell? ⟨qb, 8, none⟩ = some (.int .i64 (s.n : Int))) ∧ (w'.cell? ⟨fb, 0, none⟩ = some (.int .i64 k1) ∧ w'.cell? ⟨fb, 1, none⟩ = some (.slice ka nk kc))) := fun Wx hb => by
    refine (leftRC (RX.out Wx hb.out) WF.out (bd_mono HB.out (by omega)) 1073741824 _ [] ⟨none, 0, rfl, fun _ => rfl, Nat.le_refl _, fun h => absurd rfl h⟩ (by decide) (fun z h => by cases h) (by have := (LB.out 1073741824 []).1; unfold Dk.left at this; rw [List.length_map] at this; omega)).mono ?_
    rintro e w' ⟨u, rfl, hu, hb'⟩
    have hb2 := hb.out.trans (hb'.mono hb.out.size)
    exact ⟨u, rfl, ⟨hu, hb'⟩, hb2, CEL.out _ hb2⟩
  have CQ0 : Hid (∀ Wx ua ub, Hid (Below w2.heap.size w2 Wx) → HoldsFi Wx ua (s.left 1073741824 []) → HoldsFi Wx ub (s.left 1073741824 []) → Calls Tryz.prog 36 #[ua, ub] Wx fun e w' => e = .returned (.bool true) ∧ Hid (Below w2.heap.size w2 w') ∧ (w'.cell? ⟨qb, 0, none⟩ = some (.slice a0 n0 c0) ∧ w'.cell? ⟨qb, 1, none⟩ = some (.slice a1 n1 c1) ∧ w'.cell? ⟨qb, 2, none⟩ = some (.slice a2 n2 c2) ∧ w'.cell? ⟨qb, 3, none⟩ = some (.slice a3 n3 c3) ∧ w'.cell? ⟨qb, 4, none⟩ = some (.slice a4 n4 c4) ∧ w'.cell? ⟨qb, 5, none⟩ = some (.int .i64 s.room) ∧ w'.cell? ⟨qb, 6, none⟩ = some (.slice a6 n6 c6) ∧ w'.cell? ⟨qb, 7, none⟩ = some (.int .i64 s.power) ∧ w'.cell? ⟨qb, 8, none⟩ = some (.int .i64 (s.n : Int))) ∧ (w'.cell? ⟨fb, 0, none⟩ = some (.int .i64 k1) ∧ w'.cell? ⟨fb, 1, none⟩ = some (.slice ka nk kc))) := fun Wx ua ub hb ha hbb => by
    refine (sameFi ua ub _ Wx ha hbb (by have := (LB.out 1073741824 []).1; omega) (fun f hf => by have := ((LB.out 1073741824 []).2 f hf).2; omega)).mono ?_
    rintro e w' ⟨rfl, hb'⟩
    have hb2 := hb.out.trans (hb'.mono hb.out.size)
    exact ⟨rfl, hb2, CEL.out _ hb2⟩
  obtain ⟨⟨kq0, kq1, kq2, kq3, kq4, kq5, kq6, kq7, kq8⟩, ⟨m0, m1⟩⟩ := CEL.out w2 (Below.refl _ _)
  clear DX RX KX Q0 F0 HD HR HK CEL
  generalize s.used = us at C4 C5
  go_region_held3 (fun w' => w'.cell? ⟨qb, 0, none⟩ = some (.slice a0 n0 c0) ∧ w'.cell? ⟨qb, 1, none⟩ = some (.slice a1 n1 c1) ∧ w'.cell? ⟨qb, 2, none⟩ = some (.slice a2 n2 c2) ∧ w'.cell? ⟨qb, 3, none⟩ = some (.slice a3 n3 c3) ∧ w'.cell? ⟨qb, 4, none⟩ = some (.slice a4 n4 c4) ∧ w'.cell? ⟨qb, 5, none⟩ = some (.int .i64 s.room) ∧ w'.cell? ⟨qb, 6, none⟩ = some (.slice a6 n6 c6) ∧ w'.cell? ⟨qb, 7, none⟩ = some (.int .i64 s.power) ∧ w'.cell? ⟨qb, 8, none⟩ = some (.int .i64 (s.n : Int)) ∧ w'.cell? ⟨fb, 0, none⟩ = some (.int .i64 k1) ∧ w'.cell? ⟨fb, 1, none⟩ = some (.slice ka nk kc)) (go_keep)
    (first
      | (go_at_call_of 37 (Value.agg #[Value.int .i64 1073741824, Value.slice none 0 0]); refine (CL0.out _ HC10).mono ?_; rintro e wF ⟨u5, rfl, HU5, HC11, ⟨⟨kq0, kq1, kq2, kq3, kq4, kq5, kq6, kq7, kq8⟩, ⟨m0, m1⟩⟩⟩)
      | (go_at_call_of 39 (Value.agg #[Value.int .i64 1073741824, Value.slice none 0 0]); refine (CM0.out _ HC11).mono ?_; rintro e wG ⟨u6, rfl, HU6, HC12, ⟨⟨kq0, kq1, kq2, kq3, kq4, kq5, kq6, kq7, kq8⟩, ⟨m0, m1⟩⟩⟩)
      | (go_at_call_of 36 (u6); refine (CQ0.out _ _ _ HC12 (holdsFi_mono HU5.out HU6.out.2) HU6.out.1).mono ?_; rintro e wH ⟨rfl, HC13, ⟨⟨kq0, kq1, kq2, kq3, kq4, kq5, kq6, kq7, kq8⟩, ⟨m0, m1⟩⟩⟩)
      | (go_at_call 19; refine (C1.out _ ?_).mono ?_; (first | exact hide' (Below.refl _ _).drew | exact hide' (Below.refl _ _)); rintro e wA ⟨rfl, HC1, ⟨⟨kq0, kq1, kq2, kq3, kq4, kq5, kq6, kq7, kq8⟩, ⟨m0, m1⟩⟩⟩)
      | (go_at_call 20; refine (C4.out _ HC1).mono ?_; rintro e wB ⟨rfl, HC2, ⟨⟨kq0, kq1, kq2, kq3, kq4, kq5, kq6, kq7, kq8⟩, ⟨m0, m1⟩⟩⟩)
      | (go_at_call 33; refine (C5.out _ HC2).mono ?_; rintro e wC ⟨rfl, HC3, ⟨⟨kq0, kq1, kq2, kq3, kq4, kq5, kq6, kq7, kq8⟩, ⟨m0, m1⟩⟩⟩)
      | (go_at_call 35; refine (C6.out _ HC3).mono ?_; rintro e wD ⟨u1, rfl, HU1, HC4, ⟨⟨kq0, kq1, kq2, kq3, kq4, kq5, kq6, kq7, kq8⟩, ⟨m0, m1⟩⟩⟩)
      | (go_at_call 28; refine (C7.out _ HC4).mono ?_; rintro e wE ⟨u2, rfl, HU2, HC5, ⟨⟨kq0, kq1, kq2, kq3, kq4, kq5, kq6, kq7, kq8⟩, ⟨m0, m1⟩⟩⟩)
      | (go_at_call 34; refine (CE.out _ _ _ HC5 (holds_mono HU1.out HU2.out.2) HU2.out.1).mono ?_; rintro e wI ⟨rfl, HC6, ⟨⟨kq0, kq1, kq2, kq3, kq4, kq5, kq6, kq7, kq8⟩, ⟨m0, m1⟩⟩⟩)
      | (go_at_call 38; refine (CF.out _ HC6).mono ?_; rintro e wJ ⟨fu, rfl, HI1, HC7, ⟨⟨kq0, kq1, kq2, kq3, kq4, kq5, kq6, kq7, kq8⟩, ⟨m0, m1⟩⟩⟩)
      | (go_at_call_of 37 (Value.agg #[Value.int .i64 k1, fu]); refine (CL.out _ _ HC7 HI1).mono ?_; rintro e wK ⟨u3, rfl, HU3, HC8, ⟨⟨kq0, kq1, kq2, kq3, kq4, kq5, kq6, kq7, kq8⟩, ⟨m0, m1⟩⟩⟩)
      | (go_at_call_of 39 (Value.agg #[Value.int .i64 k1, .slice ka nk kc]); refine (CM.out _ HC8).mono ?_; rintro e wL ⟨u4, rfl, HU4, HC9, ⟨⟨kq0, kq1, kq2, kq3, kq4, kq5, kq6, kq7, kq8⟩, ⟨m0, m1⟩⟩⟩)
      | (go_at_call_of 36 (u4); refine (CQ.out _ _ _ HC9 (holdsFi_mono HU3.out HU4.out.2) HU4.out.1).mono ?_; rintro e wM ⟨rfl, HC10, ⟨⟨kq0, kq1, kq2, kq3, kq4, kq5, kq6, kq7, kq8⟩, ⟨m0, m1⟩⟩⟩))
  all_goals
    have NB := hide' (B0.out.trans (HC13.out.mono B0.out.size))
    go_wp2_with fail
    go_ret
    exact ⟨rfl, NB.out⟩
end Go.Proofs.YtijnjgnckipghaaGreat
