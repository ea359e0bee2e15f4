/- The contracts of splitShown and splitBlank. -/
import Derived.Test.YtikokjclhpgocabDoorDaN
import Derived.Deep.RegionHeld3
namespace Go.Proofs.YtikokjclhpgocabDoor
open Go.RowKit
def partsV (wd dd mo yy ck : ByteArray) (wh : Bool) : Value := .agg #[.string wd, .string dd, .string mo, .string yy, .string ck, .bool wh]
set_option maxHeartbeats 2000000 in
theorem splitShown_yes (s : ByteArray) (hs : s.size = 29) (e1 : s.extract 3 5 = ⟨#[44, 32]⟩) (e2 : (s[7].toNat : Int) = 32) (e3 : (s[11].toNat : Int) = 32) (e4 : (s[16].toNat : Int) = 32) (e5 : s.extract 25 29 = ⟨#[32, 71, 77, 84]⟩) (w : World) :
    Calls Tryd.prog 43 #[.string s] w fun e w' => e = .returned (.tuple #[partsV (s.extract 0 3) (s.extract 5 7) (s.extract 8 11) (s.extract 12 16) (s.extract 17 25) false, .bool true]) ∧ Below w.heap.size w w' := by
  have k2 : ((s[7].toNat : Int) != 32) = false := by simpa using e2
  have k3 : ((s[11].toNat : Int) != 32) = false := by simpa using e3
  have k4 : ((s[16].toNat : Int) != 32) = false := by simpa using e4
  clear e2 e3 e4
  go_enter Tryd.func43, Tryd.ntmps43
  go_wp2_with fail
  clear e1 e5 k2 k3 k4
  go_region_held3 (fun _ => True) (trivial) (fail)
  go_wp2_with fail
  exact bodyPost_ret (v := .tuple #[partsV (s.extract 0 3) (s.extract 5 7) (s.extract 8 11) (s.extract 12 16) (s.extract 17 25) false, .bool true]) (by simp [results, Tryd.results43, go_sem, partsV]) rfl ⟨rfl, ((Below.refl _ _).alloc (Nat.le_refl _) _).drew⟩
theorem ne_lit {a : ByteArray} {l : List UInt8} (h : ¬ a = ⟨l.toArray⟩) : (a.toList == l) = false := by
  rw [Lib.toList_data]
  simp only [beq_eq_false_iff_ne, ne_eq]
  intro e
  exact h (ba_ofD e)
def zeroP : Value := partsV ⟨#[]⟩ ⟨#[]⟩ ⟨#[]⟩ ⟨#[]⟩ ⟨#[]⟩ false
set_option maxHeartbeats 2000000 in
theorem splitShown_no (s : ByteArray) (hs : s.size = 29) (h : ¬ s.extract 3 5 = ⟨#[44, 32]⟩ ∨ (s.extract 3 5 = ⟨#[44, 32]⟩ ∧ ¬ (s[7].toNat : Int) = 32) ∨ (s.extract 3 5 = ⟨#[44, 32]⟩ ∧ (s[7].toNat : Int) = 32 ∧ ¬ (s[11].toNat : Int) = 32) ∨
      (s.extract 3 5 = ⟨#[44, 32]⟩ ∧ (s[7].toNat : Int) = 32 ∧ (s[11].toNat : Int) = 32 ∧ ¬ (s[16].toNat : Int) = 32) ∨ (s.extract 3 5 = ⟨#[44, 32]⟩ ∧ (s[7].toNat : Int) = 32 ∧ (s[11].toNat : Int) = 32 ∧ (s[16].toNat : Int) = 32 ∧ ¬ s.extract 25 29 = ⟨#[32, 71, 77, 84]⟩)) (w : World) :
    Calls Tryd.prog 43 #[.string s] w fun e w' => e = .returned (.tuple #[zeroP, .bool false]) ∧ Below w.heap.size w w' := by
  rcases h with h | ⟨e1, h⟩ | ⟨e1, h2, h⟩ | ⟨e1, h2, h3, h⟩ | ⟨e1, h2, h3, h4, h⟩
  · have q1 := ne_list h
    have q2 := ne_lit (l := [44, 32]) h
    clear h
    go_enter Tryd.func43, Tryd.ntmps43
    go_wp2_with fail
    exact bodyPost_ret (v := .tuple #[zeroP, .bool false]) (by simp [results, Tryd.results43, go_sem, partsV, zeroP]) rfl ⟨rfl, (Below.refl _ _).alloc (Nat.le_refl _) _⟩
  · have k2 : ((s[7].toNat : Int) != 32) = true := by simpa using h
    clear h
    go_enter Tryd.func43, Tryd.ntmps43
    go_wp2_with fail
    exact bodyPost_ret (v := .tuple #[zeroP, .bool false]) (by simp [results, Tryd.results43, go_sem, partsV, zeroP]) rfl ⟨rfl, (Below.refl _ _).alloc (Nat.le_refl _) _⟩
  · have k2 : ((s[7].toNat : Int) != 32) = false := by simpa using h2
    have k3 : ((s[11].toNat : Int) != 32) = true := by simpa using h
    clear h h2
    go_enter Tryd.func43, Tryd.ntmps43
    go_wp2_with fail
    exact bodyPost_ret (v := .tuple #[zeroP, .bool false]) (by simp [results, Tryd.results43, go_sem, partsV, zeroP]) rfl ⟨rfl, (Below.refl _ _).alloc (Nat.le_refl _) _⟩
  · have k2 : ((s[7].toNat : Int) != 32) = false := by simpa using h2
    have k3 : ((s[11].toNat : Int) != 32) = false := by simpa using h3
    have k4 : ((s[16].toNat : Int) != 32) = true := by simpa using h
    clear h h2 h3
    go_enter Tryd.func43, Tryd.ntmps43
    go_wp2_with fail
    exact bodyPost_ret (v := .tuple #[zeroP, .bool false]) (by simp [results, Tryd.results43, go_sem, partsV, zeroP]) rfl ⟨rfl, (Below.refl _ _).alloc (Nat.le_refl _) _⟩
  · have k2 : ((s[7].toNat : Int) != 32) = false := by simpa using h2
    have k3 : ((s[11].toNat : Int) != 32) = false := by simpa using h3
    have k4 : ((s[16].toNat : Int) != 32) = false := by simpa using h4
    have q1 := ne_list h
    have q2 := ne_lit (l := [32, 71, 77, 84]) h
    clear h h2 h3 h4
    go_enter Tryd.func43, Tryd.ntmps43
    go_wp2_with fail
    exact bodyPost_ret (v := .tuple #[zeroP, .bool false]) (by simp [results, Tryd.results43, go_sem, partsV, zeroP]) rfl ⟨rfl, (Below.refl _ _).alloc (Nat.le_refl _) _⟩
/-- a block of six cells that may be written -/
def Six (b : Nat) (W : World) : Prop := (∃ x, W.cell? ⟨b, 0, none⟩ = some (.string x)) ∧ (∃ x, W.cell? ⟨b, 1, none⟩ = some (.string x)) ∧ (∃ x, W.cell? ⟨b, 2, none⟩ = some (.string x)) ∧ (∃ x, W.cell? ⟨b, 3, none⟩ = some (.string x)) ∧ (∃ x, W.cell? ⟨b, 4, none⟩ = some (.string x)) ∧ (∃ x, W.cell? ⟨b, 5, none⟩ = some (.bool x)) ∧
  W.frozen? ⟨b, 0, none⟩ = false ∧ W.frozen? ⟨b, 1, none⟩ = false ∧ W.frozen? ⟨b, 2, none⟩ = false ∧ W.frozen? ⟨b, 3, none⟩ = false ∧ W.frozen? ⟨b, 4, none⟩ = false ∧ W.frozen? ⟨b, 5, none⟩ = false ∧ b < W.heap.size
theorem six_below {b : Nat} {W W' : World} (h : Six b W) (hb : Below W.heap.size W W') : Six b W' := by
  obtain ⟨⟨x0, h0⟩, ⟨x1, h1⟩, ⟨x2, h2⟩, ⟨x3, h3⟩, ⟨x4, h4⟩, ⟨x5, h5⟩, f0, f1, f2, f3, f4, f5, hz⟩ := h
  have c : ∀ o, W'.cell? ⟨b, o, none⟩ = W.cell? ⟨b, o, none⟩ := fun o => hb.cell (p := ⟨b, o, none⟩) hz
  have f : ∀ o, W'.frozen? ⟨b, o, none⟩ = W.frozen? ⟨b, o, none⟩ := fun o => hb.frozen (p := ⟨b, o, none⟩) hz
  exact ⟨⟨x0, by rw [c]; exact h0⟩, ⟨x1, by rw [c]; exact h1⟩, ⟨x2, by rw [c]; exact h2⟩, ⟨x3, by rw [c]; exact h3⟩, ⟨x4, by rw [c]; exact h4⟩, ⟨x5, by rw [c]; exact h5⟩, by rw [f]; exact f0, by rw [f]; exact f1, by rw [f]; exact f2, by rw [f]; exact f3, by rw [f]; exact f4, by rw [f]; exact f5, Nat.lt_of_lt_of_le hz hb.size⟩
theorem oth {b i j : Nat} {W : World} {v : Value} (h : j ≠ i) : (W.setCell ⟨b, j, none⟩ v).cell? ⟨b, i, none⟩ = W.cell? ⟨b, i, none⟩ := World.cell?_setCell_other _ _ _ _ (by first | (simp; done) | omega)
def put6 (b : Nat) (W : World) (v0 v1 v2 v3 v4 v5 : Value) : World := (((((W.setCell ⟨b, 0, none⟩ v0).setCell ⟨b, 1, none⟩ v1).setCell ⟨b, 2, none⟩ v2).setCell ⟨b, 3, none⟩ v3).setCell ⟨b, 4, none⟩ v4).setCell ⟨b, 5, none⟩ v5
theorem six_store {b : Nat} {W : World} (h : Six b W) (v0 v1 v2 v3 v4 v5 : Value) :
    (put6 b W v0 v1 v2 v3 v4 v5).cell? ⟨b, 0, none⟩ = some v0 ∧ (put6 b W v0 v1 v2 v3 v4 v5).cell? ⟨b, 1, none⟩ = some v1 ∧ (put6 b W v0 v1 v2 v3 v4 v5).cell? ⟨b, 2, none⟩ = some v2 ∧ (put6 b W v0 v1 v2 v3 v4 v5).cell? ⟨b, 3, none⟩ = some v3 ∧ (put6 b W v0 v1 v2 v3 v4 v5).cell? ⟨b, 4, none⟩ = some v4 ∧ (put6 b W v0 v1 v2 v3 v4 v5).cell? ⟨b, 5, none⟩ = some v5 := by
  obtain ⟨⟨x0, h0⟩, ⟨x1, h1⟩, ⟨x2, h2⟩, ⟨x3, h3⟩, ⟨x4, h4⟩, ⟨x5, h5⟩, _⟩ := h
  unfold put6
  refine ⟨?_, ?_, ?_, ?_, ?_, ?_⟩
  · rw [oth (by decide), oth (by decide), oth (by decide), oth (by decide), oth (by decide)]
    exact World.cell?_setCell_same _ _ _ h0
  · rw [oth (by decide), oth (by decide), oth (by decide), oth (by decide)]
    exact World.cell?_setCell_same (u := .string x1) _ _ _ (by rw [oth (by decide)]; exact h1)
  · rw [oth (by decide), oth (by decide), oth (by decide)]
    exact World.cell?_setCell_same (u := .string x2) _ _ _ (by rw [oth (by decide), oth (by decide)]; exact h2)
  · rw [oth (by decide), oth (by decide)]
    exact World.cell?_setCell_same (u := .string x3) _ _ _ (by rw [oth (by decide), oth (by decide), oth (by decide)]; exact h3)
  · rw [oth (by decide)]
    exact World.cell?_setCell_same (u := .string x4) _ _ _ (by rw [oth (by decide), oth (by decide), oth (by decide), oth (by decide)]; exact h4)
  · exact World.cell?_setCell_same (u := .bool x5) _ _ _ (by rw [oth (by decide), oth (by decide), oth (by decide), oth (by decide), oth (by decide)]; exact h5)
theorem put6_below {w W : World} {b : Nat} (h : Below w.heap.size w W) (hb : w.heap.size ≤ b) (v0 v1 v2 v3 v4 v5 : Value) : Below w.heap.size w (put6 b W v0 v1 v2 v3 v4 v5) :=
  (((((h.setCell hb _).setCell hb _).setCell hb _).setCell hb _).setCell hb _).setCell hb _
theorem six_new (w : World) : Six w.heap.size (w.alloc (.cells #[.string ⟨#[]⟩, .string ⟨#[]⟩, .string ⟨#[]⟩, .string ⟨#[]⟩, .string ⟨#[]⟩, .bool false] 57)) :=
  ⟨⟨⟨#[]⟩, by simp⟩, ⟨⟨#[]⟩, by simp⟩, ⟨⟨#[]⟩, by simp⟩, ⟨⟨#[]⟩, by simp⟩, ⟨⟨#[]⟩, by simp⟩, ⟨false, by simp⟩, by simp, by simp, by simp, by simp, by simp, by simp, by simp⟩
set_option maxHeartbeats 1000000 in
theorem split29 (s : ByteArray) (hs : s.size = 29) (p1 p2 p3 p4 p5 : ByteArray) (p6 b : Bool) (w : World) (c : ∀ W, Below w.heap.size w W → Calls Tryd.prog 43 #[.string s] W fun e w' => e = .returned (.tuple #[partsV p1 p2 p3 p4 p5 p6, .bool b]) ∧ Below W.heap.size W w') :
    Calls Tryd.prog 29 #[.string s] w fun e w' => e = .returned (.tuple #[partsV p1 p2 p3 p4 p5 p6, .bool b]) ∧ Below w.heap.size w w' := by
  unfold partsV at *
  replace c := hide c
  go_enter Tryd.func29, Tryd.ntmps29
  go_wp2_with fail
  refine (c.out _ ((Below.refl _ _).alloc (Nat.le_refl _) _)).mono ?_
  rintro e w1 ⟨rfl, b1⟩
  have B1 : Hid (Below w.heap.size w w1) := ((Below.refl _ _).alloc (Nat.le_refl _) _).trans (b1.mono (by simp))
  have S1 := hide (six_below (six_new w) b1)
  clear b1
  obtain ⟨⟨x0, h0⟩, ⟨x1, h1⟩, ⟨x2, h2⟩, ⟨x3, h3⟩, ⟨x4, h4⟩, ⟨x5, h5⟩, f0, f1, f2, f3, f4, f5, hz⟩ := S1.out
  go_wp2_with fail
  obtain ⟨q0, q1, q2, q3, q4, q5⟩ := six_store S1.out (.string p1) (.string p2) (.string p3) (.string p4) (.string p5) (.bool p6)
  have qb := put6_below B1.out (Nat.le_refl _) (.string p1) (.string p2) (.string p3) (.string p4) (.string p5) (.bool p6)
  unfold put6 at q0 q1 q2 q3 q4 q5 qb
  exact bodyPost_ret (v := .tuple #[.agg #[.string p1, .string p2, .string p3, .string p4, .string p5, .bool p6], .bool b]) (by simp [results, Tryd.results29, go_sem, q0, q1, q2, q3, q4, q5]) rfl ⟨rfl, qb⟩
set_option maxHeartbeats 1000000 in
theorem split24 (s : ByteArray) (hs : s.size = 24) (p1 p2 p3 p4 p5 : ByteArray) (p6 b : Bool) (w : World) (c : ∀ W, Below w.heap.size w W → Calls Tryd.prog 44 #[.string s] W fun e w' => e = .returned (.tuple #[partsV p1 p2 p3 p4 p5 p6, .bool b]) ∧ Below W.heap.size W w') :
    Calls Tryd.prog 29 #[.string s] w fun e w' => e = .returned (.tuple #[partsV p1 p2 p3 p4 p5 p6, .bool b]) ∧ Below w.heap.size w w' := by
  unfold partsV at *
  replace c := hide c
  go_enter Tryd.func29, Tryd.ntmps29
  go_wp2_with fail
  refine (c.out _ ((Below.refl _ _).alloc (Nat.le_refl _) _)).mono ?_
  rintro e w1 ⟨rfl, b1⟩
  have B1 : Hid (Below w.heap.size w w1) := ((Below.refl _ _).alloc (Nat.le_refl _) _).trans (b1.mono (by simp))
  have S1 := hide (six_below (six_new w) b1)
  clear b1
  obtain ⟨⟨x0, h0⟩, ⟨x1, h1⟩, ⟨x2, h2⟩, ⟨x3, h3⟩, ⟨x4, h4⟩, ⟨x5, h5⟩, f0, f1, f2, f3, f4, f5, hz⟩ := S1.out
  go_wp2_with fail
  obtain ⟨q0, q1, q2, q3, q4, q5⟩ := six_store S1.out (.string p1) (.string p2) (.string p3) (.string p4) (.string p5) (.bool p6)
  have qb := put6_below B1.out (Nat.le_refl _) (.string p1) (.string p2) (.string p3) (.string p4) (.string p5) (.bool p6)
  unfold put6 at q0 q1 q2 q3 q4 q5 qb
  exact bodyPost_ret (v := .tuple #[.agg #[.string p1, .string p2, .string p3, .string p4, .string p5, .bool p6], .bool b]) (by simp [results, Tryd.results29, go_sem, q0, q1, q2, q3, q4, q5]) rfl ⟨rfl, qb⟩
set_option maxHeartbeats 1000000 in
theorem splitOther (s : ByteArray) (hs : ¬ s.size = 29) (hs2 : ¬ s.size = 24) (p1 p2 p3 p4 p5 : ByteArray) (p6 b : Bool) (w : World) (c : ∀ W, Below w.heap.size w W → Calls Tryd.prog 45 #[.string s] W fun e w' => e = .returned (.tuple #[partsV p1 p2 p3 p4 p5 p6, .bool b]) ∧ Below W.heap.size W w') :
    Calls Tryd.prog 29 #[.string s] w fun e w' => e = .returned (.tuple #[partsV p1 p2 p3 p4 p5 p6, .bool b]) ∧ Below w.heap.size w w' := by
  unfold partsV at *
  replace c := hide c
  have k1 : ((s.size : Int) == 29) = false := by simp; omega
  have k2 : ((s.size : Int) == 24) = false := by simp; omega
  clear hs hs2
  go_enter Tryd.func29, Tryd.ntmps29
  go_wp2_with fail
  refine (c.out _ ((Below.refl _ _).alloc (Nat.le_refl _) _)).mono ?_
  rintro e w1 ⟨rfl, b1⟩
  have B1 : Hid (Below w.heap.size w w1) := ((Below.refl _ _).alloc (Nat.le_refl _) _).trans (b1.mono (by simp))
  have S1 := hide (six_below (six_new w) b1)
  clear b1
  obtain ⟨⟨x0, h0⟩, ⟨x1, h1⟩, ⟨x2, h2⟩, ⟨x3, h3⟩, ⟨x4, h4⟩, ⟨x5, h5⟩, f0, f1, f2, f3, f4, f5, hz⟩ := S1.out
  go_wp2_with fail
  obtain ⟨q0, q1, q2, q3, q4, q5⟩ := six_store S1.out (.string p1) (.string p2) (.string p3) (.string p4) (.string p5) (.bool p6)
  have qb := put6_below B1.out (Nat.le_refl _) (.string p1) (.string p2) (.string p3) (.string p4) (.string p5) (.bool p6)
  unfold put6 at q0 q1 q2 q3 q4 q5 qb
  exact bodyPost_ret (v := .tuple #[.agg #[.string p1, .string p2, .string p3, .string p4, .string p5, .bool p6], .bool b]) (by simp [results, Tryd.results29, go_sem, q0, q1, q2, q3, q4, q5]) rfl ⟨rfl, qb⟩
end Go.Proofs.YtikokjclhpgocabDoor
