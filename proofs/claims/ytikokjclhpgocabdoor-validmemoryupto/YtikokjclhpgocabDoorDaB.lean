/- The contracts of splitBlank and splitDashed. -/
import Derived.Test.YtikokjclhpgocabDoorDaQ
import Derived.Test.YtikokjclhpgocabDoorShelfB
import Derived.Lib.IndexMore
import Derived.Shelf.Vars
namespace Go.Proofs.YtikokjclhpgocabDoor
open Go.RowKit
set_option maxHeartbeats 2000000 in
theorem splitBlank_yes (s x dd : ByteArray) (hs : s.size = 24) (e1 : (s[3].toNat : Int) = 32) (e2 : (s[7].toNat : Int) = 32) (e3 : (s[10].toNat : Int) = 32) (e4 : (s[19].toNat : Int) = 32) (hx : s.extract 8 10 = x) (zx : x.size = 2)
    (hd : ((x[0].toNat : Int) = 32 ∧ dd = x.extract 1 2) ∨ (¬ (x[0].toNat : Int) = 32 ∧ ¬ (x[0].toNat : Int) = 48 ∧ dd = x)) (w : World) :
    Calls Tryd.prog 44 #[.string s] w fun e w' => e = .returned (.tuple #[partsV (s.extract 0 3) dd (s.extract 4 7) (s.extract 20 24) (s.extract 11 19) false, .bool true]) ∧ Below w.heap.size w w' := by
  have k1 : ((s[3].toNat : Int) != 32) = false := by simpa using e1
  have k2 : ((s[7].toNat : Int) != 32) = false := by simpa using e2
  have k3 : ((s[10].toNat : Int) != 32) = false := by simpa using e3
  have k4 : ((s[19].toNat : Int) != 32) = false := by simpa using e4
  clear e1 e2 e3 e4
  rcases hd with ⟨h, rfl⟩ | ⟨h, h', rfl⟩
  · have q1 : ((x[0].toNat : Int) == 48) = false := by simp; omega
    have q2 : ((x[0].toNat : Int) == 32) = true := by simpa using h
    clear h
    go_enter Tryd.func44, Tryd.ntmps44
    go_wp2_with fail
    go_region_held3 (fun _ => True) (trivial) (fail)
    go_wp2_with fail
    exact bodyPost_ret (v := .tuple #[partsV (s.extract 0 3) (x.extract 1 2) (s.extract 4 7) (s.extract 20 24) (s.extract 11 19) false, .bool true]) (by simp [results, Tryd.results44, go_sem, partsV]) rfl ⟨rfl, ((Below.refl _ _).alloc (Nat.le_refl _) _).drew⟩
  · have q1 : ((dd[0].toNat : Int) == 48) = false := by simpa using h'
    have q2 : ((dd[0].toNat : Int) == 32) = false := by simpa using h
    clear h h'
    go_enter Tryd.func44, Tryd.ntmps44
    go_wp2_with fail
    go_region_held3 (fun _ => True) (trivial) (fail)
    go_wp2_with fail
    exact bodyPost_ret (v := .tuple #[partsV (s.extract 0 3) dd (s.extract 4 7) (s.extract 20 24) (s.extract 11 19) false, .bool true]) (by simp [results, Tryd.results44, go_sem, partsV]) rfl ⟨rfl, ((Below.refl _ _).alloc (Nat.le_refl _) _).drew⟩
set_option maxHeartbeats 2000000 in
theorem splitBlank_no (s x : ByteArray) (hs : s.size = 24) (hx : s.extract 8 10 = x) (zx : x.size = 2)
    (h : (¬ (s[3].toNat : Int) = 32) ∨ ((s[3].toNat : Int) = 32 ∧ ¬ (s[7].toNat : Int) = 32) ∨ ((s[3].toNat : Int) = 32 ∧ (s[7].toNat : Int) = 32 ∧ ¬ (s[10].toNat : Int) = 32) ∨ ((s[3].toNat : Int) = 32 ∧ (s[7].toNat : Int) = 32 ∧ (s[10].toNat : Int) = 32 ∧ ¬ (s[19].toNat : Int) = 32) ∨ ((s[3].toNat : Int) = 32 ∧ (s[7].toNat : Int) = 32 ∧ (s[10].toNat : Int) = 32 ∧ (s[19].toNat : Int) = 32 ∧ (x[0].toNat : Int) = 48)) (w : World) :
    Calls Tryd.prog 44 #[.string s] w fun e w' => e = .returned (.tuple #[zeroP, .bool false]) ∧ Below w.heap.size w w' := by
  rcases h with h | ⟨h0, h⟩ | ⟨h0, h1, h⟩ | ⟨h0, h1, h2, h⟩ | ⟨h0, h1, h2, h3, h⟩
  · have k0 : ((s[3].toNat : Int) != 32) = true := by simpa using h
    clear h
    go_enter Tryd.func44, Tryd.ntmps44
    go_wp2_with fail
    exact bodyPost_ret (v := .tuple #[zeroP, .bool false]) (by simp [results, Tryd.results44, go_sem, partsV, zeroP]) rfl ⟨rfl, (Below.refl _ _).alloc (Nat.le_refl _) _⟩
  · have k0 : ((s[3].toNat : Int) != 32) = false := by simpa using h0
    have k1 : ((s[7].toNat : Int) != 32) = true := by simpa using h
    clear h h0
    go_enter Tryd.func44, Tryd.ntmps44
    go_wp2_with fail
    exact bodyPost_ret (v := .tuple #[zeroP, .bool false]) (by simp [results, Tryd.results44, go_sem, partsV, zeroP]) rfl ⟨rfl, (Below.refl _ _).alloc (Nat.le_refl _) _⟩
  · have k0 : ((s[3].toNat : Int) != 32) = false := by simpa using h0
    have k1 : ((s[7].toNat : Int) != 32) = false := by simpa using h1
    have k2 : ((s[10].toNat : Int) != 32) = true := by simpa using h
    clear h h0 h1
    go_enter Tryd.func44, Tryd.ntmps44
    go_wp2_with fail
    exact bodyPost_ret (v := .tuple #[zeroP, .bool false]) (by simp [results, Tryd.results44, go_sem, partsV, zeroP]) rfl ⟨rfl, (Below.refl _ _).alloc (Nat.le_refl _) _⟩
  · have k0 : ((s[3].toNat : Int) != 32) = false := by simpa using h0
    have k1 : ((s[7].toNat : Int) != 32) = false := by simpa using h1
    have k2 : ((s[10].toNat : Int) != 32) = false := by simpa using h2
    have k3 : ((s[19].toNat : Int) != 32) = true := by simpa using h
    clear h h0 h1 h2
    go_enter Tryd.func44, Tryd.ntmps44
    go_wp2_with fail
    exact bodyPost_ret (v := .tuple #[zeroP, .bool false]) (by simp [results, Tryd.results44, go_sem, partsV, zeroP]) rfl ⟨rfl, (Below.refl _ _).alloc (Nat.le_refl _) _⟩
  · have k0 : ((s[3].toNat : Int) != 32) = false := by simpa using h0
    have k1 : ((s[7].toNat : Int) != 32) = false := by simpa using h1
    have k2 : ((s[10].toNat : Int) != 32) = false := by simpa using h2
    have k3 : ((s[19].toNat : Int) != 32) = false := by simpa using h3
    have k4 : ((x[0].toNat : Int) == 48) = true := by simpa using h
    clear h h0 h1 h2 h3
    go_enter Tryd.func44, Tryd.ntmps44
    go_wp2_with fail
    exact bodyPost_ret (v := .tuple #[zeroP, .bool false]) (by simp [results, Tryd.results44, go_sem, partsV, zeroP]) rfl ⟨rfl, (Below.refl _ _).alloc (Nat.le_refl _) _⟩
theorem below_drawn2 {B : Nat} {a w : World} (h : Below B a w) (n : Nat) : Below B a (w.drewN n) := by
  induction n with
  | zero => exact h
  | succ n ih => exact ih.drew
set_option maxHeartbeats 4000000 in
theorem splitDashed_yes (s a b ce : ByteArray) (hb : b.size = 22) (e1 : (b[2].toNat : Int) = 45) (e2 : (b[6].toNat : Int) = 45) (e3 : (b[9].toNat : Int) = 32) (e4 : b.extract 18 22 = ⟨#[32, 71, 77, 84]⟩)
    (hc : (55 ≤ (b[7].toNat : Int) ∧ ce = ⟨#[49, 57]⟩) ∨ ((b[7].toNat : Int) < 55 ∧ ce = ⟨#[50, 48]⟩)) (w : World) (cC : ∀ W, Below w.heap.size w W → Calls Tryd.prog 55 #[.string s, .string ⟨#[44, 32]⟩] W fun e w' => e = .returned (.tuple #[.string a, .string b, .bool true]) ∧ ∃ n, w' = W.drewN n) :
    Calls Tryd.prog 45 #[.string s] w fun e w' => e = .returned (.tuple #[partsV a (b.extract 0 2) (b.extract 3 6) (ce ++ b.extract 7 9) (b.extract 10 18) true, .bool true]) ∧ Below w.heap.size w w' := by
  have k1 : ((b[2].toNat : Int) != 45) = false := by simpa using e1
  have k2 : ((b[6].toNat : Int) != 45) = false := by simpa using e2
  have k3 : ((b[9].toNat : Int) != 32) = false := by simpa using e3
  have z79 : (b.extract 7 9).size = 2 := by rw [ByteArray.size_extract]; omega
  have b7 := byte_lt b[7]
  replace cC := hide cC
  clear e1 e2 e3
  rcases hc with ⟨h, rfl⟩ | ⟨h, rfl⟩
  · go_enter Tryd.func45, Tryd.ntmps45
    go_wp2_with fail
    refine (cC.out _ ((Below.refl _ _).alloc (Nat.le_refl _) _)).mono ?_
    rintro e w1 ⟨rfl, n, rfl⟩
    go_wp2_with fail
    clear e4 k1 k2 k3
    go_region_held3 (fun _ => True) (trivial) (fail)
    go_wp2_with fail
    refine bodyPost_ret (v := .tuple #[partsV a (b.extract 0 2) (b.extract 3 6) (⟨#[49, 57]⟩ ++ b.extract 7 9) (b.extract 10 18) true, .bool true]) (by simp [results, Tryd.results45, go_sem, partsV]) rfl ⟨rfl, ?_⟩
    exact put6_below (below_drawn2 ((Below.refl _ _).alloc (Nat.le_refl _) _) _) (Nat.le_refl _) _ _ _ _ _ _
  · go_enter Tryd.func45, Tryd.ntmps45
    go_wp2_with fail
    refine (cC.out _ ((Below.refl _ _).alloc (Nat.le_refl _) _)).mono ?_
    rintro e w1 ⟨rfl, n, rfl⟩
    go_wp2_with fail
    clear e4 k1 k2 k3
    go_region_held3 (fun _ => True) (trivial) (fail)
    go_wp2_with fail
    refine bodyPost_ret (v := .tuple #[partsV a (b.extract 0 2) (b.extract 3 6) (⟨#[50, 48]⟩ ++ b.extract 7 9) (b.extract 10 18) true, .bool true]) (by simp [results, Tryd.results45, go_sem, partsV]) rfl ⟨rfl, ?_⟩
    exact put6_below (below_drawn2 ((Below.refl _ _).alloc (Nat.le_refl _) _) _) (Nat.le_refl _) _ _ _ _ _ _
set_option maxHeartbeats 600000 in
theorem splitDashed_no0 (s a b : ByteArray) (f : Bool) (h : f = false ∨ (f = true ∧ ¬ b.size = 22)) (w : World) (cC : ∀ W, Below w.heap.size w W → Calls Tryd.prog 55 #[.string s, .string ⟨#[44, 32]⟩] W fun e w' => e = .returned (.tuple #[.string a, .string b, .bool f]) ∧ ∃ n, w' = W.drewN n) :
    Calls Tryd.prog 45 #[.string s] w fun e w' => e = .returned (.tuple #[zeroP, .bool false]) ∧ Below w.heap.size w w' := by
  replace cC := hide cC
  rcases h with rfl | ⟨rfl, h⟩
  · go_enter Tryd.func45, Tryd.ntmps45
    go_wp2_with fail
    refine (cC.out _ ((Below.refl _ _).alloc (Nat.le_refl _) _)).mono ?_
    rintro e w1 ⟨rfl, n, rfl⟩
    go_wp2_with fail
    exact bodyPost_ret (v := .tuple #[zeroP, .bool false]) (by simp [results, Tryd.results45, go_sem, partsV, zeroP]) rfl ⟨rfl, put6_below (below_drawn2 ((Below.refl _ _).alloc (Nat.le_refl _) _) _) (Nat.le_refl _) _ _ _ _ _ _⟩
  · have q : ((b.size : Int) != 22) = true := by simp; omega
    clear h
    go_enter Tryd.func45, Tryd.ntmps45
    go_wp2_with fail
    refine (cC.out _ ((Below.refl _ _).alloc (Nat.le_refl _) _)).mono ?_
    rintro e w1 ⟨rfl, n, rfl⟩
    go_wp2_with fail
    exact bodyPost_ret (v := .tuple #[zeroP, .bool false]) (by simp [results, Tryd.results45, go_sem, partsV, zeroP]) rfl ⟨rfl, put6_below (below_drawn2 ((Below.refl _ _).alloc (Nat.le_refl _) _) _) (Nat.le_refl _) _ _ _ _ _ _⟩
set_option maxHeartbeats 600000 in
theorem splitDashed_no1 (s a b : ByteArray) (hb : b.size = 22) (h : (¬ (b[2].toNat : Int) = 45) ∨ ((b[2].toNat : Int) = 45 ∧ ¬ (b[6].toNat : Int) = 45) ∨ ((b[2].toNat : Int) = 45 ∧ (b[6].toNat : Int) = 45 ∧ ¬ (b[9].toNat : Int) = 32) ∨ ((b[2].toNat : Int) = 45 ∧ (b[6].toNat : Int) = 45 ∧ (b[9].toNat : Int) = 32 ∧ ¬ b.extract 18 22 = ⟨#[32, 71, 77, 84]⟩)) (w : World) (cC : ∀ W, Below w.heap.size w W → Calls Tryd.prog 55 #[.string s, .string ⟨#[44, 32]⟩] W fun e w' => e = .returned (.tuple #[.string a, .string b, .bool true]) ∧ ∃ n, w' = W.drewN n) :
    Calls Tryd.prog 45 #[.string s] w fun e w' => e = .returned (.tuple #[zeroP, .bool false]) ∧ Below w.heap.size w w' := by
  replace cC := hide cC
  rcases h with h | ⟨h1, h⟩ | ⟨h1, h2, h⟩ | ⟨h1, h2, h3, h⟩
  · have k0 : ((b[2].toNat : Int) != 45) = true := by simpa using h
    clear h
    go_enter Tryd.func45, Tryd.ntmps45
    go_wp2_with fail
    refine (cC.out _ ((Below.refl _ _).alloc (Nat.le_refl _) _)).mono ?_
    rintro e w1 ⟨rfl, n, rfl⟩
    go_wp2_with fail
    exact bodyPost_ret (v := .tuple #[zeroP, .bool false]) (by simp [results, Tryd.results45, go_sem, partsV, zeroP]) rfl ⟨rfl, put6_below (below_drawn2 ((Below.refl _ _).alloc (Nat.le_refl _) _) _) (Nat.le_refl _) _ _ _ _ _ _⟩
  · have k0 : ((b[2].toNat : Int) != 45) = false := by simpa using h1
    have k1 : ((b[6].toNat : Int) != 45) = true := by simpa using h
    clear h h1
    go_enter Tryd.func45, Tryd.ntmps45
    go_wp2_with fail
    refine (cC.out _ ((Below.refl _ _).alloc (Nat.le_refl _) _)).mono ?_
    rintro e w1 ⟨rfl, n, rfl⟩
    go_wp2_with fail
    exact bodyPost_ret (v := .tuple #[zeroP, .bool false]) (by simp [results, Tryd.results45, go_sem, partsV, zeroP]) rfl ⟨rfl, put6_below (below_drawn2 ((Below.refl _ _).alloc (Nat.le_refl _) _) _) (Nat.le_refl _) _ _ _ _ _ _⟩
  · have k0 : ((b[2].toNat : Int) != 45) = false := by simpa using h1
    have k1 : ((b[6].toNat : Int) != 45) = false := by simpa using h2
    have k2 : ((b[9].toNat : Int) != 32) = true := by simpa using h
    clear h h1 h2
    go_enter Tryd.func45, Tryd.ntmps45
    go_wp2_with fail
    refine (cC.out _ ((Below.refl _ _).alloc (Nat.le_refl _) _)).mono ?_
    rintro e w1 ⟨rfl, n, rfl⟩
    go_wp2_with fail
    exact bodyPost_ret (v := .tuple #[zeroP, .bool false]) (by simp [results, Tryd.results45, go_sem, partsV, zeroP]) rfl ⟨rfl, put6_below (below_drawn2 ((Below.refl _ _).alloc (Nat.le_refl _) _) _) (Nat.le_refl _) _ _ _ _ _ _⟩
  · have k0 : ((b[2].toNat : Int) != 45) = false := by simpa using h1
    have k1 : ((b[6].toNat : Int) != 45) = false := by simpa using h2
    have k2 : ((b[9].toNat : Int) != 32) = false := by simpa using h3
    have q1 := ne_list h
    have q2 := ne_lit (l := [32, 71, 77, 84]) h
    clear h h1 h2 h3
    go_enter Tryd.func45, Tryd.ntmps45
    go_wp2_with fail
    refine (cC.out _ ((Below.refl _ _).alloc (Nat.le_refl _) _)).mono ?_
    rintro e w1 ⟨rfl, n, rfl⟩
    go_wp2_with fail
    exact bodyPost_ret (v := .tuple #[zeroP, .bool false]) (by simp [results, Tryd.results45, go_sem, partsV, zeroP]) rfl ⟨rfl, put6_below (below_drawn2 ((Below.refl _ _).alloc (Nat.le_refl _) _) _) (Nat.le_refl _) _ _ _ _ _ _⟩
/-- the variable of the greatest length that the library searches by brute force holds some integer -/
def MaxVD (w : World) : Prop := ∃ m, w.cell? ⟨3, 0, none⟩ = some (.int .i64 m)
theorem maxVD_of {w : World} (h : w.ShapedOpen Tryd.prog) : MaxVD w := cell_of_shapedOpen_int (g := 3) (t := 3) (zero := #[.int .i64 0]) h (of_decide_eq_true (by kernel_rfl)) (by kernel_rfl) rfl (by kernel_rfl) (by kernel_rfl) Tryd.underlying3
theorem MaxVD.below {w w' : World} (h : MaxVD w) (b : Below w.heap.size w w') : MaxVD w' := by
  obtain ⟨m, hm⟩ := h
  exact ⟨m, by rw [b.cell (p := ⟨3, 0, none⟩) (World.block_lt_of_cell? _ _ hm)]; exact hm⟩
theorem cutCode (s : ByteArray) (hs : s.size < 4294967281) (w : World) (M : MaxVD w) :
    ∀ W, Below w.heap.size w W → Calls Tryd.prog 55 #[.string s, .string ⟨#[44, 32]⟩] W fun e w' => e = .returned (.tuple #[.string ⟨(Lib.cut s.data.toList [44, 32]).1.toArray⟩, .string ⟨(Lib.cut s.data.toList [44, 32]).2.1.toArray⟩, .bool (Lib.cut s.data.toList [44, 32]).2.2]) ∧ ∃ n, w' = W.drewN n := by
  intro W hW
  obtain ⟨m, hm⟩ := M.below hW
  exact Any.strings_Cut Tryd.lays145 s ⟨#[44, 32]⟩ m W hs hm
end Go.Proofs.YtikokjclhpgocabDoor
