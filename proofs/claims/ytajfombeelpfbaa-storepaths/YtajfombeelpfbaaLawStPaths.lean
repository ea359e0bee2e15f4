/- The walk of StorePaths. -/
import Derived.Test.YtajfombeelpfbaaMidB
import Derived.Lib.AppendStr
import Derived.Laws.DeepStrings4
import Derived.Lib.Strings
import Derived.Deep.RegionHeldLaw
import Derived.Deep.QuietTactic
import Derived.BigQuiet
namespace Go.Proofs.Ytajfombeelpfbaa
open Go.RowKit
/-- a digit -/
def hxB (k : Nat) : UInt8 := [48, 49, 50, 51, 52, 53, 54, 55, 56, 57, 97, 98, 99, 100, 101, 102].getD k 0
theorem hx_get (a : Fin 16) : (((⟨#[48, 49, 50, 51, 52, 53, 54, 55, 56, 57, 97, 98, 99, 100, 101, 102]⟩ : ByteArray)[a.val]'(show a.val < 16 from a.isLt)).toNat : Int) = ((hxB a.val).toNat : Int) := by
  revert a; decide +kernel
theorem hx_cut (a : Fin 16) : ((⟨#[48, 49, 50, 51, 52, 53, 54, 55, 56, 57, 97, 98, 99, 100, 101, 102]⟩ : ByteArray).extract a.val (a.val + 1)).data.toList = [hxB a.val] := by
  revert a; decide +kernel
theorem idx_hx (k : Nat) (h : k < 16) : ∀ W, Sem.run Try.prog (Instr.index 9 (.string ⟨#[48, 49, 50, 51, 52, 53, 54, 55, 56, 57, 97, 98, 99, 100, 101, 102]⟩) (.int .i64 ((k : Nat) : Int))) W = .ok (.int .u8 ((hxB k).toNat : Int)) W := by
  intro W
  rw [run_index_string _ _ _ _ _ Try.underlying9, dif_pos ⟨by omega, by show (k : Int) < 16; omega⟩]
  exact congrArg (fun x => Result.ok (Value.int IntKind.u8 x) W) (hx_get ⟨k, h⟩)
theorem addS (x y : ByteArray) (h : x.size + y.size ≤ 1000000000000000) : ∃ s : ByteArray, (∀ W, (Op.stringOp .add x y).run Try.prog W = .ok (.string s) W) ∧ s.data.toList = x.data.toList ++ y.data.toList ∧ s.size = x.size + y.size :=
  ⟨x ++ y, fun W => run_string_add_sum W _ _ (by omega), by simp [ByteArray.data_append], ByteArray.size_append⟩
theorem ba_of {s t : ByteArray} (h : s.data.toList = t.data.toList) : s = t := by cases s; cases t; simp at h; simp [h]
theorem cut_hx (k : Nat) (h : k < 16) : ∃ X : ByteArray, X.data.toList = [hxB k] ∧ X.size = 1 ∧ ∀ W, Sem.run Try.prog (Instr.slice 9 (.string ⟨#[48, 49, 50, 51, 52, 53, 54, 55, 56, 57, 97, 98, 99, 100, 101, 102]⟩) (some (.int .i64 ((k : Nat) : Int))) (some (.int .i64 (((k : Nat) : Int) + 1))) none) W = .ok (.string X) W := by
  have e := hx_cut ⟨k, h⟩
  generalize hX : (⟨#[48, 49, 50, 51, 52, 53, 54, 55, 56, 57, 97, 98, 99, 100, 101, 102]⟩ : ByteArray).extract k (k + 1) = X at e
  refine ⟨X, e, ?_, fun W => ?_⟩
  · have h1 := congrArg List.length e
    have h2 : X.data.toList.length = X.size := by simp
    rw [← h2, h1]; rfl
  · rw [show ((k : Nat) : Int) + 1 = ((k + 1 : Nat) : Int) by omega, run_slice_string_if W 9 _ .i64 .i64 k (k + 1 : Nat) Try.underlying9]
    simp [hX]
    rw [if_pos ⟨by omega, by show (k : Int) + 1 ≤ 16; omega⟩, if_pos (by omega)]
theorem two_holds (W : World) (x y : UInt8) : HoldsB (W.alloc (.cells #[.int .u8 (x.toNat : Int), .int .u8 (y.toNat : Int)] 5)) (.slice (some ⟨W.heap.size, 0, none⟩) 2 2) [x, y] := by
  refine ⟨_, 2, rfl, fun e => (by cases e), Nat.le_refl _, fun _ => ⟨W.heap.size, 0, rfl, by simp, fun j hj => ?_⟩⟩
  match j, hj with
  | 0, _ => simp [B]
  | 1, _ => simp [B]
theorem hx_str (a b : Nat) : ∃ X : ByteArray, X = ⟨[hxB a, hxB b].toArray⟩ ∧ X.data.toList = [hxB a, hxB b] ∧ X.size = 2 := ⟨_, rfl, rfl, rfl⟩
set_option maxRecDepth 20000 in
set_option maxHeartbeats 1000000 in
theorem twoC (n : Nat) (h : n < 256) : ∃ X : ByteArray, X.data.toList = [hxB (n / 16), hxB (n % 16)] ∧ X.size = 2 ∧ ∀ w, Calls Try.prog 6 #[.int .i64 (n : Int)] w fun e w' => e = .returned (.string X) ∧ Below w.heap.size w w' := by
  obtain ⟨X, hX, l, z⟩ := hx_str (n / 16) (n % 16)
  refine ⟨X, l, z, fun w => ?_⟩
  have d1 : (n : Int).tdiv 16 = ((n / 16 : Nat) : Int) := by rw [Int.tdiv_eq_ediv_of_nonneg (by omega)]; omega
  have d2 : (n : Int).tmod 16 = ((n % 16 : Nat) : Int) := by rw [Int.tmod_eq_emod_of_nonneg (by omega)]; omega
  have d3 : (n : Int) / 16 = ((n / 16 : Nat) : Int) := by omega
  have d4 : (n : Int) % 16 = ((n % 16 : Nat) : Int) := by omega
  have c1 := conv_holds (two_holds w (hxB (n / 16)) (hxB (n % 16)))
  have c2 := conv_holds (two_holds w.drew (hxB (n / 16)) (hxB (n % 16)))
  have c3 := conv_holds (holdsB_mono (two_holds w (hxB (n / 16)) (hxB (n % 16))) (Below.refl _ _).drew)
  rw [← hX] at c1 c2 c3
  have la : n / 16 < 16 := by omega
  have lb : n % 16 < 16 := by omega
  have la' : ((n / 16 : Nat) : Int) < 16 := by omega
  have lb' : ((n % 16 : Nat) : Int) < 16 := by omega
  have hs : (⟨#[48, 49, 50, 51, 52, 53, 54, 55, 56, 57, 97, 98, 99, 100, 101, 102]⟩ : ByteArray).size = 16 := rfl
  clear l z hX h
  generalize n / 16 = a at d1 d3 c1 c2 c3 la la'
  generalize n % 16 = b at d2 d4 c1 c2 c3 lb lb'
  have wa : IntKind.i64.wrap (a : Int) = a := by rw [IntKind.wrap_i64]; omega
  have wb : IntKind.i64.wrap (b : Int) = b := by rw [IntKind.wrap_i64]; omega
  have i1 := hx_get ⟨a, la⟩
  have i2 := hx_get ⟨b, lb⟩
  dsimp only at i1 i2
  rw [← i1, ← i2] at c1 c2 c3
  clear i1 i2
  go_enter Try.func6, Try.ntmps6
  go_wp2_with fail
  go_region_held_law (fun _ => True) (trivial) (fail)
  all_goals
    go_wp2_with fail
    go_ret
    exact ⟨rfl, by first | exact below_alloc' _ _ | exact (below_alloc' _ _).drew | exact (Below.refl _ _).drew.alloc (Nat.le_refl _) _⟩
/-- the name of the file of a number -/
def pathL (n : Nat) : List UInt8 := [111, 47, hxB (n / 64 / 16), hxB (n / 64 % 16), 47, hxB (n % 64 / 16), hxB (n % 64 % 16)]
def pathB (z : Int) : ByteArray := if z < 0 ∨ 4096 ≤ z then ⟨#[]⟩ else ⟨(pathL z.toNat).toArray⟩
set_option maxRecDepth 20000 in
set_option maxHeartbeats 1000000 in
theorem pathC (z : Int) (w : World) : Calls Try.prog 4 #[.int .i64 z] w fun e w' => e = .returned (.string (pathB z)) ∧ Below w.heap.size w w' := by
  by_cases h0 : z < 0
  · have E : Hid (pathB z = ⟨#[]⟩) := by unfold Hid pathB; rw [if_pos (.inl h0)]
    rw [E.out]
    have d0 : decide (z < 0) = true := by simpa using h0
    clear h0
    go_enter Try.func4, Try.ntmps4
    go_wp2_with fail
    go_ret
    exact ⟨rfl, Below.refl _ _⟩
  have d0 : decide (z < 0) = false := by simpa using h0
  by_cases h1 : 4096 ≤ z
  · have E : Hid (pathB z = ⟨#[]⟩) := by unfold Hid pathB; rw [if_pos (.inr h1)]
    rw [E.out]
    have d1 : decide (4096 ≤ z) = true := by simpa using h1
    clear h0 h1
    go_enter Try.func4, Try.ntmps4
    go_wp2_with fail
    go_ret
    exact ⟨rfl, Below.refl _ _⟩
  have d1 : decide (4096 ≤ z) = false := by simpa using h1
  obtain ⟨n, rfl⟩ : ∃ n : Nat, z = n := ⟨z.toNat, by omega⟩
  have hn : n < 4096 := by omega
  have E : Hid (pathB n = ⟨(pathL n).toArray⟩) := by unfold Hid pathB; rw [if_neg (by omega), Int.toNat_natCast]
  have e1 : (n : Int).tdiv 64 = ((n / 64 : Nat) : Int) := by rw [Int.tdiv_eq_ediv_of_nonneg (by omega)]; omega
  have e2 : (n : Int).tmod 64 = ((n % 64 : Nat) : Int) := by rw [Int.tmod_eq_emod_of_nonneg (by omega)]; omega
  have e7 : (n : Int) / 64 = ((n / 64 : Nat) : Int) := by omega
  have e8 : (n : Int) % 64 = ((n % 64 : Nat) : Int) := by omega
  obtain ⟨X, l1, z3, C1'⟩ := twoC (n / 64) (by omega)
  obtain ⟨Y, l2, z4, C2'⟩ := twoC (n % 64) (by omega)
  have C1 := hide' C1'
  have C2 := hide' C2'
  clear C1' C2'
  have z1 : (⟨#[111, 47]⟩ : ByteArray).size = 2 := rfl
  have z2 : (⟨#[47]⟩ : ByteArray).size = 1 := rfl
  obtain ⟨X1, a1, m1, s1⟩ := addS ⟨#[111, 47]⟩ X (by omega)
  obtain ⟨X2, a2, m2, s2⟩ := addS X1 ⟨#[47]⟩ (by omega)
  obtain ⟨X3, a3, m3, s3⟩ := addS X2 Y (by omega)
  have EX : Hid (X3 = pathB n) := by
    unfold Hid
    rw [E.out]
    refine ba_of ?_
    rw [m3, m2, m1, l1, l2]
    simp [pathL]
  have wa : IntKind.i64.wrap ((n / 64 : Nat) : Int) = ((n / 64 : Nat) : Int) := by rw [IntKind.wrap_i64]; omega
  generalize n / 64 = a at e1 e7 C1 wa
  generalize n % 64 = b at e2 e8 C2
  clear E m1 m2 m3 l1 l2 h0 h1 hn
  go_enter Try.func4, Try.ntmps4
  go_wp2_with fail
  refine (C1.out _).mono ?_
  rintro e w1 ⟨rfl, b1⟩
  have B1 := hide' b1
  clear b1
  go_wp2_with fail
  refine (C2.out _).mono ?_
  rintro e w2 ⟨rfl, b2⟩
  have B2 := hide' (B1.out.trans (b2.mono B1.out.size))
  clear b2
  go_wp2_with fail
  go_ret
  rw [← EX.out]
  exact ⟨rfl, B2.out⟩
set_option maxRecDepth 20000 in
set_option maxHeartbeats 2000000 in
theorem pathRC (z : Int) (w : World) : Calls Try.prog 5 #[.int .i64 z] w fun e w' => e = .returned (.string (pathB z)) ∧ Below w.heap.size w w' := by
  by_cases h0 : z < 0
  · have E : Hid (pathB z = ⟨#[]⟩) := by unfold Hid pathB; rw [if_pos (.inl h0)]
    rw [E.out]
    have d0 : decide (z < 0) = true := by simpa using h0
    clear h0
    go_enter Try.func5, Try.ntmps5
    go_wp2_with fail
    go_ret
    exact ⟨rfl, Below.refl _ _⟩
  have d0 : decide (z < 0) = false := by simpa using h0
  by_cases h1 : 4096 ≤ z
  · have E : Hid (pathB z = ⟨#[]⟩) := by unfold Hid pathB; rw [if_pos (.inr h1)]
    rw [E.out]
    have d1 : decide (4096 ≤ z) = true := by simpa using h1
    clear h0 h1
    go_enter Try.func5, Try.ntmps5
    go_wp2_with fail
    go_ret
    exact ⟨rfl, Below.refl _ _⟩
  have d1 : decide (4096 ≤ z) = false := by simpa using h1
  obtain ⟨n, rfl⟩ : ∃ n : Nat, z = n := ⟨z.toNat, by omega⟩
  have hn : n < 4096 := by omega
  have E : Hid (pathB n = ⟨(pathL n).toArray⟩) := by unfold Hid pathB; rw [if_neg (by omega), Int.toNat_natCast]
  have e1 : (n : Int).tdiv 64 = ((n / 64 : Nat) : Int) := by rw [Int.tdiv_eq_ediv_of_nonneg (by omega)]; omega
  have e2 : (n : Int).tmod 64 = ((n % 64 : Nat) : Int) := by rw [Int.tmod_eq_emod_of_nonneg (by omega)]; omega
  have e3 : ((n / 64 : Nat) : Int).tdiv 16 = ((n / 64 / 16 : Nat) : Int) := by rw [Int.tdiv_eq_ediv_of_nonneg (by omega)]; omega
  have e4 : ((n / 64 : Nat) : Int).tmod 16 = ((n / 64 % 16 : Nat) : Int) := by rw [Int.tmod_eq_emod_of_nonneg (by omega)]; omega
  have e5 : ((n % 64 : Nat) : Int).tdiv 16 = ((n % 64 / 16 : Nat) : Int) := by rw [Int.tdiv_eq_ediv_of_nonneg (by omega)]; omega
  have e6 : ((n % 64 : Nat) : Int).tmod 16 = ((n % 64 % 16 : Nat) : Int) := by rw [Int.tmod_eq_emod_of_nonneg (by omega)]; omega
  have e7 : (n : Int) / 64 = ((n / 64 : Nat) : Int) := by omega
  have e8 : (n : Int) % 64 = ((n % 64 : Nat) : Int) := by omega
  have f3 : ((n / 64 : Nat) : Int) / 16 = ((n / 64 / 16 : Nat) : Int) := by omega
  have f4 : ((n / 64 : Nat) : Int) % 16 = ((n / 64 % 16 : Nat) : Int) := by omega
  have f5 : ((n % 64 : Nat) : Int) / 16 = ((n % 64 / 16 : Nat) : Int) := by omega
  have f6 : ((n % 64 : Nat) : Int) % 16 = ((n % 64 % 16 : Nat) : Int) := by omega
  obtain ⟨A1, l1, z1, c1⟩ := cut_hx (n / 64 / 16) (by omega)
  obtain ⟨A2, l2, z2, c2⟩ := cut_hx (n / 64 % 16) (by omega)
  obtain ⟨A3, l3, z3, c3⟩ := cut_hx (n % 64 / 16) (by omega)
  obtain ⟨A4, l4, z4, c4⟩ := cut_hx (n % 64 % 16) (by omega)
  have y1 : (⟨#[111, 47]⟩ : ByteArray).size = 2 := rfl
  have y2 : (⟨#[47]⟩ : ByteArray).size = 1 := rfl
  obtain ⟨X1, a1, m1, s1⟩ := addS ⟨#[111, 47]⟩ A1 (by omega)
  obtain ⟨X2, a2, m2, s2⟩ := addS X1 A2 (by omega)
  obtain ⟨X3, a3, m3, s3⟩ := addS X2 ⟨#[47]⟩ (by omega)
  obtain ⟨X4, a4, m4, s4⟩ := addS X3 A3 (by omega)
  obtain ⟨X5, a5, m5, s5⟩ := addS X4 A4 (by omega)
  have EX : Hid (X5 = pathB n) := by
    unfold Hid
    rw [E.out]
    refine ba_of ?_
    rw [m5, m4, m3, m2, m1, l1, l2, l3, l4]
    simp [pathL]
  have q1 : n / 64 / 16 < 16 := by omega
  have q2 : n / 64 % 16 < 16 := by omega
  have q3 : n % 64 / 16 < 16 := by omega
  have q4 : n % 64 % 16 < 16 := by omega
  have w1 : IntKind.i64.wrap ((n / 64 : Nat) : Int) = ((n / 64 : Nat) : Int) := by rw [IntKind.wrap_i64]; omega
  have w2 : IntKind.i64.wrap ((n / 64 / 16 : Nat) : Int) = ((n / 64 / 16 : Nat) : Int) := by rw [IntKind.wrap_i64]; omega
  have w3 : IntKind.i64.wrap ((n % 64 / 16 : Nat) : Int) = ((n % 64 / 16 : Nat) : Int) := by rw [IntKind.wrap_i64]; omega
  clear E m1 m2 m3 m4 m5 l1 l2 l3 l4 h0 h1
  generalize n / 64 / 16 = b1 at e3 f3 c1 q1 w2
  generalize n / 64 % 16 = b2 at e4 f4 c2 q2
  generalize n % 64 / 16 = b3 at e5 f5 c3 q3 w3
  generalize n % 64 % 16 = b4 at e6 f6 c4 q4
  generalize n / 64 = a at e1 e7 e3 e4 f3 f4 w1
  generalize n % 64 = b at e2 e8 e5 e6 f5 f6
  go_enter Try.func5, Try.ntmps5
  go_wp2_with fail
  go_quiet (fail)
  go_wp2_with fail
  go_ret
  rw [← EX.out]
  exact ⟨rfl, by first | exact below_drewN _ _ | exact Below.refl _ _ | exact (Below.refl _ _).drew⟩
set_option maxRecDepth 20000 in
set_option maxHeartbeats 1000000 in
theorem pathsW (z : Int) (w : World) : Calls Try.prog 3 #[.int .i64 z] w fun e w' => e = .returned (.bool true) ∧ Below w.heap.size w w' := by
  have E0 : pathB 0 = ⟨#[111, 47, 48, 48, 47, 48, 48]⟩ := by decide +kernel
  have C0 := hide' (pathC 0)
  rw [E0] at C0
  have C1 := hide' (pathC z)
  have C2 := hide' (pathRC z)
  generalize pathB z = P at C1 C2
  clear E0
  go_enter Try.func3, Try.ntmps3
  go_wp2_with fail
  refine (C0.out _).mono ?_
  rintro e w1 ⟨rfl, b1⟩
  have B1 := hide' b1
  clear b1
  go_wp2_with fail
  refine (C1.out _).mono ?_
  rintro e w2 ⟨rfl, b2⟩
  have B2 := hide' (B1.out.trans (b2.mono B1.out.size))
  clear b2
  go_wp2_with fail
  refine (C2.out _).mono ?_
  rintro e w3 ⟨rfl, b3⟩
  have B3 := hide' (B2.out.trans (b3.mono B2.out.size))
  clear b3
  go_wp2_with fail
  go_ret
  exact ⟨rfl, B3.out⟩
end Go.Proofs.Ytajfombeelpfbaa
