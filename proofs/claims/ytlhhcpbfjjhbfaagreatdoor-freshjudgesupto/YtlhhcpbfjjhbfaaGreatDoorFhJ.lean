/- The contract of the document's Judge. -/
import Derived.Test.YtlhhcpbfjjhbfaaGreatDoorBu
namespace Go.Proofs.YtlhhcpbfjjhbfaaGreatDoor
open Go.RowKit
set_option maxRecDepth 20000 in
set_option maxHeartbeats 8000000 in
theorem judgeRC (K V R : ByteArray) (s k a g : Int) (ao ba : Option Addr) (n m ca bc : Nat) (p0 p1 p2 p3 : Int) (u0 u1 u2 u3 u4 u5 : Bool) (v6 v7 v8 v9 : Int) (now : Int) (fs : FL) (b0 b1 b2 b3 b4 b5 : Bool) (n6 n7 n8 n9 : Int) (d x y : Int) (w : World) (hv : HoldsF w (.slice ao n ca) fs) (hb : bulkF fs ≤ 1048576) (T : Told fs b0 b1 b2 b3 b4 b5 n6 n7 n8 n9) (D : DtB (joinOf (valsOf fs dab)) d) (X : DtB (joinOf (valsOf fs exb)) x) (Y : DtB (joinOf (valsOf fs lmb)) y) :
    Calls Tryz.prog 13 #[.agg #[.bool u0, .bool u1, .bool u2, .bool u3, .bool u4, .bool u5, .int .i64 v6, .int .i64 v7, .int .i64 v8, .int .i64 v9], .agg #[.string K, .string V, .int .i64 s, .string R, .int .i64 k, .slice ao n ca, .slice ba m bc, .int .i64 a, .int .i64 g], .agg #[.int .i64 p0, .int .i64 p1, .int .i64 p2, .int .i64 p3], .int .i64 now] w fun e w' => e = .returned (.int .i64 (judN u1 b1 v6 v8 v9 b4 n7 (lifeN n7 n6 (hasN fs exb) d x y s g p0 p2 p3 p1) (ageN d (secs (joinOf (valsOf fs agb))) a g now))) ∧ Below w.heap.size w w' := by
  have C0 := hide' (jd_lit w K V R s k a g ao ba n m ca bc p0 p1 p2 p3 u0 u1 u2 u3 u4 u5 v6 v7 v8 v9)
  have cT := hide' (fun W (h : Below w.heap.size w W) => ctlRT (.slice ao n ca) fs b0 b1 b2 b3 b4 b5 n6 n7 n8 n9 T W (holdsF_mono hv h) hb)
  have cA := hide' (fun W (h : Below w.heap.size w W) => ageRC K V R s k a g ao ba n m ca bc now fs d W (holdsF_mono hv h) hb D)
  have cL := hide' (fun W (h : Below w.heap.size w W) => lifeRC K V R s k a g ao ba n m ca bc p0 p1 p2 p3 fs b0 b1 b2 b3 b4 b5 n6 n7 n8 n9 d x y W (holdsF_mono hv h) hb T D X Y)
  have aI := ageN_in d (secs (joinOf (valsOf fs agb))) a g now D.1.2.1 (secs_in _).2
  have lI := lifeN_in n7 n6 (hasN fs exb) d x y s g p0 p2 p3 p1 T.i7 T.i6
  have t7 := T.i7.1
  clear hv D X Y T
  generalize ageN d (secs (joinOf (valsOf fs agb))) a g now = ag at cA aI ⊢
  generalize lifeN n7 n6 (hasN fs exb) d x y s g p0 p2 p3 p1 = lf at cL lI ⊢
  obtain ⟨r, er⟩ : ∃ r, r = judN u1 b1 v6 v8 v9 b4 n7 lf ag := ⟨_, rfl⟩
  rw [← er]
  unfold judN at er
  have ER := hide' er
  clear er
  obtain ⟨aI0, aI1⟩ := aI
  obtain ⟨lI0, lI1⟩ := lI
  go_enter Tryz.func13, Tryz.ntmps13
  go_wp2_with fail
  refine (cT.out _ C0.out.1).mono ?_
  rintro e w1 ⟨rfl, b1'⟩
  have C1 : Hid (JdO w w1.heap.size (w1.alloc (.cells #[.bool b0, .bool b1, .bool b2, .bool b3, .bool b4, .bool b5, .int .i64 n6, .int .i64 n7, .int .i64 n8, .int .i64 n9] 37)) K V R s k a g ao ba n m ca bc p0 p1 p2 p3 u0 u1 u2 u3 u4 u5 v6 v7 v8 v9 [.bool b0, .bool b1, .bool b2, .bool b3, .bool b4, .bool b5, .int .i64 n6, .int .i64 n7, .int .i64 n8, .int .i64 n9]) := by
    obtain ⟨h1, h2, h3, h4⟩ := C0.out
    have bb := bt' b1' (below_alloc' w1 (.cells #[.bool b0, .bool b1, .bool b2, .bool b3, .bool b4, .bool b5, .int .i64 n6, .int .i64 n7, .int .i64 n8, .int .i64 n9] 37))
    exact ⟨bt' h1 bb, cells_below h2 bb, enC_below h3 bb, cells_below h4 bb, cells_lit w1 #[.bool b0, .bool b1, .bool b2, .bool b3, .bool b4, .bool b5, .int .i64 n6, .int .i64 n7, .int .i64 n8, .int .i64 n9] 37⟩
  clear b1' cT C0
  have O1 := C1.out
  obtain ⟨-, i0, i1, i2, i3, i4, i5, i6, i7, i8⟩ := enC_open O1.2.2.1
  clear O1
  go_wp2_with fail
  refine (cA.out _ C1.out.1).mono ?_
  rintro e w2 ⟨rfl, b2'⟩
  have C2 := hide' (jdO_below C1.out b2')
  clear b2' cA C1 i0 i1 i2 i3 i4 i5 i6 i7 i8
  have O2 := C2.out
  obtain ⟨-, i0, i1, i2, i3, i4, i5, i6, i7, i8⟩ := enC_open O2.2.2.1
  obtain ⟨-, j0, j1, j2, j3⟩ := poC_open O2.2.2.2.1
  clear O2
  go_wp2_with fail
  refine (cL.out _ C2.out.1).mono ?_
  rintro e w3 ⟨rfl, b3'⟩
  have C3 := hide' (jdO_below C2.out b3')
  clear b3' cL C2 i0 i1 i2 i3 i4 i5 i6 i7 i8 j0 j1 j2 j3
  have O3 := C3.out
  obtain ⟨k0, k1, k2, k3, k4, k5, k6, k7, k8, k9⟩ := (cells10K O3.2.1).1
  obtain ⟨l0, l1, l2, l3, l4, l5, l6, l7, l8, l9⟩ := (cells10K O3.2.2.2.2).1
  clear O3
  cases u1 with
  | true =>
    have EQ : Hid (r = 2) := by unfold Hid; rw [ER.out, if_pos (by simp)]
    clear ER
    go_wp2_with fail
    go_ret
    exact ⟨by rw [EQ.out]; try rfl, C3.out.1⟩
  | false =>
  cases b1 with
  | true =>
    have EQ : Hid (r = 2) := by unfold Hid; rw [ER.out, if_pos (by simp)]
    clear ER
    go_wp2_with fail
    go_ret
    exact ⟨by rw [EQ.out]; try rfl, C3.out.1⟩
  | false =>
  rw [if_neg (by simp)] at ER
  by_cases g : v6 ≠ -1 ∧ v6 < ag
  · have EQ : Hid (r = 2) := by unfold Hid; rw [ER.out, if_pos g]
    obtain ⟨g1, g2⟩ := g
    have g1b : (v6 != -1) = true := by simpa using g1
    clear ER
    go_wp2_with fail
    go_ret
    exact ⟨by rw [EQ.out]; try rfl, C3.out.1⟩
  rw [if_neg g] at ER
  by_cases h : v6 = -1
  · subst h
    clear g
    by_cases g : v8 ≠ -1 ∧ lf - ag < v8
    · have EQ : Hid (r = 2) := by unfold Hid; rw [ER.out, if_pos g]
      obtain ⟨g1, g2⟩ := g
      have g1b : (v8 != -1) = true := by simpa using g1
      clear ER
      go_wp2_with fail
      go_ret
      exact ⟨by rw [EQ.out]; try rfl, C3.out.1⟩
    rw [if_neg g] at ER
    by_cases h : v8 = -1
    · subst h
      clear g
      by_cases g3 : 0 < lf - ag
      · have EQ : Hid (r = 0) := by unfold Hid; rw [ER.out, if_pos g3]
        clear ER
        go_wp2_with fail
        go_ret
        exact ⟨by rw [EQ.out]; try rfl, C3.out.1⟩
      rw [if_neg g3] at ER
      cases b4 with
      | true =>
        have EQ : Hid (r = 2) := by unfold Hid; rw [ER.out, if_pos (.inl rfl)]
        clear ER
        go_wp2_with fail
        go_ret
        exact ⟨by rw [EQ.out]; try rfl, C3.out.1⟩
      | false =>
      by_cases g4 : n7 = -1
      case neg =>
        have EQ : Hid (r = 2) := by unfold Hid; rw [ER.out, if_pos (.inr g4)]
        have g5 : 0 ≤ n7 := by omega
        clear ER
        go_wp2_with fail
        go_ret
        exact ⟨by rw [EQ.out]; try rfl, C3.out.1⟩
      subst g4
      rw [if_neg (by simp)] at ER
      by_cases g : v9 ≠ -1 ∧ -(lf - ag) ≤ v9
      · have EQ : Hid (r = 1) := by unfold Hid; rw [ER.out, if_pos g]
        obtain ⟨g1, g2⟩ := g
        have g1b : (v9 == -1) = false := by simpa using g1
        clear ER
        go_wp2_with fail
        go_ret
        exact ⟨by rw [EQ.out]; try rfl, C3.out.1⟩
      rw [if_neg g] at ER
      by_cases h : v9 = -1
      · subst h
        clear g
        have EQ : Hid (r = 2) := ER
        clear ER
        go_wp2_with fail
        go_ret
        exact ⟨by rw [EQ.out]; try rfl, C3.out.1⟩
      · have g2 : ¬ -(lf - ag) ≤ v9 := fun x => g ⟨h, x⟩
        have g1b : (v9 == -1) = false := by simpa using h
        clear g
        have EQ : Hid (r = 2) := ER
        clear ER
        go_wp2_with fail
        go_ret
        exact ⟨by rw [EQ.out]; try rfl, C3.out.1⟩
    · have g2 : ¬ lf - ag < v8 := fun x => g ⟨h, x⟩
      have gb_v8 : (v8 != -1) = true := by simpa using h
      clear g
      by_cases g3 : 0 < lf - ag
      · have EQ : Hid (r = 0) := by unfold Hid; rw [ER.out, if_pos g3]
        clear ER
        go_wp2_with fail
        go_ret
        exact ⟨by rw [EQ.out]; try rfl, C3.out.1⟩
      rw [if_neg g3] at ER
      cases b4 with
      | true =>
        have EQ : Hid (r = 2) := by unfold Hid; rw [ER.out, if_pos (.inl rfl)]
        clear ER
        go_wp2_with fail
        go_ret
        exact ⟨by rw [EQ.out]; try rfl, C3.out.1⟩
      | false =>
      by_cases g4 : n7 = -1
      case neg =>
        have EQ : Hid (r = 2) := by unfold Hid; rw [ER.out, if_pos (.inr g4)]
        have g5 : 0 ≤ n7 := by omega
        clear ER
        go_wp2_with fail
        go_ret
        exact ⟨by rw [EQ.out]; try rfl, C3.out.1⟩
      subst g4
      rw [if_neg (by simp)] at ER
      by_cases g : v9 ≠ -1 ∧ -(lf - ag) ≤ v9
      · have EQ : Hid (r = 1) := by unfold Hid; rw [ER.out, if_pos g]
        obtain ⟨g1, g2⟩ := g
        have g1b : (v9 == -1) = false := by simpa using g1
        clear ER
        go_wp2_with fail
        go_ret
        exact ⟨by rw [EQ.out]; try rfl, C3.out.1⟩
      rw [if_neg g] at ER
      by_cases h : v9 = -1
      · subst h
        clear g
        have EQ : Hid (r = 2) := ER
        clear ER
        go_wp2_with fail
        go_ret
        exact ⟨by rw [EQ.out]; try rfl, C3.out.1⟩
      · have g2 : ¬ -(lf - ag) ≤ v9 := fun x => g ⟨h, x⟩
        have g1b : (v9 == -1) = false := by simpa using h
        clear g
        have EQ : Hid (r = 2) := ER
        clear ER
        go_wp2_with fail
        go_ret
        exact ⟨by rw [EQ.out]; try rfl, C3.out.1⟩
  · have g2 : ¬ v6 < ag := fun x => g ⟨h, x⟩
    have gb_v6 : (v6 != -1) = true := by simpa using h
    clear g
    by_cases g : v8 ≠ -1 ∧ lf - ag < v8
    · have EQ : Hid (r = 2) := by unfold Hid; rw [ER.out, if_pos g]
      obtain ⟨g1, g2⟩ := g
      have g1b : (v8 != -1) = true := by simpa using g1
      clear ER
      go_wp2_with fail
      go_ret
      exact ⟨by rw [EQ.out]; try rfl, C3.out.1⟩
    rw [if_neg g] at ER
    by_cases h : v8 = -1
    · subst h
      clear g
      by_cases g3 : 0 < lf - ag
      · have EQ : Hid (r = 0) := by unfold Hid; rw [ER.out, if_pos g3]
        clear ER
        go_wp2_with fail
        go_ret
        exact ⟨by rw [EQ.out]; try rfl, C3.out.1⟩
      rw [if_neg g3] at ER
      cases b4 with
      | true =>
        have EQ : Hid (r = 2) := by unfold Hid; rw [ER.out, if_pos (.inl rfl)]
        clear ER
        go_wp2_with fail
        go_ret
        exact ⟨by rw [EQ.out]; try rfl, C3.out.1⟩
      | false =>
      by_cases g4 : n7 = -1
      case neg =>
        have EQ : Hid (r = 2) := by unfold Hid; rw [ER.out, if_pos (.inr g4)]
        have g5 : 0 ≤ n7 := by omega
        clear ER
        go_wp2_with fail
        go_ret
        exact ⟨by rw [EQ.out]; try rfl, C3.out.1⟩
      subst g4
      rw [if_neg (by simp)] at ER
      by_cases g : v9 ≠ -1 ∧ -(lf - ag) ≤ v9
      · have EQ : Hid (r = 1) := by unfold Hid; rw [ER.out, if_pos g]
        obtain ⟨g1, g2⟩ := g
        have g1b : (v9 == -1) = false := by simpa using g1
        clear ER
        go_wp2_with fail
        go_ret
        exact ⟨by rw [EQ.out]; try rfl, C3.out.1⟩
      rw [if_neg g] at ER
      by_cases h : v9 = -1
      · subst h
        clear g
        have EQ : Hid (r = 2) := ER
        clear ER
        go_wp2_with fail
        go_ret
        exact ⟨by rw [EQ.out]; try rfl, C3.out.1⟩
      · have g2 : ¬ -(lf - ag) ≤ v9 := fun x => g ⟨h, x⟩
        have g1b : (v9 == -1) = false := by simpa using h
        clear g
        have EQ : Hid (r = 2) := ER
        clear ER
        go_wp2_with fail
        go_ret
        exact ⟨by rw [EQ.out]; try rfl, C3.out.1⟩
    · have g2 : ¬ lf - ag < v8 := fun x => g ⟨h, x⟩
      have gb_v8 : (v8 != -1) = true := by simpa using h
      clear g
      by_cases g3 : 0 < lf - ag
      · have EQ : Hid (r = 0) := by unfold Hid; rw [ER.out, if_pos g3]
        clear ER
        go_wp2_with fail
        go_ret
        exact ⟨by rw [EQ.out]; try rfl, C3.out.1⟩
      rw [if_neg g3] at ER
      cases b4 with
      | true =>
        have EQ : Hid (r = 2) := by unfold Hid; rw [ER.out, if_pos (.inl rfl)]
        clear ER
        go_wp2_with fail
        go_ret
        exact ⟨by rw [EQ.out]; try rfl, C3.out.1⟩
      | false =>
      by_cases g4 : n7 = -1
      case neg =>
        have EQ : Hid (r = 2) := by unfold Hid; rw [ER.out, if_pos (.inr g4)]
        have g5 : 0 ≤ n7 := by omega
        clear ER
        go_wp2_with fail
        go_ret
        exact ⟨by rw [EQ.out]; try rfl, C3.out.1⟩
      subst g4
      rw [if_neg (by simp)] at ER
      by_cases g : v9 ≠ -1 ∧ -(lf - ag) ≤ v9
      · have EQ : Hid (r = 1) := by unfold Hid; rw [ER.out, if_pos g]
        obtain ⟨g1, g2⟩ := g
        have g1b : (v9 == -1) = false := by simpa using g1
        clear ER
        go_wp2_with fail
        go_ret
        exact ⟨by rw [EQ.out]; try rfl, C3.out.1⟩
      rw [if_neg g] at ER
      by_cases h : v9 = -1
      · subst h
        clear g
        have EQ : Hid (r = 2) := ER
        clear ER
        go_wp2_with fail
        go_ret
        exact ⟨by rw [EQ.out]; try rfl, C3.out.1⟩
      · have g2 : ¬ -(lf - ag) ≤ v9 := fun x => g ⟨h, x⟩
        have g1b : (v9 == -1) = false := by simpa using h
        clear g
        have EQ : Hid (r = 2) := ER
        clear ER
        go_wp2_with fail
        go_ret
        exact ⟨by rw [EQ.out]; try rfl, C3.out.1⟩
end Go.Proofs.YtlhhcpbfjjhbfaaGreatDoor
