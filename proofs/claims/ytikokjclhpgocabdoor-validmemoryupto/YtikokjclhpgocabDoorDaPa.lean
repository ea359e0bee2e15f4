/- The contract of Parse, by what split says. -/
import Derived.Test.YtikokjclhpgocabDoorDaQ
namespace Go.Proofs.YtikokjclhpgocabDoor
open Go.RowKit
set_option maxHeartbeats 1000000 in
theorem parse_no1 (s : ByteArray) (p1 p2 p3 p4 p5 : ByteArray) (p6 : Bool) (w : World) (c : Calls Tryd.prog 29 #[.string s] w fun e w' => e = .returned (.tuple #[partsV p1 p2 p3 p4 p5 p6, .bool false]) ∧ Below w.heap.size w w') :
    Calls Tryd.prog 17 #[.string s] w fun e w' => e = .returned (.tuple #[.int .i64 0, .int .i64 20]) ∧ Below w.heap.size w w' := by
  unfold partsV at *
  replace c := hide c
  go_enter Tryd.func17, Tryd.ntmps17
  go_wp2_with fail
  refine c.out.mono ?_
  rintro e w1 ⟨rfl, b1⟩
  replace b1 := hide b1
  go_wp2_with fail
  go_ret2
  exact ⟨rfl, b1.out.alloc b1.out.size _⟩
theorem below_new {w w1 : World} (h : Below w.heap.size w w1) (o : Obj) : Below w.heap.size w (w1.alloc o) := h.alloc h.size _
/-- what the four readings say -/
structure Read (p2 p3 p4 p5 : ByteArray) (y m d c : Int) (yb mb db cb : Bool) : Prop where
  yy : NumIs p4 y yb
  mm : ∀ w, Vars w → Calls Tryd.prog 31 #[.string p3] w fun e w' => e = .returned (.tuple #[.int .i64 m, .bool mb]) ∧ w' = w
  dd : NumIs p2 d db
  cc : ∀ w, Calls Tryd.prog 32 #[.string p5] w fun e w' => e = .returned (.tuple #[.int .i64 c, .bool cb]) ∧ w' = w
set_option maxHeartbeats 2000000 in
theorem parse_no2 (s : ByteArray) (p1 p2 p3 p4 p5 : ByteArray) (p6 : Bool) (y m d c : Int) (yb mb db cb : Bool) (R : Read p2 p3 p4 p5 y m d c yb mb db cb) (h : yb = false ∨ (yb = true ∧ mb = false) ∨ (yb = true ∧ mb = true ∧ db = false) ∨ (yb = true ∧ mb = true ∧ db = true ∧ cb = false)) (w : World) (V : Vars w)
    (cs : Calls Tryd.prog 29 #[.string s] w fun e w' => e = .returned (.tuple #[partsV p1 p2 p3 p4 p5 p6, .bool true]) ∧ Below w.heap.size w w') :
    Calls Tryd.prog 17 #[.string s] w fun e w' => e = .returned (.tuple #[.int .i64 0, .int .i64 20]) ∧ Below w.heap.size w w' := by
  unfold partsV at *
  obtain ⟨ry, rm, rd, rc⟩ := R
  have cY := hide (numIs ry)
  have cM := hide rm
  have cD := hide (numIs rd)
  have cC := hide rc
  replace cs := hide cs
  replace V := hide V
  clear ry rm rd rc
  rcases h with rfl | ⟨rfl, rfl⟩ | ⟨rfl, rfl, rfl⟩ | ⟨rfl, rfl, rfl, rfl⟩
  all_goals
    go_enter Tryd.func17, Tryd.ntmps17
    go_wp2_with fail
    refine cs.out.mono ?_
    rintro e w1 ⟨rfl, b1⟩
    replace b1 := hide b1
    go_wp2_with fail
    refine (cY.out _).mono ?_
    rintro e w2 ⟨rfl, rfl⟩
    go_wp2_with fail
    refine (cM.out _ (V.out.below (below_new b1.out _))).mono ?_
    rintro e w2 ⟨rfl, rfl⟩
    go_wp2_with fail
    refine (cD.out _).mono ?_
    rintro e w2 ⟨rfl, rfl⟩
    go_wp2_with fail
    refine (cC.out _).mono ?_
    rintro e w2 ⟨rfl, rfl⟩
    go_wp2_with fail
    go_ret2
    exact ⟨rfl, below_new b1.out _⟩
set_option maxHeartbeats 2000000 in
theorem parse_no3 (s : ByteArray) (p1 p2 p3 p4 p5 : ByteArray) (p6 : Bool) (y m d c : Int) (R : Read p2 p3 p4 p5 y m d c true true true true) (h : ¬ Valid y m d) (w : World) (V : Vars w)
    (cs : Calls Tryd.prog 29 #[.string s] w fun e w' => e = .returned (.tuple #[partsV p1 p2 p3 p4 p5 p6, .bool true]) ∧ Below w.heap.size w w') :
    Calls Tryd.prog 17 #[.string s] w fun e w' => e = .returned (.tuple #[.int .i64 0, .int .i64 20]) ∧ Below w.heap.size w w' := by
  unfold partsV at *
  obtain ⟨ry, rm, rd, rc⟩ := R
  have cY := hide (numIs ry)
  have cM := hide rm
  have cD := hide (numIs rd)
  have cC := hide rc
  have cN := hide (fun w V => dayCode_no y m d h w V)
  replace cs := hide cs
  replace V := hide V
  clear ry rm rd rc h
  go_enter Tryd.func17, Tryd.ntmps17
  go_wp2_with fail
  refine cs.out.mono ?_
  rintro e w1 ⟨rfl, b1⟩
  replace b1 := hide b1
  go_wp2_with fail
  refine (cY.out _).mono ?_
  rintro e w2 ⟨rfl, rfl⟩
  go_wp2_with fail
  refine (cM.out _ (V.out.below (below_new b1.out _))).mono ?_
  rintro e w2 ⟨rfl, rfl⟩
  go_wp2_with fail
  refine (cD.out _).mono ?_
  rintro e w2 ⟨rfl, rfl⟩
  go_wp2_with fail
  refine (cC.out _).mono ?_
  rintro e w2 ⟨rfl, rfl⟩
  go_wp2_with fail
  refine (cN.out _ (V.out.below (below_new b1.out _)).len).mono ?_
  rintro e w2 ⟨rfl, rfl⟩
  go_wp2_with fail
  go_ret2
  exact ⟨rfl, below_new b1.out _⟩
/-- the name that must be there -/
def nameB (n : Int) (wh : Bool) : ByteArray := if wh then ⟨(wkL n).toArray⟩ else (⟨(wkL n).toArray⟩ : ByteArray).extract 0 3
set_option maxHeartbeats 4000000 in
theorem parse_end (s : ByteArray) (p1 p2 p3 p4 p5 : ByteArray) (p6 : Bool) (y m d c : Int) (R : Read p2 p3 p4 p5 y m d c true true true true) (h : Valid y m d) (c0 : 0 ≤ c) (c1 : c < 86400) (v e : Int) (hq : (p1 = nameB (dayOf y m d) p6 ∧ v = dayOf y m d * 86400 + c ∧ e = 0) ∨ (¬ p1 = nameB (dayOf y m d) p6 ∧ v = 0 ∧ e = 20)) (w : World) (V : Vars w)
    (cs : Calls Tryd.prog 29 #[.string s] w fun e w' => e = .returned (.tuple #[partsV p1 p2 p3 p4 p5 p6, .bool true]) ∧ Below w.heap.size w w') :
    Calls Tryd.prog 17 #[.string s] w fun x w' => x = .returned (.tuple #[.int .i64 v, .int .i64 e]) ∧ Below w.heap.size w w' := by
  unfold partsV at *
  obtain ⟨ry, rm, rd, rc⟩ := R
  have cY := hide (numIs ry)
  have cM := hide rm
  have cD := hide (numIs rd)
  have cC := hide rc
  have cN := hide (fun w V => dayCode y m d h w V)
  have bn := dayOf_range h
  have lw := wkL_len (dayOf y m d)
  replace cs := hide cs
  replace V := hide V
  clear ry rm rd rc h
  generalize dayOf y m d = n at cN bn lw hq
  have vw := hide (fun W (V : Vars W) => V.week (n % 7).toNat (by omega))
  have ew : wkL n = wtab.getD (n % 7).toNat [] := rfl
  rw [← ew] at vw
  obtain ⟨wk, hwk⟩ : ∃ x : ByteArray, x = ⟨(wkL n).toArray⟩ := ⟨_, rfl⟩
  have zw : 3 ≤ wk.size := by rw [hwk]; show 3 ≤ (wkL n).length; omega
  have zw9 : wk.size ≤ 9 := by rw [hwk]; exact lw.2
  have en : nameB n p6 = if p6 then wk else wk.extract 0 3 := by unfold nameB; rw [hwk]
  rw [en] at hq
  rw [← hwk] at vw
  replace hq := hide hq
  clear hwk ew lw en
  go_enter Tryd.func17, Tryd.ntmps17
  go_wp2_with fail
  refine cs.out.mono ?_
  rintro e w1 ⟨rfl, b1⟩
  replace b1 := hide b1
  go_wp2_with fail
  refine (cY.out _).mono ?_
  rintro e w2 ⟨rfl, rfl⟩
  go_wp2_with fail
  refine (cM.out _ (V.out.below (below_new b1.out _))).mono ?_
  rintro e w2 ⟨rfl, rfl⟩
  go_wp2_with fail
  refine (cD.out _).mono ?_
  rintro e w2 ⟨rfl, rfl⟩
  go_wp2_with fail
  refine (cC.out _).mono ?_
  rintro e w2 ⟨rfl, rfl⟩
  go_wp2_with fail
  refine (cN.out _ (V.out.below (below_new b1.out _)).len).mono ?_
  rintro e w2 ⟨rfl, rfl⟩
  have kw := vw.out _ (V.out.below (below_new b1.out (.cells #[.string p1, .string p2, .string p3, .string p4, .string p5, .bool p6] 57)))
  have BN := hide (below_new b1.out (.cells #[.string p1, .string p2, .string p3, .string p4, .string p5, .bool p6] 57))
  have g1 : (0 : Int) ≤ n % 7 := by omega
  have g2 : n % 7 < (7 : Int) := by omega
  cases p6 with
  | true =>
    rcases hq.out with ⟨e1, e2, e3⟩ | ⟨e1, e2, e3⟩
    · simp only [if_true] at e1
      subst e1
      replace e2 := hide e2
      replace e3 := hide e3
      go_wp2_with fail
      go_ret2
      rw [e2.out, e3.out]
      exact ⟨rfl, BN.out⟩
    · have q := ne_list e1
      simp only [if_true] at q
      replace e2 := hide e2
      replace e3 := hide e3
      clear e1
      go_wp2_with fail
      go_ret2
      rw [e2.out, e3.out]
      exact ⟨rfl, BN.out⟩
  | false =>
    rcases hq.out with ⟨e1, e2, e3⟩ | ⟨e1, e2, e3⟩
    · simp only [Bool.false_eq_true, if_false] at e1
      subst e1
      replace e2 := hide e2
      replace e3 := hide e3
      go_wp2_with fail
      go_ret2
      rw [e2.out, e3.out]
      exact ⟨rfl, BN.out⟩
    · have q := ne_list e1
      simp only [Bool.false_eq_true, if_false] at q
      replace e2 := hide e2
      replace e3 := hide e3
      clear e1
      go_wp2_with fail
      go_ret2
      rw [e2.out, e3.out]
      exact ⟨rfl, BN.out⟩
end Go.Proofs.YtikokjclhpgocabDoor
