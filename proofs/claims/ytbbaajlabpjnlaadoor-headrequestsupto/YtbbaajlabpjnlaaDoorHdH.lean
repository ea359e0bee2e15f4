/- A block of four cells that may be written; strings.Cut at a blank; the contract of requestLine. -/
import Derived.Test.YtbbaajlabpjnlaaDoorHdF
namespace Go.Proofs.YtbbaajlabpjnlaaDoor
open Go.RowKit
/-- a block of four cells that may be written, and what they hold -/
def Quad (b : Nat) (W : World) (v0 v1 v2 v3 : Value) : Prop := W.cell? ⟨b, 0, none⟩ = some v0 ∧ W.cell? ⟨b, 1, none⟩ = some v1 ∧ W.cell? ⟨b, 2, none⟩ = some v2 ∧ W.cell? ⟨b, 3, none⟩ = some v3 ∧
  W.frozen? ⟨b, 0, none⟩ = false ∧ W.frozen? ⟨b, 1, none⟩ = false ∧ W.frozen? ⟨b, 2, none⟩ = false ∧ W.frozen? ⟨b, 3, none⟩ = false ∧ b < W.heap.size
theorem quad_below {b : Nat} {W W' : World} {v0 v1 v2 v3 : Value} (h : Quad b W v0 v1 v2 v3) (hb : Below W.heap.size W W') : Quad b W' v0 v1 v2 v3 := by
  obtain ⟨h0, h1, h2, h3, f0, f1, f2, f3, hz⟩ := h
  have c : ∀ o, W'.cell? ⟨b, o, none⟩ = W.cell? ⟨b, o, none⟩ := fun o => hb.cell (p := ⟨b, o, none⟩) hz
  have f : ∀ o, W'.frozen? ⟨b, o, none⟩ = W.frozen? ⟨b, o, none⟩ := fun o => hb.frozen (p := ⟨b, o, none⟩) hz
  exact ⟨by rw [c]; exact h0, by rw [c]; exact h1, by rw [c]; exact h2, by rw [c]; exact h3, by rw [f]; exact f0, by rw [f]; exact f1, by rw [f]; exact f2, by rw [f]; exact f3, Nat.lt_of_lt_of_le hz hb.size⟩
theorem oth4 {b i j : Nat} {W : World} {v : Value} (h : j ≠ i) : (W.setCell ⟨b, j, none⟩ v).cell? ⟨b, i, none⟩ = W.cell? ⟨b, i, none⟩ := World.cell?_setCell_other _ _ _ _ (by first | (simp; done) | omega)
def put4 (b : Nat) (W : World) (v0 v1 v2 v3 : Value) : World := (((W.setCell ⟨b, 0, none⟩ v0).setCell ⟨b, 1, none⟩ v1).setCell ⟨b, 2, none⟩ v2).setCell ⟨b, 3, none⟩ v3
theorem quad_store {b : Nat} {W : World} {u0 u1 u2 u3 : Value} (h : Quad b W u0 u1 u2 u3) (v0 v1 v2 v3 : Value) :
    (put4 b W v0 v1 v2 v3).cell? ⟨b, 0, none⟩ = some v0 ∧ (put4 b W v0 v1 v2 v3).cell? ⟨b, 1, none⟩ = some v1 ∧ (put4 b W v0 v1 v2 v3).cell? ⟨b, 2, none⟩ = some v2 ∧ (put4 b W v0 v1 v2 v3).cell? ⟨b, 3, none⟩ = some v3 := by
  obtain ⟨h0, h1, h2, h3, _⟩ := h
  unfold put4
  refine ⟨?_, ?_, ?_, ?_⟩
  · rw [oth4 (by decide), oth4 (by decide), oth4 (by decide)]
    exact World.cell?_setCell_same _ _ _ h0
  · rw [oth4 (by decide), oth4 (by decide)]
    exact World.cell?_setCell_same (u := u1) _ _ _ (by rw [oth4 (by decide)]; exact h1)
  · rw [oth4 (by decide)]
    exact World.cell?_setCell_same (u := u2) _ _ _ (by rw [oth4 (by decide), oth4 (by decide)]; exact h2)
  · exact World.cell?_setCell_same (u := u3) _ _ _ (by rw [oth4 (by decide), oth4 (by decide), oth4 (by decide)]; exact h3)
theorem put4_below {w W : World} {b : Nat} (h : Below w.heap.size w W) (hb : w.heap.size ≤ b) (v0 v1 v2 v3 : Value) : Below w.heap.size w (put4 b W v0 v1 v2 v3) :=
  (((h.setCell hb _).setCell hb _).setCell hb _).setCell hb _
theorem quad_lit (w : World) (v0 v1 v2 v3 : Value) (t : TypeId) : Quad w.heap.size (w.alloc (.cells #[v0, v1, v2, v3] t)) v0 v1 v2 v3 :=
  ⟨by simp, by simp, by simp, by simp, by simp, by simp, by simp, by simp, by simp⟩
theorem frozen_set4 {b i j : Nat} {W : World} {v : Value} : (W.setCell ⟨b, j, none⟩ v).frozen? ⟨b, i, none⟩ = W.frozen? ⟨b, i, none⟩ := by simp
theorem quad_put {b : Nat} {W : World} {u0 u1 u2 u3 : Value} (h : Quad b W u0 u1 u2 u3) (v0 v1 v2 v3 : Value) : Quad b (put4 b W v0 v1 v2 v3) v0 v1 v2 v3 := by
  obtain ⟨q0, q1, q2, q3⟩ := quad_store h v0 v1 v2 v3
  obtain ⟨_, _, _, _, f0, f1, f2, f3, hz⟩ := h
  refine ⟨q0, q1, q2, q3, ?_, ?_, ?_, ?_, by simp [put4, World.setCell]; exact hz⟩
  · unfold put4; rw [frozen_set4, frozen_set4, frozen_set4, frozen_set4]; exact f0
  · unfold put4; rw [frozen_set4, frozen_set4, frozen_set4, frozen_set4]; exact f1
  · unfold put4; rw [frozen_set4, frozen_set4, frozen_set4, frozen_set4]; exact f2
  · unfold put4; rw [frozen_set4, frozen_set4, frozen_set4, frozen_set4]; exact f3
theorem cutBlank (s : ByteArray) (hs : s.size < 4294967281) (w : World) (M : MaxV w) :
    Calls Tryd.prog 31 #[.string s, .string ⟨#[32]⟩] w fun e w' => e = .returned (.tuple #[.string ⟨(word s.data.toList).toArray⟩, .string ⟨(past s.data.toList).toArray⟩, .bool (! s.data.toList.all noBl)]) ∧ Below w.heap.size w w' := by
  obtain ⟨m, hm⟩ := M
  refine (Any.strings_Cut Tryd.lays145 s ⟨#[32]⟩ m w hs hm).mono ?_
  rintro e w' ⟨rfl, n, rfl⟩
  refine ⟨?_, below_drewN w n⟩
  rw [show (⟨#[32]⟩ : ByteArray).data.toList = [32] from rfl, cut_blank]
/-- a request as the model holds it, its fields being lv -/
def rqV (r : Rq) (lv : Value) : Value := .agg #[.string ⟨r.m.toArray⟩, .string ⟨r.t.toArray⟩, .int .i64 r.k, lv]
def lineQV (q : Rq × Int) : Value := .tuple #[rqV q.1 (.slice none 0 0), .int .i64 q.2]
theorem lineQ_tok (l : List UInt8) (h : isTok (word l) = false) : lineQ l = (Rq.zero, 50) := by unfold lineQ; rw [h]; rfl
theorem lineQ_tgt (l : List UInt8) (h : goodT (word (past l)) = false) : lineQ l = (Rq.zero, 50) := by unfold lineQ; rw [h, Bool.false_and, Bool.and_false]; rfl
theorem lineQ_ver (l : List UInt8) (h : isVer (past (past l)) = false) : lineQ l = (Rq.zero, 50) := by unfold lineQ; rw [h, Bool.and_false, Bool.and_false]; rfl
theorem lineQ_all (l : List UInt8) (h1 : isTok (word l) = true) (h2 : goodT (word (past l)) = true) (h3 : isVer (past (past l)) = true) : lineQ l = if (minOf (past (past l))).2 = 0 then (⟨word l, word (past l), (minOf (past (past l))).1, []⟩, 0) else (Rq.zero, 52) := by unfold lineQ; rw [h1, h2, h3]; rfl
set_option maxRecDepth 20000 in
set_option maxHeartbeats 2000000 in
theorem requestLineTok (s : ByteArray) (hs : s.size < 4294967281) (w : World) (M : MaxV w) :
    Calls Tryd.prog 15 #[.string s] w fun e w' => e = .returned (lineQV (lineQ s.data.toList)) ∧ Below w.heap.size w w' := by
  have b0 := below_alloc' w (.cells #[.string ⟨#[]⟩, .string ⟨#[]⟩, .int .i64 0, .slice none 0 0] 27)
  have Q0 := hide' (quad_lit w (.string ⟨#[]⟩) (.string ⟨#[]⟩) (.int .i64 0) (.slice none 0 0) 27)
  have c1 := hide' (cutBlank s hs _ (maxV_below M b0))
  have MV := hide' (maxV_below M b0)
  have B0 := hide' b0
  have hl : s.data.toList.length = s.size := by simp
  have z1 := word_len s.data.toList
  have z2 := past_len s.data.toList
  have z3 := word_len (past s.data.toList)
  have z4 := past_len (past s.data.toList)
  rw [hl] at z1 z2
  have f1 := lineQ_tok s.data.toList
  have f2 := lineQ_tgt s.data.toList
  have f3 := lineQ_ver s.data.toList
  have f4 := lineQ_all s.data.toList
  have c2 : ∀ W, MaxV W → Calls Tryd.prog 31 #[.string ⟨(past s.data.toList).toArray⟩, .string ⟨#[32]⟩] W fun e w' => e = .returned (.tuple #[.string ⟨(word (past s.data.toList)).toArray⟩, .string ⟨(past (past s.data.toList)).toArray⟩, .bool (! (past s.data.toList).all noBl)]) ∧ Below W.heap.size W w' := fun W hM => cutBlank ⟨(past s.data.toList).toArray⟩ (by rw [size_l]; omega) W hM
  have k1 : ∀ W, Calls Tryd.prog 32 #[.string ⟨(word s.data.toList).toArray⟩] W fun e w' => e = .returned (.bool (isTok (word s.data.toList))) ∧ w' = W := fun W => tokenTok ⟨(word s.data.toList).toArray⟩ W (by rw [size_l]; omega)
  have k2 : ∀ W, Calls Tryd.prog 33 #[.string ⟨(word (past s.data.toList)).toArray⟩] W fun e w' => e = .returned (.bool (goodT (word (past s.data.toList)))) ∧ w' = W := fun W => goodTargetTok ⟨(word (past s.data.toList)).toArray⟩ W (by rw [size_l]; omega)
  have k3 : ∀ W, Calls Tryd.prog 34 #[.string ⟨(past (past s.data.toList)).toArray⟩] W fun e w' => e = .returned (.bool (isVer (past (past s.data.toList)))) ∧ w' = W := fun W => isVersionTok ⟨(past (past s.data.toList)).toArray⟩ W
  have k4 : ∀ W, Calls Tryd.prog 35 #[.string ⟨(past (past s.data.toList)).toArray⟩] W fun e w' => e = .returned (.tuple #[.int .i64 (minOf (past (past s.data.toList))).1, .int .i64 (minOf (past (past s.data.toList))).2]) ∧ w' = W := fun W => minorTok ⟨(past (past s.data.toList)).toArray⟩ W
  generalize lineQ s.data.toList = LQ at f1 f2 f3 f4 ⊢
  generalize (! s.data.toList.all noBl) = g1 at c1
  generalize (! (past s.data.toList).all noBl) = g2 at c2
  generalize past (past s.data.toList) = pv at c2 k3 k4 f3 f4 z4
  generalize word (past s.data.toList) = pt at c2 k2 f2 f4 z3
  generalize past s.data.toList = pr at c1 c2 z2 z3 z4
  generalize word s.data.toList = pm at c1 k1 f1 f4 z1
  have C2 := hide' c2
  clear c2 b0 M hl z1 z2 z3 z4
  cases h1 : isTok pm with
  | false =>
    have R := hide' (f1 h1)
    rw [R.out]
    rw [h1] at k1
    have K1 := hide' k1
    clear f1 f2 f3 f4 k1 k2 k3 k4 h1 R
    go_enter Tryd.func15, Tryd.ntmps15
    go_wp2_with fail
    refine c1.out.mono ?_
    rintro e w1 ⟨rfl, b1⟩
    have B1 := hide' (bt' B0.out b1)
    have Q1 := hide' (quad_below Q0.out b1)
    have M1 := hide' (maxV_below MV.out b1)
    clear b1
    go_wp2_with fail
    refine (C2.out _ M1.out).mono ?_
    rintro e w2 ⟨rfl, b2⟩
    have B2 := hide' (bt' B1.out b2)
    have Q2 := hide' (quad_below Q1.out b2)
    clear b2
    obtain ⟨h0, h1, h2, h3, e0, e1, e2, e3, hz⟩ := Q2.out
    go_wp2_with (go_at_call 32; refine (K1.out _).mono ?_; rintro e w' ⟨rfl, rfl⟩)
    obtain ⟨q0, q1, q2, q3⟩ := quad_store Q2.out (.string ⟨#[]⟩) (.string ⟨#[]⟩) (.int .i64 0) (.slice none 0 0)
    have qb := put4_below B2.out (Nat.le_refl _) (.string ⟨#[]⟩) (.string ⟨#[]⟩) (.int .i64 0) (.slice none 0 0)
    unfold put4 at q0 q1 q2 q3 qb
    exact bodyPost_ret (v := lineQV (Rq.zero, 50)) (by simp [results, Tryd.results15, go_sem, q0, q1, q2, q3, lineQV, rqV, Rq.zero]) rfl ⟨rfl, qb⟩
  | true =>
    rw [h1] at k1
    have K1 := hide' k1
    cases h2 : goodT pt with
    | false =>
      have R := hide' (f2 h2)
      rw [R.out]
      rw [h2] at k2
      have K2 := hide' k2
      clear f1 f2 f3 f4 k1 k2 k3 k4 h1 h2 R
      go_enter Tryd.func15, Tryd.ntmps15
      go_wp2_with fail
      refine c1.out.mono ?_
      rintro e w1 ⟨rfl, b1⟩
      have B1 := hide' (bt' B0.out b1)
      have Q1 := hide' (quad_below Q0.out b1)
      have M1 := hide' (maxV_below MV.out b1)
      clear b1
      go_wp2_with fail
      refine (C2.out _ M1.out).mono ?_
      rintro e w2 ⟨rfl, b2⟩
      have B2 := hide' (bt' B1.out b2)
      have Q2 := hide' (quad_below Q1.out b2)
      clear b2
      obtain ⟨h0, h1, h2, h3, e0, e1, e2, e3, hz⟩ := Q2.out
      go_wp2_with (first | (go_at_call 32; refine (K1.out _).mono ?_; rintro e w' ⟨rfl, rfl⟩) | (go_at_call 33; refine (K2.out _).mono ?_; rintro e w' ⟨rfl, rfl⟩))
      obtain ⟨q0, q1, q2, q3⟩ := quad_store Q2.out (.string ⟨#[]⟩) (.string ⟨#[]⟩) (.int .i64 0) (.slice none 0 0)
      have qb := put4_below B2.out (Nat.le_refl _) (.string ⟨#[]⟩) (.string ⟨#[]⟩) (.int .i64 0) (.slice none 0 0)
      unfold put4 at q0 q1 q2 q3 qb
      exact bodyPost_ret (v := lineQV (Rq.zero, 50)) (by simp [results, Tryd.results15, go_sem, q0, q1, q2, q3, lineQV, rqV, Rq.zero]) rfl ⟨rfl, qb⟩
    | true =>
      rw [h2] at k2
      have K2 := hide' k2
      cases h3 : isVer pv with
      | false =>
        have R := hide' (f3 h3)
        rw [R.out]
        rw [h3] at k3
        have K3 := hide' k3
        clear f1 f2 f3 f4 k1 k2 k3 k4 h1 h2 h3 R
        go_enter Tryd.func15, Tryd.ntmps15
        go_wp2_with fail
        refine c1.out.mono ?_
        rintro e w1 ⟨rfl, b1⟩
        have B1 := hide' (bt' B0.out b1)
        have Q1 := hide' (quad_below Q0.out b1)
        have M1 := hide' (maxV_below MV.out b1)
        clear b1
        go_wp2_with fail
        refine (C2.out _ M1.out).mono ?_
        rintro e w2 ⟨rfl, b2⟩
        have B2 := hide' (bt' B1.out b2)
        have Q2 := hide' (quad_below Q1.out b2)
        clear b2
        obtain ⟨h0, h1, h2, h3, e0, e1, e2, e3, hz⟩ := Q2.out
        go_wp2_with (first | (go_at_call 32; refine (K1.out _).mono ?_; rintro e w' ⟨rfl, rfl⟩) | (go_at_call 33; refine (K2.out _).mono ?_; rintro e w' ⟨rfl, rfl⟩) | (go_at_call 34; refine (K3.out _).mono ?_; rintro e w' ⟨rfl, rfl⟩))
        obtain ⟨q0, q1, q2, q3⟩ := quad_store Q2.out (.string ⟨#[]⟩) (.string ⟨#[]⟩) (.int .i64 0) (.slice none 0 0)
        have qb := put4_below B2.out (Nat.le_refl _) (.string ⟨#[]⟩) (.string ⟨#[]⟩) (.int .i64 0) (.slice none 0 0)
        unfold put4 at q0 q1 q2 q3 qb
        exact bodyPost_ret (v := lineQV (Rq.zero, 50)) (by simp [results, Tryd.results15, go_sem, q0, q1, q2, q3, lineQV, rqV, Rq.zero]) rfl ⟨rfl, qb⟩
      | true =>
        have R := f4 h1 h2 h3
        rw [h3] at k3
        have K3 := hide' k3
        rcases min_facts pv with ⟨m2, _⟩ | ⟨m2, m1⟩
        · rw [if_pos m2] at R
          have RH := hide' R
          rw [RH.out]
          rw [m2] at k4
          generalize (minOf pv).1 = mk at k4 ⊢
          have K4 := hide' k4
          clear f1 f2 f3 f4 k1 k2 k3 k4 h1 h2 h3 R m2 RH
          go_enter Tryd.func15, Tryd.ntmps15
          go_wp2_with fail
          refine c1.out.mono ?_
          rintro e w1 ⟨rfl, b1⟩
          have B1 := hide' (bt' B0.out b1)
          have Q1 := hide' (quad_below Q0.out b1)
          have M1 := hide' (maxV_below MV.out b1)
          clear b1
          go_wp2_with fail
          refine (C2.out _ M1.out).mono ?_
          rintro e w2 ⟨rfl, b2⟩
          have B2 := hide' (bt' B1.out b2)
          have Q2 := hide' (quad_below Q1.out b2)
          clear b2
          obtain ⟨h0, h1, h2, h3, e0, e1, e2, e3, hz⟩ := Q2.out
          go_wp2_with (first | (go_at_call 32; refine (K1.out _).mono ?_; rintro e w' ⟨rfl, rfl⟩) | (go_at_call 33; refine (K2.out _).mono ?_; rintro e w' ⟨rfl, rfl⟩) | (go_at_call 34; refine (K3.out _).mono ?_; rintro e w' ⟨rfl, rfl⟩) | (go_at_call 35; refine (K4.out _).mono ?_; rintro e w' ⟨rfl, rfl⟩))
          obtain ⟨q0, q1, q2, q3⟩ := quad_store Q2.out (.string ⟨pm.toArray⟩) (.string ⟨pt.toArray⟩) (.int .i64 mk) (.slice none 0 0)
          have qb := put4_below B2.out (Nat.le_refl _) (.string ⟨pm.toArray⟩) (.string ⟨pt.toArray⟩) (.int .i64 mk) (.slice none 0 0)
          unfold put4 at q0 q1 q2 q3 qb
          exact bodyPost_ret (v := lineQV (⟨pm, pt, mk, []⟩, 0)) (by simp [results, Tryd.results15, go_sem, q0, q1, q2, q3, lineQV, rqV]) rfl ⟨rfl, qb⟩
        · rw [if_neg (by rw [m2]; decide)] at R
          have RH := hide' R
          rw [RH.out]
          rw [m2, m1] at k4
          have K4 := hide' k4
          clear f1 f2 f3 f4 k1 k2 k3 k4 h1 h2 h3 R m2 m1 RH
          go_enter Tryd.func15, Tryd.ntmps15
          go_wp2_with fail
          refine c1.out.mono ?_
          rintro e w1 ⟨rfl, b1⟩
          have B1 := hide' (bt' B0.out b1)
          have Q1 := hide' (quad_below Q0.out b1)
          have M1 := hide' (maxV_below MV.out b1)
          clear b1
          go_wp2_with fail
          refine (C2.out _ M1.out).mono ?_
          rintro e w2 ⟨rfl, b2⟩
          have B2 := hide' (bt' B1.out b2)
          have Q2 := hide' (quad_below Q1.out b2)
          clear b2
          obtain ⟨h0, h1, h2, h3, e0, e1, e2, e3, hz⟩ := Q2.out
          go_wp2_with (first | (go_at_call 32; refine (K1.out _).mono ?_; rintro e w' ⟨rfl, rfl⟩) | (go_at_call 33; refine (K2.out _).mono ?_; rintro e w' ⟨rfl, rfl⟩) | (go_at_call 34; refine (K3.out _).mono ?_; rintro e w' ⟨rfl, rfl⟩) | (go_at_call 35; refine (K4.out _).mono ?_; rintro e w' ⟨rfl, rfl⟩))
          obtain ⟨q0, q1, q2, q3⟩ := quad_store Q2.out (.string ⟨#[]⟩) (.string ⟨#[]⟩) (.int .i64 0) (.slice none 0 0)
          have qb := put4_below B2.out (Nat.le_refl _) (.string ⟨#[]⟩) (.string ⟨#[]⟩) (.int .i64 0) (.slice none 0 0)
          unfold put4 at q0 q1 q2 q3 qb
          exact bodyPost_ret (v := lineQV (Rq.zero, 52)) (by simp [results, Tryd.results15, go_sem, q0, q1, q2, q3, lineQV, rqV, Rq.zero]) rfl ⟨rfl, qb⟩
end Go.Proofs.YtbbaajlabpjnlaaDoor
