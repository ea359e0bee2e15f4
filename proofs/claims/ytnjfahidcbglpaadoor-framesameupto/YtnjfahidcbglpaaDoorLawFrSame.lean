/- The walk of FrameSame. -/
import Derived.Test.YtnjfahidcbglpaaDoorFrV
import Derived.Test.YtnjfahidcbglpaaDoorRq
import Derived.Deep.RegionHeld3
namespace Go.Proofs.YtnjfahidcbglpaaDoor
open Go.RowKit
namespace frameSame
theorem duo_put {b : Nat} {W : World} {u0 u1 : Value} (h : Duo b W u0 u1) (v0 v1 : Value) : Duo b (put2 b W v0 v1) v0 v1 := by
  obtain ⟨q0, q1⟩ := duo_store h v0 v1
  obtain ⟨_, _, f0, f1, hz⟩ := h
  refine ⟨q0, q1, ?_, ?_, by simp [put2, World.setCell]; exact hz⟩
  · unfold put2; rw [frozen_set4, frozen_set4]; exact f0
  · unfold put2; rw [frozen_set4, frozen_set4]; exact f1
theorem quad_far {b c : Nat} {W : World} {v0 v1 v2 v3 : Value} (h : Quad b W v0 v1 v2 v3) (hne : b ≠ c) (x0 x1 : Value) : Quad b (put2 c W x0 x1) v0 v1 v2 v3 := quad_other (quad_other h hne x0) hne x1
theorem duo_far {b c : Nat} {W : World} {v0 v1 : Value} (h : Duo b W v0 v1) (hne : b ≠ c) (x0 x1 : Value) : Duo b (put2 c W x0 x1) v0 v1 := duo_other (duo_other h hne x0) hne x1
theorem rule_zero {k : Int} {fs : FL} (h : (ruleOf k fs 0).2.2 = 0 ∧ (ruleOf k fs 0).1 = 0) : (ruleOf k fs 0).2.1 = 0 := by
  by_cases h1 : 0 < (valsOf fs TEb).length
  · by_cases h2 : 0 < (valsOf fs CLb).length
    · rw [rule_both h1 h2]
    · rw [rule_cod h1 h2] at h; exact absurd h (cod_kind _ _)
  · by_cases h2 : 0 < (valsOf fs CLb).length
    · rw [rule_len h1 h2] at h; exact absurd h (lens_kind _)
    · rw [rule_none h1 h2]
theorem below_da (W : World) (o : Obj) : Below W.heap.size W (W.drew.alloc o) := (Below.refl _ W).drew.alloc (by simp) o
theorem below_ad (W : World) (o : Obj) : Below W.heap.size W (W.alloc o).drew := (below_alloc' W o).drew
theorem duo_da (W : World) (v0 v1 : Value) (t : TypeId) : Duo W.heap.size (W.drew.alloc (.cells #[v0, v1] t)) v0 v1 := duo_lit W.drew v0 v1 t
/-- what a call that only makes memory leaves of what was there, in three rules -/
def Keeps (W W' : World) : Prop := (∀ g, g < W.heap.size → g < W'.heap.size) ∧ (∀ g o, g < W.heap.size → W'.cell? ⟨g, o, none⟩ = W.cell? ⟨g, o, none⟩) ∧ (∀ g o, g < W.heap.size → W'.frozen? ⟨g, o, none⟩ = W.frozen? ⟨g, o, none⟩)
theorem keeps_of {W W' : World} (h : Below W.heap.size W W') : Keeps W W' := ⟨fun _ hg => Nat.lt_of_lt_of_le hg h.size, fun g o hg => h.cell (p := ⟨g, o, none⟩) hg, fun g o hg => h.frozen (p := ⟨g, o, none⟩) hg⟩
theorem ne_of_cell {W : World} {g o : Nat} {v : Value} (h : W.cell? ⟨g, o, none⟩ = some v) : W.heap.size ≠ g := fun e => by
  have := World.block_lt_of_cell? _ _ h
  simp at this
  omega
/-- the two cells of the boxed response that the statement reads -/
def Pair (g : Nat) (W : World) (v2 v3 : Value) : Prop := W.cell? ⟨g, 2, none⟩ = some v2 ∧ W.cell? ⟨g, 3, none⟩ = some v3
set_option maxRecDepth 20000 in
set_option maxHeartbeats 8000000 in
theorem walk0 (s : Int) (r : List UInt8) (k : Int) (lv : Value) (fs : FL) (m : List UInt8) (w : World) (hv : HoldsF w lv fs) (hb : bulkF fs ≤ 1048576) (E : Er w) :
    Calls Tryd.prog 7 #[.agg #[.int .i64 s, .string ⟨r.toArray⟩, .int .i64 k, lv], .string ⟨m.toArray⟩] w fun e w' => e = .returned (.bool true) ∧ Below w.heap.size w w' := by
  have hfl := bulkF_len fs
  obtain ⟨ao, ca, b, o, rfl, _⟩ := holdsF_parts hv
  have b0 := below_alloc' w (.cells #[.int .i64 s, .string ⟨r.toArray⟩, .int .i64 k, .slice ao fs.length ca] 35)
  have Q0 := hide' (quad_lit w (.int .i64 s) (.string ⟨r.toArray⟩) (.int .i64 k) (.slice ao fs.length ca) 35)
  have C0 := hide' (aliveF _ (er_below E b0))
  have B0 := hide' b0
  have HV := hide' hv
  have EV := hide' E
  have cT := hide' (fun W (u : Value) (h : HoldsF W u fs) (hE : Er W) => ofResTok s k r m fs u W h hb hE)
  have cR := hide' (fun W (u : Value) (h : HoldsF W u fs) (hE : Er W) => ofReqTok [] [] k fs u W h hb hE)
  have r1 := hide' (resp_bare (s := s) (k := k) (fs := fs) (m := m))
  have r2 := resp_rule (s := s) (k := k) (fs := fs) (m := m)
  rw [rule_three] at r2
  have r0 := rule_zero (k := k) (fs := fs)
  unfold ansV at cT cR
  generalize respOf s k fs m = Y at cT r1 r2
  generalize ruleOf k fs 0 = X at cR r2 r0
  obtain ⟨y1, y2, y3⟩ := Y
  obtain ⟨x1, x2, x3⟩ := X
  simp only at cT cR r2 r0
  have R2 := hide' r2
  have R0 := hide' r0
  clear hv b0 E r2 r0
  go_enter Tryd.func7, Tryd.ntmps7
  go_wp2_with fail
  refine C0.out.mono ?_
  rintro e w1 ⟨rfl, b1⟩
  have B1 := hide' (bt' B0.out b1)
  have Q1 := hide' (quad_below Q0.out b1)
  clear b1 C0 Q0 B0
  obtain ⟨i0, i1, i2, i3, _⟩ := Q1.out
  go_wp2_with fail
  refine (copyRs s k r fs _ _ (holdsF_mono HV.out B1.out) (by omega)).mono ?_
  rintro e w2 ⟨u, rfl, ho⟩
  have B2 := hide' (bt' B1.out ho.2)
  have Q2 := hide' (quad_below Q1.out ho.2)
  have F2 := hide' (holdsF_own ho)
  obtain ⟨ua, uc, ub, uo, hu, _⟩ := holdsF_parts F2.out
  subst hu
  clear ho i0 i1 i2 i3 Q1 B1
  go_wp2_with fail
  refine (cT.out _ _ F2.out (er_below EV.out B2.out)).mono ?_
  rintro e w4 ⟨rfl, b4⟩
  have B4 := hide' (bt' B2.out b4)
  have Q4 := hide' (quad_below Q2.out b4)
  clear b4 Q2 F2 B2
  have b5 := below_alloc' w4 (.cells #[.int .i64 y1, .int .i64 y2] 28)
  have D5 := hide' (duo_lit w4 (.int .i64 y1) (.int .i64 y2) 28)
  have B5 := hide' (bt' B4.out b5)
  have Q5 := hide' (quad_below Q4.out b5)
  clear b5 Q4 B4
  obtain ⟨g, hg⟩ : ∃ g, g = w.heap.size := ⟨_, rfl⟩
  have HG := hide' hg
  have kC := hide' (fun W (h : Below (w4.alloc (.cells #[.int .i64 y1, .int .i64 y2] 28)).heap.size (w4.alloc (.cells #[.int .i64 y1, .int .i64 y2] 28)) W) => (copyF (.slice ao fs.length ca) fs W (holdsF_mono HV.out (bt' B5.out h)) (by omega)).mono (R' := fun e w' => ∃ ua uc, e = .returned (.slice ua fs.length uc) ∧ Hid (HoldsF w' (.slice ua fs.length uc) fs) ∧ Hid (Below (w4.alloc (.cells #[.int .i64 y1, .int .i64 y2] 28)).heap.size (w4.alloc (.cells #[.int .i64 y1, .int .i64 y2] 28)) w') ∧ Hid (Below W.heap.size W w') ∧ Keeps W w' ∧ Pair w.heap.size w' (.int .i64 k) (.slice ao fs.length ca)) (by
    rintro e w' ⟨u, rfl, ho⟩
    obtain ⟨ua, uc, _, _, hu, _⟩ := holdsF_parts (holdsF_own ho)
    subst hu
    obtain ⟨_, _, j2, j3, _⟩ := quad_below Q5.out (bt' h ho.2)
    exact ⟨ua, uc, rfl, holdsF_own ho, bt' h ho.2, ho.2, keeps_of ho.2, j2, j3⟩))
  have kR := hide' (fun W u (hu : HoldsF W u fs) (h : Below (w4.alloc (.cells #[.int .i64 y1, .int .i64 y2] 28)).heap.size (w4.alloc (.cells #[.int .i64 y1, .int .i64 y2] 28)) W) => (cR.out W u hu (er_below EV.out (bt' B5.out h))).mono (R' := fun e w' => e = .returned (.tuple #[.agg #[.int .i64 x1, .int .i64 x2], .int .i64 x3]) ∧ Hid (Below (w4.alloc (.cells #[.int .i64 y1, .int .i64 y2] 28)).heap.size (w4.alloc (.cells #[.int .i64 y1, .int .i64 y2] 28)) w') ∧ Hid (Below W.heap.size W w') ∧ Keeps W w' ∧ Pair w.heap.size w' (.int .i64 k) (.slice ao fs.length ca)) (by
    rintro e w' ⟨rfl, b⟩
    obtain ⟨_, _, j2, j3, _⟩ := quad_below Q5.out (bt' h b)
    exact ⟨rfl, bt' h b, b, keeps_of b, j2, j3⟩))
  unfold Pair Keeps at kC kR
  obtain ⟨i0, i1, i2, i3, qz⟩ := Q5.out
  have ne5 : w4.heap.size + 1 ≠ w.heap.size := by
    have h := ne_of_cell i2
    simpa using h
  have ne5' := ne5.symm
  clear hg
  go_wp2_with fail
  go_region_held3 (fun w' => w'.cell? ⟨w.heap.size, 2, none⟩ = some (.int .i64 k) ∧ w'.cell? ⟨w.heap.size, 3, none⟩ = some (.slice ao fs.length ca)) (go_keep)
    (first
      | (go_at_call 19; refine (kC.out _ ?_).mono ?_; (first | exact (Below.refl _ _).drew | exact Below.refl _ _ | exact below_da _ _ | exact below_ad _ _ | exact below_alloc' _ _); rintro e w6 ⟨va, vc, rfl, F6, O6, P6, ⟨z6, c6, f6⟩, k2, k3⟩; have ne6 := ne_of_cell k2; have ne6' := ne6.symm)
      | (go_at_call 11; refine (kR.out _ _ ?_ ?_).mono ?_; (first | exact F6.out | exact holdsF_mono F6.out (below_alloc' _ _)); (first | exact O6.out | exact bt' O6.out (below_alloc' _ _)); rintro e w7 ⟨rfl, O7, P7, ⟨z7, c7, f7⟩, k4, k5⟩))
  · have O9 := bt' B5.out O7.out
    have b8 := below_alloc' w7 (.cells #[.int .i64 x1, .int .i64 x2] 28)
    have QZ := hide' (quad_below (quad_below Q5.out O7.out) b8)
    have DZ := hide' (duo_below (duo_below D5.out O7.out) b8)
    have CZ := hide' (duo_lit w7 (.int .i64 x1) (.int .i64 x2) 28)
    have BZ := hide' (bt' O9 b8)
    clear b8
    obtain ⟨W9, hW9⟩ : ∃ W9, W9 = w7.alloc (.cells #[.int .i64 x1, .int .i64 x2] 28) := ⟨_, rfl⟩
    rw [← hW9] at QZ DZ CZ BZ ⊢
    obtain ⟨gc, hgc⟩ : ∃ gc, gc = w7.heap.size := ⟨_, rfl⟩
    rw [← hgc] at CZ ⊢
    clear hW9 hgc O9 kC kR k2 k3 k4 k5 z6 c6 f6 z7 c7 f7 P6 P7 O6 O7 F6 ne5 ne5' ne6 ne6' i0 i1 i2 i3 qz cT cR Q5 D5 B5
    obtain ⟨i0, i1, i2, i3, _⟩ := QZ.out
    obtain ⟨d0, d1, _⟩ := DZ.out
    obtain ⟨c0, c1, _⟩ := CZ.out
    by_cases h0 : m = headB
    · have n0 : ((⟨m.toArray⟩ : ByteArray).toList == (⟨#[72, 69, 65, 68]⟩ : ByteArray).toList) = true := by rw [Lib.toList_data, Lib.toList_data, h0]; rfl
      have n0' : (m == [72, 69, 65, 68]) = true := by rw [h0]; rfl
      have R := r1.out (bare_head h0)
      simp only [Prod.mk.injEq] at R
      obtain ⟨rfl, rfl, rfl⟩ := R
      clear h0
      go_wp2_with fail
      go_ret
      exact ⟨rfl, BZ.out⟩
    · have n0 := ba_eql' _ _ h0
      have n0' : (m == headB) = false := by simpa using h0
      unfold headB at n0 n0'
      by_cases h2 : s = 204
      · subst h2
        have R := r1.out bare_204
        simp only [Prod.mk.injEq] at R
        obtain ⟨rfl, rfl, rfl⟩ := R
        clear h0
        go_wp2_with fail
        go_ret
        exact ⟨rfl, BZ.out⟩
      · have a2 : (s == 204) = false := by simpa using h2
        by_cases h3 : s = 304
        · subst h3
          have R := r1.out bare_304
          simp only [Prod.mk.injEq] at R
          obtain ⟨rfl, rfl, rfl⟩ := R
          clear h0 h2
          go_wp2_with fail
          go_ret
          exact ⟨rfl, BZ.out⟩
        · have a3 : (s == 304) = false := by simpa using h3
          by_cases h1 : 100 ≤ s ∧ s ≤ 199
          · have b1 : decide (100 ≤ s) = true := by simp; omega
            have b2 : decide (s < 200) = true := by simp; omega
            have R := r1.out (bare_one h1)
            simp only [Prod.mk.injEq] at R
            obtain ⟨rfl, rfl, rfl⟩ := R
            clear h0 h2 h3 h1
            go_wp2_with fail
            go_ret
            exact ⟨rfl, BZ.out⟩
          · by_cases h4 : m = connB
            · have n4 : ((⟨m.toArray⟩ : ByteArray).toList == (⟨#[67, 79, 78, 78, 69, 67, 84]⟩ : ByteArray).toList) = true := by rw [Lib.toList_data, Lib.toList_data, h4]; rfl
              have n4' : (m == [67, 79, 78, 78, 69, 67, 84]) = true := by rw [h4]; rfl
              by_cases h5 : 200 ≤ s
              · have b1 : decide (100 ≤ s) = true := by simp; omega
                have b2 : decide (s < 200) = false := by simp; omega
                have b3 : decide (200 ≤ s) = true := by simp; omega
                by_cases h6 : s ≤ 299
                · have b4 : decide (s < 300) = true := by simp; omega
                  have R := r1.out (bare_conn h4 h5 h6)
                  simp only [Prod.mk.injEq] at R
                  obtain ⟨rfl, rfl, rfl⟩ := R
                  clear h0 h1 h2 h3 h4 h5 h6
                  go_wp2_with fail
                  go_ret
                  exact ⟨rfl, BZ.out⟩
                · have b4 : decide (s < 300) = false := by simp; omega
                  have R := R2.out (bare_not h0 h1 h2 h3 (fun h => h6 h.2.2))
                  clear h0 h1 h2 h3 h4 h5 h6
                  by_cases hx3 : x3 = 0
                  · by_cases hx1 : x1 = 0
                    · have hx2 := R0.out ⟨hx3, hx1⟩
                      rw [if_pos ⟨hx3, hx1⟩] at R
                      subst hx3 hx1 hx2
                      simp only [Prod.mk.injEq] at R
                      obtain ⟨rfl, rfl, rfl⟩ := R
                      go_wp2_with fail
                      go_ret
                      exact ⟨rfl, BZ.out⟩
                    · have nx1 : (x1 == 0) = false := by simpa using hx1
                      rw [if_neg (fun h => hx1 h.2)] at R
                      subst hx3
                      simp only [Prod.mk.injEq] at R
                      obtain ⟨rfl, rfl, rfl⟩ := R
                      clear hx1
                      go_wp2_with fail
                      go_ret
                      exact ⟨rfl, BZ.out⟩
                  · have nx3 : (x3 == 0) = false := by simpa using hx3
                    rw [if_neg (fun h => hx3 h.1)] at R
                    simp only [Prod.mk.injEq] at R
                    obtain ⟨rfl, rfl, rfl⟩ := R
                    clear hx3
                    go_wp2_with fail
                    go_ret
                    exact ⟨rfl, BZ.out⟩
              · have b1 : decide (100 ≤ s) = false := by simp; omega
                have b3 : decide (200 ≤ s) = false := by simp; omega
                have R := R2.out (bare_not h0 h1 h2 h3 (fun h => h5 h.2.1))
                clear h0 h1 h2 h3 h4 h5
                by_cases hx3 : x3 = 0
                · by_cases hx1 : x1 = 0
                  · have hx2 := R0.out ⟨hx3, hx1⟩
                    rw [if_pos ⟨hx3, hx1⟩] at R
                    subst hx3 hx1 hx2
                    simp only [Prod.mk.injEq] at R
                    obtain ⟨rfl, rfl, rfl⟩ := R
                    go_wp2_with fail
                    go_ret
                    exact ⟨rfl, BZ.out⟩
                  · have nx1 : (x1 == 0) = false := by simpa using hx1
                    rw [if_neg (fun h => hx1 h.2)] at R
                    subst hx3
                    simp only [Prod.mk.injEq] at R
                    obtain ⟨rfl, rfl, rfl⟩ := R
                    clear hx1
                    go_wp2_with fail
                    go_ret
                    exact ⟨rfl, BZ.out⟩
                · have nx3 : (x3 == 0) = false := by simpa using hx3
                  rw [if_neg (fun h => hx3 h.1)] at R
                  simp only [Prod.mk.injEq] at R
                  obtain ⟨rfl, rfl, rfl⟩ := R
                  clear hx3
                  go_wp2_with fail
                  go_ret
                  exact ⟨rfl, BZ.out⟩
            · have n4 := ba_eql' _ _ h4
              have n4' : (m == connB) = false := by simpa using h4
              unfold connB at n4 n4'
              by_cases h5 : 100 ≤ s
              · have b1 : decide (100 ≤ s) = true := by simp; omega
                have b2 : decide (s < 200) = false := by simp; omega
                have R := R2.out (bare_not h0 h1 h2 h3 (fun h => h4 h.1))
                clear h0 h1 h2 h3 h4 h5
                by_cases hx3 : x3 = 0
                · by_cases hx1 : x1 = 0
                  · have hx2 := R0.out ⟨hx3, hx1⟩
                    rw [if_pos ⟨hx3, hx1⟩] at R
                    subst hx3 hx1 hx2
                    simp only [Prod.mk.injEq] at R
                    obtain ⟨rfl, rfl, rfl⟩ := R
                    go_wp2_with fail
                    go_ret
                    exact ⟨rfl, BZ.out⟩
                  · have nx1 : (x1 == 0) = false := by simpa using hx1
                    rw [if_neg (fun h => hx1 h.2)] at R
                    subst hx3
                    simp only [Prod.mk.injEq] at R
                    obtain ⟨rfl, rfl, rfl⟩ := R
                    clear hx1
                    go_wp2_with fail
                    go_ret
                    exact ⟨rfl, BZ.out⟩
                · have nx3 : (x3 == 0) = false := by simpa using hx3
                  rw [if_neg (fun h => hx3 h.1)] at R
                  simp only [Prod.mk.injEq] at R
                  obtain ⟨rfl, rfl, rfl⟩ := R
                  clear hx3
                  go_wp2_with fail
                  go_ret
                  exact ⟨rfl, BZ.out⟩
              · have b1 : decide (100 ≤ s) = false := by simpa using h5
                have R := R2.out (bare_not h0 h1 h2 h3 (fun h => h4 h.1))
                clear h0 h1 h2 h3 h4 h5
                by_cases hx3 : x3 = 0
                · by_cases hx1 : x1 = 0
                  · have hx2 := R0.out ⟨hx3, hx1⟩
                    rw [if_pos ⟨hx3, hx1⟩] at R
                    subst hx3 hx1 hx2
                    simp only [Prod.mk.injEq] at R
                    obtain ⟨rfl, rfl, rfl⟩ := R
                    go_wp2_with fail
                    go_ret
                    exact ⟨rfl, BZ.out⟩
                  · have nx1 : (x1 == 0) = false := by simpa using hx1
                    rw [if_neg (fun h => hx1 h.2)] at R
                    subst hx3
                    simp only [Prod.mk.injEq] at R
                    obtain ⟨rfl, rfl, rfl⟩ := R
                    clear hx1
                    go_wp2_with fail
                    go_ret
                    exact ⟨rfl, BZ.out⟩
                · have nx3 : (x3 == 0) = false := by simpa using hx3
                  rw [if_neg (fun h => hx3 h.1)] at R
                  simp only [Prod.mk.injEq] at R
                  obtain ⟨rfl, rfl, rfl⟩ := R
                  clear hx3
                  go_wp2_with fail
                  go_ret
                  exact ⟨rfl, BZ.out⟩
  · have O9 := bt' B5.out O7.out
    have D7 := duo_below (duo_lit w6 (.int .i64 0) (.int .i64 0) 28) P7.out
    have sz := (bt' B5.out O6.out).size
    have sz4 : w4.heap.size < w6.heap.size := by have h := O6.out.size; simp at h; omega
    have QZ := hide' (quad_far (quad_below Q5.out O7.out) (show w.heap.size ≠ w6.heap.size from ne6') (.int .i64 x1) (.int .i64 x2))
    have DZ := hide' (duo_far (duo_below D5.out O7.out) (show w4.heap.size ≠ w6.heap.size by omega) (.int .i64 x1) (.int .i64 x2))
    have CZ := hide' (duo_put D7 (.int .i64 x1) (.int .i64 x2))
    have BZ := hide' (put2_below O9 sz (.int .i64 x1) (.int .i64 x2))
    unfold put2 at QZ DZ CZ BZ
    clear D7 sz sz4
    obtain ⟨W9, hW9⟩ : ∃ W9, W9 = (w7.setCell ⟨w6.heap.size, 0, none⟩ (.int .i64 x1)).setCell ⟨w6.heap.size, 1, none⟩ (.int .i64 x2) := ⟨_, rfl⟩
    rw [← hW9] at QZ DZ CZ BZ ⊢
    obtain ⟨gc, hgc⟩ : ∃ gc, gc = w6.heap.size := ⟨_, rfl⟩
    rw [← hgc] at CZ ⊢
    clear hW9 hgc O9 kC kR k2 k3 k4 k5 z6 c6 f6 z7 c7 f7 P6 P7 O6 O7 F6 ne5 ne5' ne6 ne6' i0 i1 i2 i3 qz cT cR Q5 D5 B5
    obtain ⟨i0, i1, i2, i3, _⟩ := QZ.out
    obtain ⟨d0, d1, _⟩ := DZ.out
    obtain ⟨c0, c1, _⟩ := CZ.out
    by_cases h0 : m = headB
    · have n0 : ((⟨m.toArray⟩ : ByteArray).toList == (⟨#[72, 69, 65, 68]⟩ : ByteArray).toList) = true := by rw [Lib.toList_data, Lib.toList_data, h0]; rfl
      have n0' : (m == [72, 69, 65, 68]) = true := by rw [h0]; rfl
      have R := r1.out (bare_head h0)
      simp only [Prod.mk.injEq] at R
      obtain ⟨rfl, rfl, rfl⟩ := R
      clear h0
      go_wp2_with fail
      go_ret
      exact ⟨rfl, BZ.out⟩
    · have n0 := ba_eql' _ _ h0
      have n0' : (m == headB) = false := by simpa using h0
      unfold headB at n0 n0'
      by_cases h2 : s = 204
      · subst h2
        have R := r1.out bare_204
        simp only [Prod.mk.injEq] at R
        obtain ⟨rfl, rfl, rfl⟩ := R
        clear h0
        go_wp2_with fail
        go_ret
        exact ⟨rfl, BZ.out⟩
      · have a2 : (s == 204) = false := by simpa using h2
        by_cases h3 : s = 304
        · subst h3
          have R := r1.out bare_304
          simp only [Prod.mk.injEq] at R
          obtain ⟨rfl, rfl, rfl⟩ := R
          clear h0 h2
          go_wp2_with fail
          go_ret
          exact ⟨rfl, BZ.out⟩
        · have a3 : (s == 304) = false := by simpa using h3
          by_cases h1 : 100 ≤ s ∧ s ≤ 199
          · have b1 : decide (100 ≤ s) = true := by simp; omega
            have b2 : decide (s < 200) = true := by simp; omega
            have R := r1.out (bare_one h1)
            simp only [Prod.mk.injEq] at R
            obtain ⟨rfl, rfl, rfl⟩ := R
            clear h0 h2 h3 h1
            go_wp2_with fail
            go_ret
            exact ⟨rfl, BZ.out⟩
          · by_cases h4 : m = connB
            · have n4 : ((⟨m.toArray⟩ : ByteArray).toList == (⟨#[67, 79, 78, 78, 69, 67, 84]⟩ : ByteArray).toList) = true := by rw [Lib.toList_data, Lib.toList_data, h4]; rfl
              have n4' : (m == [67, 79, 78, 78, 69, 67, 84]) = true := by rw [h4]; rfl
              by_cases h5 : 200 ≤ s
              · have b1 : decide (100 ≤ s) = true := by simp; omega
                have b2 : decide (s < 200) = false := by simp; omega
                have b3 : decide (200 ≤ s) = true := by simp; omega
                by_cases h6 : s ≤ 299
                · have b4 : decide (s < 300) = true := by simp; omega
                  have R := r1.out (bare_conn h4 h5 h6)
                  simp only [Prod.mk.injEq] at R
                  obtain ⟨rfl, rfl, rfl⟩ := R
                  clear h0 h1 h2 h3 h4 h5 h6
                  go_wp2_with fail
                  go_ret
                  exact ⟨rfl, BZ.out⟩
                · have b4 : decide (s < 300) = false := by simp; omega
                  have R := R2.out (bare_not h0 h1 h2 h3 (fun h => h6 h.2.2))
                  clear h0 h1 h2 h3 h4 h5 h6
                  by_cases hx3 : x3 = 0
                  · by_cases hx1 : x1 = 0
                    · have hx2 := R0.out ⟨hx3, hx1⟩
                      rw [if_pos ⟨hx3, hx1⟩] at R
                      subst hx3 hx1 hx2
                      simp only [Prod.mk.injEq] at R
                      obtain ⟨rfl, rfl, rfl⟩ := R
                      go_wp2_with fail
                      go_ret
                      exact ⟨rfl, BZ.out⟩
                    · have nx1 : (x1 == 0) = false := by simpa using hx1
                      rw [if_neg (fun h => hx1 h.2)] at R
                      subst hx3
                      simp only [Prod.mk.injEq] at R
                      obtain ⟨rfl, rfl, rfl⟩ := R
                      clear hx1
                      go_wp2_with fail
                      go_ret
                      exact ⟨rfl, BZ.out⟩
                  · have nx3 : (x3 == 0) = false := by simpa using hx3
                    rw [if_neg (fun h => hx3 h.1)] at R
                    simp only [Prod.mk.injEq] at R
                    obtain ⟨rfl, rfl, rfl⟩ := R
                    clear hx3
                    go_wp2_with fail
                    go_ret
                    exact ⟨rfl, BZ.out⟩
              · have b1 : decide (100 ≤ s) = false := by simp; omega
                have b3 : decide (200 ≤ s) = false := by simp; omega
                have R := R2.out (bare_not h0 h1 h2 h3 (fun h => h5 h.2.1))
                clear h0 h1 h2 h3 h4 h5
                by_cases hx3 : x3 = 0
                · by_cases hx1 : x1 = 0
                  · have hx2 := R0.out ⟨hx3, hx1⟩
                    rw [if_pos ⟨hx3, hx1⟩] at R
                    subst hx3 hx1 hx2
                    simp only [Prod.mk.injEq] at R
                    obtain ⟨rfl, rfl, rfl⟩ := R
                    go_wp2_with fail
                    go_ret
                    exact ⟨rfl, BZ.out⟩
                  · have nx1 : (x1 == 0) = false := by simpa using hx1
                    rw [if_neg (fun h => hx1 h.2)] at R
                    subst hx3
                    simp only [Prod.mk.injEq] at R
                    obtain ⟨rfl, rfl, rfl⟩ := R
                    clear hx1
                    go_wp2_with fail
                    go_ret
                    exact ⟨rfl, BZ.out⟩
                · have nx3 : (x3 == 0) = false := by simpa using hx3
                  rw [if_neg (fun h => hx3 h.1)] at R
                  simp only [Prod.mk.injEq] at R
                  obtain ⟨rfl, rfl, rfl⟩ := R
                  clear hx3
                  go_wp2_with fail
                  go_ret
                  exact ⟨rfl, BZ.out⟩
            · have n4 := ba_eql' _ _ h4
              have n4' : (m == connB) = false := by simpa using h4
              unfold connB at n4 n4'
              by_cases h5 : 100 ≤ s
              · have b1 : decide (100 ≤ s) = true := by simp; omega
                have b2 : decide (s < 200) = false := by simp; omega
                have R := R2.out (bare_not h0 h1 h2 h3 (fun h => h4 h.1))
                clear h0 h1 h2 h3 h4 h5
                by_cases hx3 : x3 = 0
                · by_cases hx1 : x1 = 0
                  · have hx2 := R0.out ⟨hx3, hx1⟩
                    rw [if_pos ⟨hx3, hx1⟩] at R
                    subst hx3 hx1 hx2
                    simp only [Prod.mk.injEq] at R
                    obtain ⟨rfl, rfl, rfl⟩ := R
                    go_wp2_with fail
                    go_ret
                    exact ⟨rfl, BZ.out⟩
                  · have nx1 : (x1 == 0) = false := by simpa using hx1
                    rw [if_neg (fun h => hx1 h.2)] at R
                    subst hx3
                    simp only [Prod.mk.injEq] at R
                    obtain ⟨rfl, rfl, rfl⟩ := R
                    clear hx1
                    go_wp2_with fail
                    go_ret
                    exact ⟨rfl, BZ.out⟩
                · have nx3 : (x3 == 0) = false := by simpa using hx3
                  rw [if_neg (fun h => hx3 h.1)] at R
                  simp only [Prod.mk.injEq] at R
                  obtain ⟨rfl, rfl, rfl⟩ := R
                  clear hx3
                  go_wp2_with fail
                  go_ret
                  exact ⟨rfl, BZ.out⟩
              · have b1 : decide (100 ≤ s) = false := by simpa using h5
                have R := R2.out (bare_not h0 h1 h2 h3 (fun h => h4 h.1))
                clear h0 h1 h2 h3 h4 h5
                by_cases hx3 : x3 = 0
                · by_cases hx1 : x1 = 0
                  · have hx2 := R0.out ⟨hx3, hx1⟩
                    rw [if_pos ⟨hx3, hx1⟩] at R
                    subst hx3 hx1 hx2
                    simp only [Prod.mk.injEq] at R
                    obtain ⟨rfl, rfl, rfl⟩ := R
                    go_wp2_with fail
                    go_ret
                    exact ⟨rfl, BZ.out⟩
                  · have nx1 : (x1 == 0) = false := by simpa using hx1
                    rw [if_neg (fun h => hx1 h.2)] at R
                    subst hx3
                    simp only [Prod.mk.injEq] at R
                    obtain ⟨rfl, rfl, rfl⟩ := R
                    clear hx1
                    go_wp2_with fail
                    go_ret
                    exact ⟨rfl, BZ.out⟩
                · have nx3 : (x3 == 0) = false := by simpa using hx3
                  rw [if_neg (fun h => hx3 h.1)] at R
                  simp only [Prod.mk.injEq] at R
                  obtain ⟨rfl, rfl, rfl⟩ := R
                  clear hx3
                  go_wp2_with fail
                  go_ret
                  exact ⟨rfl, BZ.out⟩
  · have O9 := bt' B5.out O7.out
    have D7 := duo_below (duo_below (duo_da (w4.alloc (.cells #[.int .i64 y1, .int .i64 y2] 28)) (.int .i64 0) (.int .i64 0) 28) P6.out) P7.out
    have zz : (w4.alloc (.cells #[.int .i64 y1, .int .i64 y2] 28)).heap.size = w4.heap.size + 1 := by simp
    rw [zz] at D7
    have sz := B5.out.size
    rw [zz] at sz
    have QZ := hide' (quad_far (quad_below Q5.out O7.out) (show w.heap.size ≠ w4.heap.size + 1 from ne5') (.int .i64 x1) (.int .i64 x2))
    have DZ := hide' (duo_far (duo_below D5.out O7.out) (show w4.heap.size ≠ w4.heap.size + 1 by omega) (.int .i64 x1) (.int .i64 x2))
    have CZ := hide' (duo_put D7 (.int .i64 x1) (.int .i64 x2))
    have BZ := hide' (put2_below O9 sz (.int .i64 x1) (.int .i64 x2))
    unfold put2 at QZ DZ CZ BZ
    clear D7 sz zz
    obtain ⟨W9, hW9⟩ : ∃ W9, W9 = (w7.setCell ⟨w4.heap.size + 1, 0, none⟩ (.int .i64 x1)).setCell ⟨w4.heap.size + 1, 1, none⟩ (.int .i64 x2) := ⟨_, rfl⟩
    rw [← hW9] at QZ DZ CZ BZ ⊢
    obtain ⟨gc, hgc⟩ : ∃ gc, gc = w4.heap.size + 1 := ⟨_, rfl⟩
    rw [← hgc] at CZ ⊢
    clear hW9 hgc O9 kC kR k2 k3 k4 k5 z6 c6 f6 z7 c7 f7 P6 P7 O6 O7 F6 ne5 ne5' ne6 ne6' i0 i1 i2 i3 qz cT cR Q5 D5 B5
    obtain ⟨i0, i1, i2, i3, _⟩ := QZ.out
    obtain ⟨d0, d1, _⟩ := DZ.out
    obtain ⟨c0, c1, _⟩ := CZ.out
    by_cases h0 : m = headB
    · have n0 : ((⟨m.toArray⟩ : ByteArray).toList == (⟨#[72, 69, 65, 68]⟩ : ByteArray).toList) = true := by rw [Lib.toList_data, Lib.toList_data, h0]; rfl
      have n0' : (m == [72, 69, 65, 68]) = true := by rw [h0]; rfl
      have R := r1.out (bare_head h0)
      simp only [Prod.mk.injEq] at R
      obtain ⟨rfl, rfl, rfl⟩ := R
      clear h0
      go_wp2_with fail
      go_ret
      exact ⟨rfl, BZ.out⟩
    · have n0 := ba_eql' _ _ h0
      have n0' : (m == headB) = false := by simpa using h0
      unfold headB at n0 n0'
      by_cases h2 : s = 204
      · subst h2
        have R := r1.out bare_204
        simp only [Prod.mk.injEq] at R
        obtain ⟨rfl, rfl, rfl⟩ := R
        clear h0
        go_wp2_with fail
        go_ret
        exact ⟨rfl, BZ.out⟩
      · have a2 : (s == 204) = false := by simpa using h2
        by_cases h3 : s = 304
        · subst h3
          have R := r1.out bare_304
          simp only [Prod.mk.injEq] at R
          obtain ⟨rfl, rfl, rfl⟩ := R
          clear h0 h2
          go_wp2_with fail
          go_ret
          exact ⟨rfl, BZ.out⟩
        · have a3 : (s == 304) = false := by simpa using h3
          by_cases h1 : 100 ≤ s ∧ s ≤ 199
          · have b1 : decide (100 ≤ s) = true := by simp; omega
            have b2 : decide (s < 200) = true := by simp; omega
            have R := r1.out (bare_one h1)
            simp only [Prod.mk.injEq] at R
            obtain ⟨rfl, rfl, rfl⟩ := R
            clear h0 h2 h3 h1
            go_wp2_with fail
            go_ret
            exact ⟨rfl, BZ.out⟩
          · by_cases h4 : m = connB
            · have n4 : ((⟨m.toArray⟩ : ByteArray).toList == (⟨#[67, 79, 78, 78, 69, 67, 84]⟩ : ByteArray).toList) = true := by rw [Lib.toList_data, Lib.toList_data, h4]; rfl
              have n4' : (m == [67, 79, 78, 78, 69, 67, 84]) = true := by rw [h4]; rfl
              by_cases h5 : 200 ≤ s
              · have b1 : decide (100 ≤ s) = true := by simp; omega
                have b2 : decide (s < 200) = false := by simp; omega
                have b3 : decide (200 ≤ s) = true := by simp; omega
                by_cases h6 : s ≤ 299
                · have b4 : decide (s < 300) = true := by simp; omega
                  have R := r1.out (bare_conn h4 h5 h6)
                  simp only [Prod.mk.injEq] at R
                  obtain ⟨rfl, rfl, rfl⟩ := R
                  clear h0 h1 h2 h3 h4 h5 h6
                  go_wp2_with fail
                  go_ret
                  exact ⟨rfl, BZ.out⟩
                · have b4 : decide (s < 300) = false := by simp; omega
                  have R := R2.out (bare_not h0 h1 h2 h3 (fun h => h6 h.2.2))
                  clear h0 h1 h2 h3 h4 h5 h6
                  by_cases hx3 : x3 = 0
                  · by_cases hx1 : x1 = 0
                    · have hx2 := R0.out ⟨hx3, hx1⟩
                      rw [if_pos ⟨hx3, hx1⟩] at R
                      subst hx3 hx1 hx2
                      simp only [Prod.mk.injEq] at R
                      obtain ⟨rfl, rfl, rfl⟩ := R
                      go_wp2_with fail
                      go_ret
                      exact ⟨rfl, BZ.out⟩
                    · have nx1 : (x1 == 0) = false := by simpa using hx1
                      rw [if_neg (fun h => hx1 h.2)] at R
                      subst hx3
                      simp only [Prod.mk.injEq] at R
                      obtain ⟨rfl, rfl, rfl⟩ := R
                      clear hx1
                      go_wp2_with fail
                      go_ret
                      exact ⟨rfl, BZ.out⟩
                  · have nx3 : (x3 == 0) = false := by simpa using hx3
                    rw [if_neg (fun h => hx3 h.1)] at R
                    simp only [Prod.mk.injEq] at R
                    obtain ⟨rfl, rfl, rfl⟩ := R
                    clear hx3
                    go_wp2_with fail
                    go_ret
                    exact ⟨rfl, BZ.out⟩
              · have b1 : decide (100 ≤ s) = false := by simp; omega
                have b3 : decide (200 ≤ s) = false := by simp; omega
                have R := R2.out (bare_not h0 h1 h2 h3 (fun h => h5 h.2.1))
                clear h0 h1 h2 h3 h4 h5
                by_cases hx3 : x3 = 0
                · by_cases hx1 : x1 = 0
                  · have hx2 := R0.out ⟨hx3, hx1⟩
                    rw [if_pos ⟨hx3, hx1⟩] at R
                    subst hx3 hx1 hx2
                    simp only [Prod.mk.injEq] at R
                    obtain ⟨rfl, rfl, rfl⟩ := R
                    go_wp2_with fail
                    go_ret
                    exact ⟨rfl, BZ.out⟩
                  · have nx1 : (x1 == 0) = false := by simpa using hx1
                    rw [if_neg (fun h => hx1 h.2)] at R
                    subst hx3
                    simp only [Prod.mk.injEq] at R
                    obtain ⟨rfl, rfl, rfl⟩ := R
                    clear hx1
                    go_wp2_with fail
                    go_ret
                    exact ⟨rfl, BZ.out⟩
                · have nx3 : (x3 == 0) = false := by simpa using hx3
                  rw [if_neg (fun h => hx3 h.1)] at R
                  simp only [Prod.mk.injEq] at R
                  obtain ⟨rfl, rfl, rfl⟩ := R
                  clear hx3
                  go_wp2_with fail
                  go_ret
                  exact ⟨rfl, BZ.out⟩
            · have n4 := ba_eql' _ _ h4
              have n4' : (m == connB) = false := by simpa using h4
              unfold connB at n4 n4'
              by_cases h5 : 100 ≤ s
              · have b1 : decide (100 ≤ s) = true := by simp; omega
                have b2 : decide (s < 200) = false := by simp; omega
                have R := R2.out (bare_not h0 h1 h2 h3 (fun h => h4 h.1))
                clear h0 h1 h2 h3 h4 h5
                by_cases hx3 : x3 = 0
                · by_cases hx1 : x1 = 0
                  · have hx2 := R0.out ⟨hx3, hx1⟩
                    rw [if_pos ⟨hx3, hx1⟩] at R
                    subst hx3 hx1 hx2
                    simp only [Prod.mk.injEq] at R
                    obtain ⟨rfl, rfl, rfl⟩ := R
                    go_wp2_with fail
                    go_ret
                    exact ⟨rfl, BZ.out⟩
                  · have nx1 : (x1 == 0) = false := by simpa using hx1
                    rw [if_neg (fun h => hx1 h.2)] at R
                    subst hx3
                    simp only [Prod.mk.injEq] at R
                    obtain ⟨rfl, rfl, rfl⟩ := R
                    clear hx1
                    go_wp2_with fail
                    go_ret
                    exact ⟨rfl, BZ.out⟩
                · have nx3 : (x3 == 0) = false := by simpa using hx3
                  rw [if_neg (fun h => hx3 h.1)] at R
                  simp only [Prod.mk.injEq] at R
                  obtain ⟨rfl, rfl, rfl⟩ := R
                  clear hx3
                  go_wp2_with fail
                  go_ret
                  exact ⟨rfl, BZ.out⟩
              · have b1 : decide (100 ≤ s) = false := by simpa using h5
                have R := R2.out (bare_not h0 h1 h2 h3 (fun h => h4 h.1))
                clear h0 h1 h2 h3 h4 h5
                by_cases hx3 : x3 = 0
                · by_cases hx1 : x1 = 0
                  · have hx2 := R0.out ⟨hx3, hx1⟩
                    rw [if_pos ⟨hx3, hx1⟩] at R
                    subst hx3 hx1 hx2
                    simp only [Prod.mk.injEq] at R
                    obtain ⟨rfl, rfl, rfl⟩ := R
                    go_wp2_with fail
                    go_ret
                    exact ⟨rfl, BZ.out⟩
                  · have nx1 : (x1 == 0) = false := by simpa using hx1
                    rw [if_neg (fun h => hx1 h.2)] at R
                    subst hx3
                    simp only [Prod.mk.injEq] at R
                    obtain ⟨rfl, rfl, rfl⟩ := R
                    clear hx1
                    go_wp2_with fail
                    go_ret
                    exact ⟨rfl, BZ.out⟩
                · have nx3 : (x3 == 0) = false := by simpa using hx3
                  rw [if_neg (fun h => hx3 h.1)] at R
                  simp only [Prod.mk.injEq] at R
                  obtain ⟨rfl, rfl, rfl⟩ := R
                  clear hx3
                  go_wp2_with fail
                  go_ret
                  exact ⟨rfl, BZ.out⟩
theorem walk (s : Int) (r : List UInt8) (k : Int) (lv : Value) (fs : FL) (x : ByteArray) (w : World) (hv : HoldsF w lv fs) (hb : bulkF fs ≤ 1048576) (E : Er w) :
    Calls Tryd.prog 7 #[.agg #[.int .i64 s, .string ⟨r.toArray⟩, .int .i64 k, lv], .string x] w fun e w' => e = .returned (.bool true) ∧ Below w.heap.size w w' := by
  have h := walk0 s r k lv fs x.data.toList w hv hb E
  rw [ba_eta] at h
  exact h
end frameSame
end Go.Proofs.YtnjfahidcbglpaaDoor
