/- The contracts of CopyEntry and SameEntry. -/
import Derived.Test.YtnlehfondhegbaaGreatDoorObD
import Derived.Test.YtnlehfondhegbaaGreatDoorBa
namespace Go.Proofs.YtnlehfondhegbaaGreatDoor
open Go.RowKit
set_option maxRecDepth 20000 in
set_option maxHeartbeats 4000000 in
theorem copyEC (e : En) (lv bv : Value) (w : World) (hF : HoldsF w lv e.r.fs) (hB : HoldsB w bv e.body) (hl : e.r.fs.length ≤ 2000000) (hb : e.body.length ≤ 140737488355328) :
    Calls Tryz.prog 14 #[entV e lv bv] w fun x w' => ∃ lu bu, x = .returned (entV e lu bu) ∧ OwnF w lu e.r.fs w' ∧ Own w bu e.body w' := by
  obtain ⟨la, lc, _, _, e1, _⟩ := holdsF_parts hF
  obtain ⟨ba, bc, e2, _⟩ := holdsB_parts hB
  subst e1 e2
  unfold entV
  obtain ⟨key, vary, ⟨s, r, k, fs⟩, body, a0, g0⟩ := e
  dsimp only at *
  have b1 := below_alloc' w (.cells #[.string ⟨key.toArray⟩, .string ⟨vary.toArray⟩, .int .i64 s, .string ⟨r.toArray⟩, .int .i64 k, .slice la fs.length lc, .slice ba body.length bc, .int .i64 a0, .int .i64 g0] 29)
  have b2 := below_alloc' (w.alloc (.cells #[.string ⟨key.toArray⟩, .string ⟨vary.toArray⟩, .int .i64 s, .string ⟨r.toArray⟩, .int .i64 k, .slice la fs.length lc, .slice ba body.length bc, .int .i64 a0, .int .i64 g0] 29)) (.cells #[.string ⟨#[]⟩, .string ⟨#[]⟩, .int .i64 0, .string ⟨#[]⟩, .int .i64 0, .slice none 0 0, .slice none 0 0, .int .i64 0, .int .i64 0] 29)
  have q1 := cells_below (cells_lit w #[.string ⟨key.toArray⟩, .string ⟨vary.toArray⟩, .int .i64 s, .string ⟨r.toArray⟩, .int .i64 k, .slice la fs.length lc, .slice ba body.length bc, .int .i64 a0, .int .i64 g0] 29) b2
  have q2 := cells_lit (w.alloc (.cells #[.string ⟨key.toArray⟩, .string ⟨vary.toArray⟩, .int .i64 s, .string ⟨r.toArray⟩, .int .i64 k, .slice la fs.length lc, .slice ba body.length bc, .int .i64 a0, .int .i64 g0] 29)) #[.string ⟨#[]⟩, .string ⟨#[]⟩, .int .i64 0, .string ⟨#[]⟩, .int .i64 0, .slice none 0 0, .slice none 0 0, .int .i64 0, .int .i64 0] 29
  have z1 : (w.alloc (.cells #[.string ⟨key.toArray⟩, .string ⟨vary.toArray⟩, .int .i64 s, .string ⟨r.toArray⟩, .int .i64 k, .slice la fs.length lc, .slice ba body.length bc, .int .i64 a0, .int .i64 g0] 29)).heap.size = w.heap.size + 1 := by simp
  rw [z1] at q2
  obtain ⟨W2, hW2⟩ : ∃ W2, W2 = (w.alloc (.cells #[.string ⟨key.toArray⟩, .string ⟨vary.toArray⟩, .int .i64 s, .string ⟨r.toArray⟩, .int .i64 k, .slice la fs.length lc, .slice ba body.length bc, .int .i64 a0, .int .i64 g0] 29)).alloc (.cells #[.string ⟨#[]⟩, .string ⟨#[]⟩, .int .i64 0, .string ⟨#[]⟩, .int .i64 0, .slice none 0 0, .slice none 0 0, .int .i64 0, .int .i64 0] 29) := ⟨_, rfl⟩
  have HW2 := hide' hW2
  have zs : Hid (W2.heap.size = w.heap.size + 2) := by unfold Hid; rw [hW2]; simp
  rw [← hW2] at b2 q1 q2
  have B2 := hide' (bt' b1 b2)
  have Q2 : Hid (Blk w.heap.size W2 [.string ⟨key.toArray⟩, .string ⟨vary.toArray⟩, .int .i64 s, .string ⟨r.toArray⟩, .int .i64 k, .slice la fs.length lc, .slice ba body.length bc, .int .i64 a0, .int .i64 g0]) := q1
  have R2 : Hid (Blk (w.heap.size + 1) W2 [.string ⟨#[]⟩, .string ⟨#[]⟩, .int .i64 0, .string ⟨#[]⟩, .int .i64 0, .slice none 0 0, .slice none 0 0, .int .i64 0, .int .i64 0]) := q2
  have cC := hide' (copyRs s k r fs _ W2 (holdsF_mono hF B2.out) hl)
  have HB := hide' hB
  have HL := hide' hb
  obtain ⟨⟨c0, c1, c2, c3, c4, c5, c6, c7, c8⟩, -⟩ := cells_nine Q2.out
  clear b1 b2 q1 q2 z1 hW2 hF hB hl hb
  go_enter Tryz.func14, Tryz.ntmps14
  go_wp2_with fail
  rw [← HW2.out]
  refine cC.out.mono ?_
  rintro x w3 ⟨u, rfl, ho⟩
  obtain ⟨ua, uc, _, _, eu, _⟩ := holdsF_parts (holdsF_own ho)
  subst eu
  have Q3 : Hid (Blk w.heap.size w3 [.string ⟨key.toArray⟩, .string ⟨vary.toArray⟩, .int .i64 s, .string ⟨r.toArray⟩, .int .i64 k, .slice la fs.length lc, .slice ba body.length bc, .int .i64 a0, .int .i64 g0]) := cells_below Q2.out ho.2
  have R3 : Hid (Blk (w.heap.size + 1) w3 [.string ⟨#[]⟩, .string ⟨#[]⟩, .int .i64 0, .string ⟨#[]⟩, .int .i64 0, .slice none 0 0, .slice none 0 0, .int .i64 0, .int .i64 0]) := cells_below R2.out ho.2
  have B3 := hide' (bt' B2.out ho.2)
  have F3 := hide' ho.1
  clear ho cC Q2 R2 c0 c1 c2 c3 c4 c5 c6 c7 c8
  have Q4 : Hid (Blk w.heap.size (putFrom w.heap.size 2 w3 [.int .i64 s, .string ⟨r.toArray⟩, .int .i64 k, .slice ua fs.length uc]) [.string ⟨key.toArray⟩, .string ⟨vary.toArray⟩, .int .i64 s, .string ⟨r.toArray⟩, .int .i64 k, .slice ua fs.length uc, .slice ba body.length bc, .int .i64 a0, .int .i64 g0]) := cells_putFrom [.int .i64 s, .string ⟨r.toArray⟩, .int .i64 k, .slice ua fs.length uc] 2 w3 _ Q3.out (by simp)
  have B4 := hide' (put_below (w := w) (b := w.heap.size) (Nat.le_refl _) [.int .i64 s, .string ⟨r.toArray⟩, .int .i64 k, .slice ua fs.length uc] 2 _ B3.out)
  have R4 : Hid (Blk (w.heap.size + 1) (putFrom w.heap.size 2 w3 [.int .i64 s, .string ⟨r.toArray⟩, .int .i64 k, .slice ua fs.length uc]) [.string ⟨#[]⟩, .string ⟨#[]⟩, .int .i64 0, .string ⟨#[]⟩, .int .i64 0, .slice none 0 0, .slice none 0 0, .int .i64 0, .int .i64 0]) := by
    unfold Hid
    simp only [putFrom]
    exact cells_other (cells_other (cells_other (cells_other R3.out (by omega) _) (by omega) _) (by omega) _) (by omega) _
  have F4 := hide' (row_putFrom (b := w.heap.size) (by rw [zs.out]; omega) [.int .i64 s, .string ⟨r.toArray⟩, .int .i64 k, .slice ua fs.length uc] 2 _ F3.out)
  have sz4 : Hid ((putFrom w.heap.size 2 w3 [.int .i64 s, .string ⟨r.toArray⟩, .int .i64 k, .slice ua fs.length uc]).heap.size = w3.heap.size) := by unfold Hid; simp [putFrom]
  have s3 : Hid (w.heap.size + 2 ≤ w3.heap.size) := by unfold Hid; have h1 := R3.out.2; omega
  simp only [putFrom] at Q4 B4 R4 F4 sz4
  obtain ⟨⟨c0, c1, c2, c3, c4, c5, c6, c7, c8⟩, ⟨f0, f1, f2, f3, f4, f5, f6, f7, f8⟩⟩ := cells_nine Q3.out
  obtain ⟨⟨d0, d1, d2, d3, d4, d5, d6, d7, d8⟩, -⟩ := cells_nine Q4.out
  go_wp2_with fail
  clear c0 c1 c2 c3 c4 c5 c6 c7 c8 f0 f1 f2 f3 f4 f5 f6 f7 f8 d0 d1 d2 d3 d4 d5 d6 d7 d8
  generalize ((((w3.setCell ⟨w.heap.size, 2, none⟩ (.int .i64 s)).setCell ⟨w.heap.size, 3, none⟩ (.string ⟨r.toArray⟩)).setCell ⟨w.heap.size, 4, none⟩ (.int .i64 k)).setCell ⟨w.heap.size, 5, none⟩ (.slice ua fs.length uc)) = w4 at Q4 B4 R4 F4 sz4 ⊢
  refine (copyB _ body w4 (holdsB_mono HB.out B4.out) HL.out).mono ?_
  rintro x w5 ⟨v5, rfl, ho⟩
  obtain ⟨xa, xc, ev, _⟩ := holdsB_parts (holdsB_own ho)
  subst ev
  have Q5 : Hid (Blk w.heap.size w5 [.string ⟨key.toArray⟩, .string ⟨vary.toArray⟩, .int .i64 s, .string ⟨r.toArray⟩, .int .i64 k, .slice ua fs.length uc, .slice ba body.length bc, .int .i64 a0, .int .i64 g0]) := cells_below Q4.out ho.2
  have R5 : Hid (Blk (w.heap.size + 1) w5 [.string ⟨#[]⟩, .string ⟨#[]⟩, .int .i64 0, .string ⟨#[]⟩, .int .i64 0, .slice none 0 0, .slice none 0 0, .int .i64 0, .int .i64 0]) := cells_below R4.out ho.2
  have B5 := hide' (bt' B4.out ho.2)
  have F5 := hide' (row_below F4.out ho.2)
  have O5 := hide' ho.1
  have s4 : Hid (w.heap.size + 2 ≤ w4.heap.size) := by unfold Hid; rw [sz4.out]; exact s3.out
  clear ho Q4 R4 B4 F4 F3 Q3 R3 B3
  have Q6 : Hid (Blk w.heap.size (w5.setCell ⟨w.heap.size, 6, none⟩ (.slice xa body.length xc)) [.string ⟨key.toArray⟩, .string ⟨vary.toArray⟩, .int .i64 s, .string ⟨r.toArray⟩, .int .i64 k, .slice ua fs.length uc, .slice xa body.length xc, .int .i64 a0, .int .i64 g0]) := cells_set Q5.out (j := 6) (by simp) _
  have R6 := hide' (cells_other (o := 6) R5.out (show w.heap.size + 1 ≠ w.heap.size by omega) (.slice xa body.length xc))
  have B6 := hide' (B5.out.setCell (p := ⟨w.heap.size, 6, none⟩) (Nat.le_refl _) (.slice xa body.length xc))
  have F6 := hide' (row_putFrom (b := w.heap.size) (by rw [zs.out]; omega) [.slice xa body.length xc] 6 _ F5.out)
  have O6 := hide' (row_putFrom (b := w.heap.size) (by have := s4.out; omega) [.slice xa body.length xc] 6 _ O5.out)
  simp only [putFrom] at F6 O6
  obtain ⟨⟨c0, c1, c2, c3, c4, c5, c6, c7, c8⟩, ⟨f0, f1, f2, f3, f4, f5, f6, f7, f8⟩⟩ := cells_nine Q5.out
  obtain ⟨⟨d0, d1, d2, d3, d4, d5, d6, d7, d8⟩, -⟩ := cells_nine Q6.out
  obtain ⟨⟨h0, h1, h2, h3, h4, h5, h6, h7, h8⟩, ⟨i0, i1, i2, i3, i4, i5, i6, i7, i8⟩⟩ := cells_nine R6.out
  have zq := cells_put R6.out [.string ⟨key.toArray⟩, .string ⟨vary.toArray⟩, .int .i64 s, .string ⟨r.toArray⟩, .int .i64 k, .slice ua fs.length uc, .slice xa body.length xc, .int .i64 a0, .int .i64 g0] rfl
  have zb := put_below (w := w) (b := w.heap.size + 1) (Nat.le_succ _) [.string ⟨key.toArray⟩, .string ⟨vary.toArray⟩, .int .i64 s, .string ⟨r.toArray⟩, .int .i64 k, .slice ua fs.length uc, .slice xa body.length xc, .int .i64 a0, .int .i64 g0] 0 _ B6.out
  have rF := row_base (row_putFrom (b := w.heap.size + 1) (by rw [zs.out]; omega) [.string ⟨key.toArray⟩, .string ⟨vary.toArray⟩, .int .i64 s, .string ⟨r.toArray⟩, .int .i64 k, .slice ua fs.length uc, .slice xa body.length xc, .int .i64 a0, .int .i64 g0] 0 _ F6.out) B2.out.size
  have rO := row_base (row_putFrom (b := w.heap.size + 1) (by have := s4.out; omega) [.string ⟨key.toArray⟩, .string ⟨vary.toArray⟩, .int .i64 s, .string ⟨r.toArray⟩, .int .i64 k, .slice ua fs.length uc, .slice xa body.length xc, .int .i64 a0, .int .i64 g0] 0 _ O6.out) (show w.heap.size ≤ w4.heap.size by have := s4.out; omega)
  rw [put_nine] at zq zb rF rO
  have ZQ := hide' zq
  have FIN : Hid (∃ lu bu, Ending.returned (.agg #[.string ⟨key.toArray⟩, .string ⟨vary.toArray⟩, .int .i64 s, .string ⟨r.toArray⟩, .int .i64 k, .slice ua fs.length uc, .slice xa body.length xc, .int .i64 a0, .int .i64 g0]) = .returned (.agg #[.string ⟨key.toArray⟩, .string ⟨vary.toArray⟩, .int .i64 s, .string ⟨r.toArray⟩, .int .i64 k, lu, bu, .int .i64 a0, .int .i64 g0]) ∧ OwnF w lu fs _ ∧ Own w bu body _) := ⟨.slice ua fs.length uc, .slice xa body.length xc, rfl, ⟨rF, zb⟩, ⟨rO, zb⟩⟩
  clear zq zb rF rO
  go_wp2_with fail
  obtain ⟨⟨x0, x1, x2, x3, x4, x5, x6, x7, x8⟩, -⟩ := cells_nine ZQ.out
  exact bodyPost_ret (v := .agg #[.string ⟨key.toArray⟩, .string ⟨vary.toArray⟩, .int .i64 s, .string ⟨r.toArray⟩, .int .i64 k, .slice ua fs.length uc, .slice xa body.length xc, .int .i64 a0, .int .i64 g0]) (by simp [results, Tryz.results14, go_sem, x0, x1, x2, x3, x4, x5, x6, x7, x8]) rfl FIN.out
set_option maxRecDepth 20000 in
set_option maxHeartbeats 4000000 in
theorem sameEC (e : En) (lva lvb bva bvb : Value) (w : World) (hFa : HoldsF w lva e.r.fs) (hFb : HoldsF w lvb e.r.fs) (hBa : HoldsB w bva e.body) (hBb : HoldsB w bvb e.body) (hl : e.r.fs.length ≤ 2000000) (hb : e.body.length ≤ 1000000000000000) :
    Calls Tryz.prog 11 #[entV e lva bva, entV e lvb bvb] w fun x w' => x = .returned (.bool true) ∧ Below w.heap.size w w' := by
  have c1 := hide' (fun W (h : Below w.heap.size w W) => sameRs e.r.s e.r.k e.r.r e.r.fs lva lvb W (holdsF_mono hFa h) (holdsF_mono hFb h) hl)
  have c2 := hide' (fun W (h : Below w.heap.size w W) => sameBe bva bvb e.body W (holdsB_mono hBa h) (holdsB_mono hBb h) hb)
  obtain ⟨la, lc, _, _, e1, _⟩ := holdsF_parts hFa
  obtain ⟨lb, ld, _, _, e2, _⟩ := holdsF_parts hFb
  obtain ⟨ba, bc, e3, _⟩ := holdsB_parts hBa
  obtain ⟨bb, bd, e4, _⟩ := holdsB_parts hBb
  subst e1 e2 e3 e4
  unfold entV
  obtain ⟨key, vary, ⟨s, r, k, fs⟩, body, a0, g0⟩ := e
  dsimp only at *
  have b1 := below_alloc' w (.cells #[.string ⟨key.toArray⟩, .string ⟨vary.toArray⟩, .int .i64 s, .string ⟨r.toArray⟩, .int .i64 k, .slice la fs.length lc, .slice ba body.length bc, .int .i64 a0, .int .i64 g0] 29)
  have b2 := below_alloc' (w.alloc (.cells #[.string ⟨key.toArray⟩, .string ⟨vary.toArray⟩, .int .i64 s, .string ⟨r.toArray⟩, .int .i64 k, .slice la fs.length lc, .slice ba body.length bc, .int .i64 a0, .int .i64 g0] 29)) (.cells #[.string ⟨key.toArray⟩, .string ⟨vary.toArray⟩, .int .i64 s, .string ⟨r.toArray⟩, .int .i64 k, .slice lb fs.length ld, .slice bb body.length bd, .int .i64 a0, .int .i64 g0] 29)
  have q1 := cells_below (cells_lit w #[.string ⟨key.toArray⟩, .string ⟨vary.toArray⟩, .int .i64 s, .string ⟨r.toArray⟩, .int .i64 k, .slice la fs.length lc, .slice ba body.length bc, .int .i64 a0, .int .i64 g0] 29) b2
  have q2 := cells_lit (w.alloc (.cells #[.string ⟨key.toArray⟩, .string ⟨vary.toArray⟩, .int .i64 s, .string ⟨r.toArray⟩, .int .i64 k, .slice la fs.length lc, .slice ba body.length bc, .int .i64 a0, .int .i64 g0] 29)) #[.string ⟨key.toArray⟩, .string ⟨vary.toArray⟩, .int .i64 s, .string ⟨r.toArray⟩, .int .i64 k, .slice lb fs.length ld, .slice bb body.length bd, .int .i64 a0, .int .i64 g0] 29
  have z1 : (w.alloc (.cells #[.string ⟨key.toArray⟩, .string ⟨vary.toArray⟩, .int .i64 s, .string ⟨r.toArray⟩, .int .i64 k, .slice la fs.length lc, .slice ba body.length bc, .int .i64 a0, .int .i64 g0] 29)).heap.size = w.heap.size + 1 := by simp
  rw [z1] at q2
  have B2 := hide' (bt' b1 b2)
  have Q2 := hide' q1
  have R2 := hide' q2
  clear b1 b2 q1 q2 z1 hFa hFb hBa hBb hl hb
  go_enter Tryz.func11, Tryz.ntmps11
  go_wp2_with fail
  refine (c1.out _ B2.out).mono ?_
  rintro x w3 ⟨rfl, b3⟩
  have B3 := hide' (bt' B2.out b3)
  have Q3 : Hid (Blk w.heap.size w3 [.string ⟨key.toArray⟩, .string ⟨vary.toArray⟩, .int .i64 s, .string ⟨r.toArray⟩, .int .i64 k, .slice la fs.length lc, .slice ba body.length bc, .int .i64 a0, .int .i64 g0]) := cells_below Q2.out b3
  have R3 : Hid (Blk (w.heap.size + 1) w3 [.string ⟨key.toArray⟩, .string ⟨vary.toArray⟩, .int .i64 s, .string ⟨r.toArray⟩, .int .i64 k, .slice lb fs.length ld, .slice bb body.length bd, .int .i64 a0, .int .i64 g0]) := cells_below R2.out b3
  clear b3 Q2 R2
  obtain ⟨⟨c0, c1', c2', c3, c4, c5, c6, c7, c8⟩, -⟩ := cells_nine Q3.out
  obtain ⟨⟨d0, d1, d2, d3, d4, d5, d6, d7, d8⟩, -⟩ := cells_nine R3.out
  go_wp2_with fail
  clear c0 c1' c2' c3 c4 c5 c6 c7 c8 d0 d1 d2 d3 d4 d5 d6 d7 d8
  refine (c2.out _ B3.out).mono ?_
  rintro x w4 ⟨rfl, b4⟩
  have B4 := hide' (bt' B3.out b4)
  obtain ⟨⟨c0, c1', c2', c3, c4, c5, c6, c7, c8⟩, -⟩ := cells_nine (show Blk w.heap.size w4 [.string ⟨key.toArray⟩, .string ⟨vary.toArray⟩, .int .i64 s, .string ⟨r.toArray⟩, .int .i64 k, .slice la fs.length lc, .slice ba body.length bc, .int .i64 a0, .int .i64 g0] from cells_below Q3.out b4)
  obtain ⟨⟨d0, d1, d2, d3, d4, d5, d6, d7, d8⟩, -⟩ := cells_nine (show Blk (w.heap.size + 1) w4 [.string ⟨key.toArray⟩, .string ⟨vary.toArray⟩, .int .i64 s, .string ⟨r.toArray⟩, .int .i64 k, .slice lb fs.length ld, .slice bb body.length bd, .int .i64 a0, .int .i64 g0] from cells_below R3.out b4)
  clear b4 Q3 R3
  go_wp2_with fail
  go_ret
  exact ⟨rfl, B4.out⟩
end Go.Proofs.YtnlehfondhegbaaGreatDoor
