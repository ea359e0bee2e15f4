/- The contract of Next (a box of requests). -/
import Derived.Test.YtmikgpmnffdnnaaGreatDoorBzM
import Derived.Test.YtmikgpmnffdnnaaGreatDoorBk
import Derived.RegionTactic
namespace Go.Proofs.YtmikgpmnffdnnaaGreatDoor
open Go.RowKit
/-- what Next tells of a box of requests that holds 'held' -/
def NextA (g base : Nat) (held : List UInt8) (X : Rq × List UInt8 × FL × Nat × Int) (W : World) (e : Ending) (W' : World) : Prop := BelowBut g W.heap.size W W' ∧
  ((X.2.2.2.2 ≠ 0 ∧ e = .returned (.tuple #[mzV, .bool false, .int .i64 X.2.2.2.2]) ∧ BoxP g base (.func (.func 11) #[] #[]) held X.2.2.2.2 W') ∨
   (X.2.2.2.2 = 0 ∧ X.2.2.2.1 = 0 ∧ e = .returned (.tuple #[mzV, .bool false, .int .i64 0]) ∧ BoxP g base (.func (.func 11) #[] #[]) held 0 W') ∨
   (X.2.2.2.2 = 0 ∧ 0 < X.2.2.2.1 ∧ ∃ lv bv tv, e = .returned (.tuple #[mqV X.1 lv bv tv, .bool true, .int .i64 0]) ∧ MsgQ W' lv bv tv X ∧ BoxP g base (.func (.func 11) #[] #[]) (held.drop X.2.2.2.1) 0 W'))
set_option maxRecDepth 100000 in
set_option maxHeartbeats 4000000 in
theorem nextBadM (g base : Nat) (held : List UInt8) (er : Int) (he : er ≠ 0) (W : World) (P : BoxP g base (.func (.func 11) #[] #[]) held er W) :
    Calls Tryz.prog 23 #[.pointer (some ⟨g, 0, none⟩)] W fun e W' => e = .returned (.tuple #[mzV, .bool false, .int .i64 er]) ∧ Below W.heap.size W W' := by
  have b1 := below_alloc' W (.cells #[.string ⟨#[]⟩, .string ⟨#[]⟩, .int .i64 0, .slice none 0 0, .int .i64 0, .string ⟨#[]⟩, .int .i64 0, .slice none 0 0, .slice none 0 0, .slice none 0 0] 31)
  have b2 := below_alloc' (W.alloc (.cells #[.string ⟨#[]⟩, .string ⟨#[]⟩, .int .i64 0, .slice none 0 0, .int .i64 0, .string ⟨#[]⟩, .int .i64 0, .slice none 0 0, .slice none 0 0, .slice none 0 0] 31)) (.cells #[.string ⟨#[]⟩, .string ⟨#[]⟩, .int .i64 0, .slice none 0 0, .int .i64 0, .string ⟨#[]⟩, .int .i64 0, .slice none 0 0, .slice none 0 0, .slice none 0 0] 31)
  have B2 := hide' (bt' b1 b2)
  have R2 := hide' (cells_below (cells_lit W #[.string ⟨#[]⟩, .string ⟨#[]⟩, .int .i64 0, .slice none 0 0, .int .i64 0, .string ⟨#[]⟩, .int .i64 0, .slice none 0 0, .slice none 0 0, .slice none 0 0] 31) b2)
  have n2 := cells_lit (W.alloc (.cells #[.string ⟨#[]⟩, .string ⟨#[]⟩, .int .i64 0, .slice none 0 0, .int .i64 0, .string ⟨#[]⟩, .int .i64 0, .slice none 0 0, .slice none 0 0, .slice none 0 0] 31)) #[.string ⟨#[]⟩, .string ⟨#[]⟩, .int .i64 0, .slice none 0 0, .int .i64 0, .string ⟨#[]⟩, .int .i64 0, .slice none 0 0, .slice none 0 0, .slice none 0 0] 31
  rw [show (W.alloc (.cells #[.string ⟨#[]⟩, .string ⟨#[]⟩, .int .i64 0, .slice none 0 0, .int .i64 0, .string ⟨#[]⟩, .int .i64 0, .slice none 0 0, .slice none 0 0, .slice none 0 0] 31)).heap.size = W.heap.size + 1 by simp] at n2
  have N2 := hide' n2
  have PB := hide' P
  have hgl : g < W.heap.size := by obtain ⟨_, h, _⟩ := P; exact h.2
  have hne1 : ¬ W.heap.size = g := by omega
  have hne2 : ¬ g = W.heap.size := by omega
  have hne3 : ¬ W.heap.size + 1 = g := by omega
  have hne4 : ¬ g = W.heap.size + 1 := by omega
  obtain ⟨ca, cc, bk, ro⟩ := box_slice P
  obtain ⟨⟨c0, c1, c2⟩, _⟩ := cells_three (cells_below bk B2.out)
  obtain ⟨⟨d0, d1, d2⟩, _⟩ := cells_three bk
  have he' : (er == 0) = false := by simpa using he
  have he'' : (er != 0) = true := by simpa using he
  unfold mzV
  clear b1 b2 n2 bk ro P
  go_enter Tryz.func23, Tryz.ntmps23
  go_wp2_with fail
  go_region
  all_goals
    go_wp2_with fail
    exact bodyPost_ret (v := .tuple #[mzV, .bool false, .int .i64 er]) (by simp [results, Tryz.results23, go_sem, mzV]) rfl ⟨rfl, B2.out.drew⟩
set_option maxRecDepth 100000 in
set_option maxHeartbeats 8000000 in
theorem nextM (g base : Nat) (held : List UInt8) (W : World) (P : BoxP g base (.func (.func 11) #[] #[]) held 0 W) (E : Env W) (R : Er W) (hl : held.length < 4294967281) :
    Calls Tryz.prog 23 #[.pointer (some ⟨g, 0, none⟩)] W fun e W' => NextA g base held (msgQ held) W e W' := by
  have b1 := below_alloc' W (.cells #[.string ⟨#[]⟩, .string ⟨#[]⟩, .int .i64 0, .slice none 0 0, .int .i64 0, .string ⟨#[]⟩, .int .i64 0, .slice none 0 0, .slice none 0 0, .slice none 0 0] 31)
  have b2 := below_alloc' (W.alloc (.cells #[.string ⟨#[]⟩, .string ⟨#[]⟩, .int .i64 0, .slice none 0 0, .int .i64 0, .string ⟨#[]⟩, .int .i64 0, .slice none 0 0, .slice none 0 0, .slice none 0 0] 31)) (.cells #[.string ⟨#[]⟩, .string ⟨#[]⟩, .int .i64 0, .slice none 0 0, .int .i64 0, .string ⟨#[]⟩, .int .i64 0, .slice none 0 0, .slice none 0 0, .slice none 0 0] 31)
  have B2 := hide' (bt' b1 b2)
  have R2 := hide' (cells_below (cells_lit W #[.string ⟨#[]⟩, .string ⟨#[]⟩, .int .i64 0, .slice none 0 0, .int .i64 0, .string ⟨#[]⟩, .int .i64 0, .slice none 0 0, .slice none 0 0, .slice none 0 0] 31) b2)
  have n2 := cells_lit (W.alloc (.cells #[.string ⟨#[]⟩, .string ⟨#[]⟩, .int .i64 0, .slice none 0 0, .int .i64 0, .string ⟨#[]⟩, .int .i64 0, .slice none 0 0, .slice none 0 0, .slice none 0 0] 31)) #[.string ⟨#[]⟩, .string ⟨#[]⟩, .int .i64 0, .slice none 0 0, .int .i64 0, .string ⟨#[]⟩, .int .i64 0, .slice none 0 0, .slice none 0 0, .slice none 0 0] 31
  rw [show (W.alloc (.cells #[.string ⟨#[]⟩, .string ⟨#[]⟩, .int .i64 0, .slice none 0 0, .int .i64 0, .string ⟨#[]⟩, .int .i64 0, .slice none 0 0, .slice none 0 0, .slice none 0 0] 31)).heap.size = W.heap.size + 1 by simp] at n2
  have N2 := hide' n2
  have PB := hide' P
  have hgl : g < W.heap.size := by obtain ⟨_, h, _⟩ := P; exact h.2
  have hne1 : ¬ W.heap.size = g := by omega
  have hne2 : ¬ g = W.heap.size := by omega
  have hne3 : ¬ W.heap.size + 1 = g := by omega
  have hne4 : ¬ g = W.heap.size + 1 := by omega
  have CA := hide' (askM g base held 0 _ (box_below P B2.out) (env_below E B2.out) (er_below R B2.out) hl)
  have hown := msgQ_own held
  have hbad := msgQ_bad held
  have CT := hide' (fun (n : Nat) W' (h : BoxP g base (.func (.func 11) #[] #[]) held 0 W') (hn : n ≤ held.length) => takeM g base 11 held 0 n W' h hn hl)
  generalize msgQ held = X at CA hown hbad ⊢
  obtain ⟨⟨m, t, k, fs⟩, bd, tl, n, ee⟩ := X
  simp only at hown hbad
  obtain ⟨ca, cc, bk, ro⟩ := box_slice P
  obtain ⟨⟨c0, c1, c2⟩, _⟩ := cells_three (cells_below bk B2.out)
  have HOW := hide' hown
  have RO := hide' ro
  have BKW := hide' bk
  have hgb : g < base ∧ base ≤ W.heap.size := by obtain ⟨_, _, _, h1, h2⟩ := P; exact ⟨h1, h2⟩
  clear b1 b2 n2 bk ro P E R hown hbad
  go_enter Tryz.func23, Tryz.ntmps23
  go_wp2_with fail
  refine CA.out.mono ?_
  intro e w3 h
  obtain ⟨la, lc, ba, bc, ta, tc, rfl, _, b3, oL, oB, oF⟩ := ansQ_open h
  simp only at oL oB oF ⊢
  have b4 := below_alloc' w3 (.cells #[.string ⟨m.toArray⟩, .string ⟨t.toArray⟩, .int .i64 k, .slice la fs.length lc, .int .i64 0, .string ⟨#[]⟩, .int .i64 0, .slice none 0 0, .slice ba bd.length bc, .slice ta tl.length tc] 31)
  have V4 := hide' (cells_lit w3 #[.string ⟨m.toArray⟩, .string ⟨t.toArray⟩, .int .i64 k, .slice la fs.length lc, .int .i64 0, .string ⟨#[]⟩, .int .i64 0, .slice none 0 0, .slice ba bd.length bc, .slice ta tl.length tc] 31)
  have R4 := hide' (cells_below (cells_below R2.out b3) b4)
  have N4 := hide' (cells_below (cells_below N2.out b3) b4)
  have B4 := hide' (bt' (bt' B2.out b3) b4)
  have P4 := hide' (box_below PB.out B4.out)
  have OL := hide' (row_below oL.1 b4)
  have OB := hide' (row_below oB.1 b4)
  have OF := hide' (row_below oF.1 b4)
  obtain ⟨ca4, cc4, bk4, ro4⟩ := box_slice P4.out
  have BK4 := hide' bk4
  have RO4' : Hid (W.ownsRow base 5 1 (.slice ca4 held.length cc4) held.length (held.map B)) := by
    have e := (cells_three bk4).1.2.1
    have e2 := (cells_three (cells_below BKW.out B4.out)).1.2.1
    rw [e2] at e
    cases e
    exact RO.out
  have R3 := hide' (cells_below R2.out b3)
  have hgz := hide' (show g < ((W.alloc (.cells #[.string ⟨#[]⟩, .string ⟨#[]⟩, .int .i64 0, .slice none 0 0, .int .i64 0, .string ⟨#[]⟩, .int .i64 0, .slice none 0 0, .slice none 0 0, .slice none 0 0] 31)).alloc (.cells #[.string ⟨#[]⟩, .string ⟨#[]⟩, .int .i64 0, .slice none 0 0, .int .i64 0, .string ⟨#[]⟩, .int .i64 0, .slice none 0 0, .slice none 0 0, .slice none 0 0] 31)).heap.size by simp; omega)
  have hwz := hide' (show W.heap.size < ((W.alloc (.cells #[.string ⟨#[]⟩, .string ⟨#[]⟩, .int .i64 0, .slice none 0 0, .int .i64 0, .string ⟨#[]⟩, .int .i64 0, .slice none 0 0, .slice none 0 0, .slice none 0 0] 31)).alloc (.cells #[.string ⟨#[]⟩, .string ⟨#[]⟩, .int .i64 0, .slice none 0 0, .int .i64 0, .string ⟨#[]⟩, .int .i64 0, .slice none 0 0, .slice none 0 0, .slice none 0 0] 31)).heap.size by simp; omega)
  obtain ⟨⟨d0, d1, d2⟩, ⟨df0, df1, df2⟩⟩ := cells_three bk4
  clear h b3 b4 oL oB oF CA c0 c1 c2 bk4 ro4
  by_cases h1 : ee = 0
  case neg =>
    have h1' : (ee == 0) = false := by simpa using h1
    have h1'' : (ee != 0) = true := by simpa using h1
    have BK5 := hide' (cells_set BK4.out (j := 2) (by simp) (.int .i64 ee))
    have R5 := hide' (cells_other R4.out hne1 (o := 2) (.int .i64 ee))
    have N5 := hide' (cells_other N4.out hne3 (o := 2) (.int .i64 ee))
    have BB5 := hide' ((but_of (g := g) B4.out).poke 2 (.int .i64 ee))
    obtain ⟨⟨rc0, rc1, rc2, rc3, rc4, rc5, rc6, rc7, rc8, rc9⟩, ⟨rf0, rf1, rf2, rf3, rf4, rf5, rf6, rf7, rf8, rf9⟩⟩ := cells_ten R5.out
    obtain ⟨⟨nc0, nc1, nc2, nc3, nc4, nc5, nc6, nc7, nc8, nc9⟩, _⟩ := cells_ten N5.out
    go_wp2_with fail
    have q := cells_put R5.out [.string ⟨#[]⟩, .string ⟨#[]⟩, .int .i64 0, .slice none 0 0, .int .i64 0, .string ⟨#[]⟩, .int .i64 0, .slice none 0 0, .slice none 0 0, .slice none 0 0] rfl
    have qbb := put_but (Nat.le_refl W.heap.size) [.string ⟨#[]⟩, .string ⟨#[]⟩, .int .i64 0, .slice none 0 0, .int .i64 0, .string ⟨#[]⟩, .int .i64 0, .slice none 0 0, .slice none 0 0, .slice none 0 0] 0 _ BB5.out
    have qk := blk_put hne2 [.string ⟨#[]⟩, .string ⟨#[]⟩, .int .i64 0, .slice none 0 0, .int .i64 0, .string ⟨#[]⟩, .int .i64 0, .slice none 0 0, .slice none 0 0, .slice none 0 0] 0 _ BK5.out
    rw [put_ten] at q qbb qk
    obtain ⟨⟨yc0, yc1, yc2, yc3, yc4, yc5, yc6, yc7, yc8, yc9⟩, _⟩ := cells_ten q
    exact bodyPost_ret (v := .tuple #[mzV, .bool false, .int .i64 ee]) (by simp [results, Tryz.results23, go_sem, mzV, yc0, yc1, yc2, yc3, yc4, yc5, yc6, yc7, yc8, yc9]) rfl ⟨qbb, .inl ⟨h1, rfl, box_of (cv := .slice ca4 held.length cc4) RO4'.out hgb.1 hgb.2 qbb qk⟩⟩
  subst h1
  by_cases h2 : n = 0
  · subst h2
    obtain ⟨⟨rc0, rc1, rc2, rc3, rc4, rc5, rc6, rc7, rc8, rc9⟩, ⟨rf0, rf1, rf2, rf3, rf4, rf5, rf6, rf7, rf8, rf9⟩⟩ := cells_ten R4.out
    obtain ⟨⟨nc0, nc1, nc2, nc3, nc4, nc5, nc6, nc7, nc8, nc9⟩, _⟩ := cells_ten N4.out
    go_wp2_with fail
    have q := cells_put R4.out [.string ⟨#[]⟩, .string ⟨#[]⟩, .int .i64 0, .slice none 0 0, .int .i64 0, .string ⟨#[]⟩, .int .i64 0, .slice none 0 0, .slice none 0 0, .slice none 0 0] rfl
    have qbb := put_but (Nat.le_refl W.heap.size) [.string ⟨#[]⟩, .string ⟨#[]⟩, .int .i64 0, .slice none 0 0, .int .i64 0, .string ⟨#[]⟩, .int .i64 0, .slice none 0 0, .slice none 0 0, .slice none 0 0] 0 _ (but_of (g := g) B4.out)
    have qk := blk_put hne2 [.string ⟨#[]⟩, .string ⟨#[]⟩, .int .i64 0, .slice none 0 0, .int .i64 0, .string ⟨#[]⟩, .int .i64 0, .slice none 0 0, .slice none 0 0, .slice none 0 0] 0 _ BK4.out
    rw [put_ten] at q qbb qk
    obtain ⟨⟨yc0, yc1, yc2, yc3, yc4, yc5, yc6, yc7, yc8, yc9⟩, _⟩ := cells_ten q
    exact bodyPost_ret (v := .tuple #[mzV, .bool false, .int .i64 0]) (by simp [results, Tryz.results23, go_sem, mzV, yc0, yc1, yc2, yc3, yc4, yc5, yc6, yc7, yc8, yc9]) rfl ⟨qbb, .inr (.inl ⟨rfl, rfl, rfl, box_of (cv := .slice ca4 held.length cc4) RO4'.out hgb.1 hgb.2 qbb qk⟩)⟩
  · have h2' : ¬ (n : Int) ≤ 0 := by omega
    have hnl := (HOW.out (by omega)).1
    have CT2 := hide' (CT.out n _ P4.out hnl)
    go_wp2_with fail
    refine CT2.out.mono ?_
    rintro e w5 ⟨rfl, p5, bb5⟩
    have hz4 := hide' R4.out.2
    have R5 := hide' (blk_but R4.out hne1 bb5)
    have V5 := hide' (blk_but V4.out (by have := R3.out.2; omega) bb5)
    have BB5 := hide' ((but_of (g := g) B4.out).trans (bb5.mono B4.out.size))
    have OL5 := hide' (row_but OL.out hgz.out bb5)
    have OB5 := hide' (row_but OB.out hgz.out bb5)
    have OF5 := hide' (row_but OF.out hgz.out bb5)
    have P5 := hide' p5
    obtain ⟨⟨rc0, rc1, rc2, rc3, rc4, rc5, rc6, rc7, rc8, rc9⟩, ⟨rf0, rf1, rf2, rf3, rf4, rf5, rf6, rf7, rf8, rf9⟩⟩ := cells_ten R5.out
    obtain ⟨⟨vc0, vc1, vc2, vc3, vc4, vc5, vc6, vc7, vc8, vc9⟩, _⟩ := cells_ten V5.out
    clear d0 d1 d2 df0 df1 df2 CT2 bb5 p5
    go_wp2_with fail
    have q := cells_put R5.out [.string ⟨m.toArray⟩, .string ⟨t.toArray⟩, .int .i64 k, .slice la fs.length lc, .int .i64 0, .string ⟨#[]⟩, .int .i64 0, .slice none 0 0, .slice ba bd.length bc, .slice ta tl.length tc] rfl
    have qbb := put_but (Nat.le_refl W.heap.size) [.string ⟨m.toArray⟩, .string ⟨t.toArray⟩, .int .i64 k, .slice la fs.length lc, .int .i64 0, .string ⟨#[]⟩, .int .i64 0, .slice none 0 0, .slice ba bd.length bc, .slice ta tl.length tc] 0 _ BB5.out
    have qp := box_putFrom P5.out hne2 hz4.out [.string ⟨m.toArray⟩, .string ⟨t.toArray⟩, .int .i64 k, .slice la fs.length lc, .int .i64 0, .string ⟨#[]⟩, .int .i64 0, .slice none 0 0, .slice ba bd.length bc, .slice ta tl.length tc] (put_size _ _ _)
    have qL := row_putFrom hwz.out [.string ⟨m.toArray⟩, .string ⟨t.toArray⟩, .int .i64 k, .slice la fs.length lc, .int .i64 0, .string ⟨#[]⟩, .int .i64 0, .slice none 0 0, .slice ba bd.length bc, .slice ta tl.length tc] 0 _ OL5.out
    have qB := row_putFrom hwz.out [.string ⟨m.toArray⟩, .string ⟨t.toArray⟩, .int .i64 k, .slice la fs.length lc, .int .i64 0, .string ⟨#[]⟩, .int .i64 0, .slice none 0 0, .slice ba bd.length bc, .slice ta tl.length tc] 0 _ OB5.out
    have qF := row_putFrom hwz.out [.string ⟨m.toArray⟩, .string ⟨t.toArray⟩, .int .i64 k, .slice la fs.length lc, .int .i64 0, .string ⟨#[]⟩, .int .i64 0, .slice none 0 0, .slice ba bd.length bc, .slice ta tl.length tc] 0 _ OF5.out
    rw [put_ten] at q qbb qp qL qB qF
    obtain ⟨⟨yc0, yc1, yc2, yc3, yc4, yc5, yc6, yc7, yc8, yc9⟩, _⟩ := cells_ten q
    exact bodyPost_ret (v := .tuple #[mqV ⟨m, t, k, fs⟩ (.slice la fs.length lc) (.slice ba bd.length bc) (.slice ta tl.length tc), .bool true, .int .i64 0]) (by simp [results, Tryz.results23, go_sem, mqV, yc0, yc1, yc2, yc3, yc4, yc5, yc6, yc7, yc8, yc9]) rfl ⟨qbb, .inr (.inr ⟨rfl, by simp only; omega, _, _, _, rfl, ⟨holdsF_row qL, row_holds qB, holdsF_row qF⟩, box_base qp (by have := B4.out.size; omega) hgb.1⟩)⟩
end Go.Proofs.YtmikgpmnffdnnaaGreatDoor
