/- The contracts of bytes.Clone, withChunks, withBody. -/
import Derived.Test.YtmikgpmnffdnnaaGreatDoorInV
import Derived.Test.YtmikgpmnffdnnaaGreatDoorBl
import Derived.Test.YtmikgpmnffdnnaaGreatDoorBj
import Derived.Test.YtmikgpmnffdnnaaGreatDoorBf
import Derived.Test.YtmikgpmnffdnnaaGreatDoorChLn
import Derived.Lib.SliceRun
namespace Go.Proofs.YtmikgpmnffdnnaaGreatDoor
open Go.RowKit
set_option maxHeartbeats 400000 in
theorem bcloneC (v : Value) (bs : List UInt8) (w : World) (hv : HoldsB w v bs) (hl : bs.length ≤ 140737488355328) :
    Calls Tryz.prog 47 #[v] w fun e w' => ∃ u, e = .returned u ∧ Own w u bs w' := by
  have HV := hide' (holdsB_mono hv (below_alloc' w (.cells #[] 5)))
  have q1 : ∀ (w : World) (a : Option Addr) (n c n' c' : Nat), (binOp .eql 22 (.slice a n c) (.slice none n' c')).run Tryz.prog w = .ok (.bool a.isNone) w := fun w a n c n' c' => Lib.run_eql_slice_nil w _ _ a n c n' c' Tryz.underlying22
  obtain ⟨ao, cap, rfl, h0, hcp, hc⟩ := hv
  cases ao with
  | none =>
    have hb : bs = [] := by
      apply Classical.byContradiction
      intro h
      obtain ⟨b, off, e, _⟩ := hc h
      cases e
    subst hb
    clear HV hc
    go_enter Tryz.func47, Tryz.ntmps47
    go_wp2_with fail
    go_ret
    exact ⟨.slice none 0 0, rfl, own_nil _ _ (Below.refl _ _)⟩
  | some ad =>
    clear hc h0
    go_enter Tryz.func47, Tryz.ntmps47
    go_wp2_with (at_builtin; refine appAllB rfl (.tmp 5) (.tmp 6) rfl w _ [] rfl (own_empty w) _ bs rfl HV.out (by simpa using hl) ?_; intro v2 w2 hown2)
    go_ret
    exact ⟨v2, rfl, hown2⟩
theorem bodyM_two (b : List UInt8) (n : Nat) (l : Int) : bodyM b n 2 l = if (decOf (b.drop n)).2.2.2 ≠ 0 ∨ (decOf (b.drop n)).2.2.1 = 0 then ([], [], 0, (decOf (b.drop n)).2.2.2) else ((decOf (b.drop n)).1, (decOf (b.drop n)).2.1, n + (decOf (b.drop n)).2.2.1, 0) := by
  unfold bodyM; rw [if_neg (by decide), if_pos rfl]
theorem dec_err (b : List UInt8) (h : (decOf b).2.2.2 ≠ 0) : (decOf b).2.2.1 = 0 := dec_bad _ _ _ _ h
set_option maxRecDepth 20000 in
set_option maxHeartbeats 4000000 in
theorem withChunksC (xm xt : ByteArray) (xk : Int) (xl : Option Addr) (xln xlc : Nat) (ys : Int) (yr : ByteArray) (yk : Int) (yl : Option Addr) (yln ylc : Nat) (v : Value) (bs : List UInt8) (n : Nat) (l : Int) (w : World) (hv : HoldsB w v bs) (hn : n ≤ bs.length) (hn0 : 0 < n) (E : Env w) (R : Er w) (hs : bs.length < 4294967281) :
    Calls Tryz.prog 56 #[.agg #[.string xm, .string xt, .int .i64 xk, .slice xl xln xlc, .int .i64 ys, .string yr, .int .i64 yk, .slice yl yln ylc, .slice none 0 0, .slice none 0 0], v, .int .i64 (n : Int)] w fun e w' => AnsB w (.string xm) (.string xt) (.int .i64 xk) (.slice xl xln xlc) (.int .i64 ys) (.string yr) (.int .i64 yk) (.slice yl yln ylc) (bodyM bs n 2 l) e w' := by
  have b1 := below_alloc' w (.cells #[.string xm, .string xt, .int .i64 xk, .slice xl xln xlc, .int .i64 ys, .string yr, .int .i64 yk, .slice yl yln ylc, .slice none 0 0, .slice none 0 0] 31)
  have b2 := below_alloc' (w.alloc (.cells #[.string xm, .string xt, .int .i64 xk, .slice xl xln xlc, .int .i64 ys, .string yr, .int .i64 yk, .slice yl yln ylc, .slice none 0 0, .slice none 0 0] 31)) (.cells #[.string ⟨#[]⟩, .string ⟨#[]⟩, .int .i64 0, .slice none 0 0, .int .i64 0, .string ⟨#[]⟩, .int .i64 0, .slice none 0 0, .slice none 0 0, .slice none 0 0] 31)
  have B2 := hide' (bt' b1 b2)
  have M2 := hide' (cells_below (cells_lit w #[.string xm, .string xt, .int .i64 xk, .slice xl xln xlc, .int .i64 ys, .string yr, .int .i64 yk, .slice yl yln ylc, .slice none 0 0, .slice none 0 0] 31) b2)
  have Z2 := cells_lit (w.alloc (.cells #[.string xm, .string xt, .int .i64 xk, .slice xl xln xlc, .int .i64 ys, .string yr, .int .i64 yk, .slice yl yln ylc, .slice none 0 0, .slice none 0 0] 31)) #[.string ⟨#[]⟩, .string ⟨#[]⟩, .int .i64 0, .slice none 0 0, .int .i64 0, .string ⟨#[]⟩, .int .i64 0, .slice none 0 0, .slice none 0 0, .slice none 0 0] 31
  have zs : (w.alloc (.cells #[.string xm, .string xt, .int .i64 xk, .slice xl xln xlc, .int .i64 ys, .string yr, .int .i64 yk, .slice yl yln ylc, .slice none 0 0, .slice none 0 0] 31)).heap.size = w.heap.size + 1 := by simp
  have z2 : ((w.alloc (.cells #[.string xm, .string xt, .int .i64 xk, .slice xl xln xlc, .int .i64 ys, .string yr, .int .i64 yk, .slice yl yln ylc, .slice none 0 0, .slice none 0 0] 31)).alloc (.cells #[.string ⟨#[]⟩, .string ⟨#[]⟩, .int .i64 0, .slice none 0 0, .int .i64 0, .string ⟨#[]⟩, .int .i64 0, .slice none 0 0, .slice none 0 0, .slice none 0 0] 31)).heap.size = w.heap.size + 2 := by simp
  rw [zs] at Z2
  have Z2' := hide' Z2
  have HV := hide' hv
  have sz2 := hide' z2
  obtain ⟨ao, cap, rfl, h0, hcp, _⟩ := hv
  have sl := fun W => from_run ao bs.length cap n hn hcp W
  have HS := holdsB_suf HV.out n hn
  have hdl : (bs.drop n).length < 4294967281 := by rw [List.length_drop]; omega
  have hle : (decOf (bs.drop n)).2.2.1 ≤ bs.length := by
    rcases Nat.eq_zero_or_pos (decOf (bs.drop n)).2.2.1 with h | h
    · omega
    · obtain ⟨j, e1, _, j1, _, _⟩ := dec_own _ (bs.drop n) [] 0 (Nat.lt_succ_self _) h
      have e2 : (decOf (bs.drop n)).2.2.1 = j := by unfold decOf; rw [e1, Nat.zero_add]
      rw [List.length_drop] at j1
      omega
  have C := decC _ (bs.drop n) _ (holdsB_mono HS B2.out) (env_below E B2.out) (er_below R B2.out) hdl
  have RE := dec_err (bs.drop n)
  have RB := hide' (bodyM_two bs n l)
  generalize decOf (bs.drop n) = D at C RE RB hle
  obtain ⟨d, fs, k, er⟩ := D
  unfold decV at C
  simp only at C RE RB hle
  have CC := hide' C
  have RH := hide' RE
  generalize Lib.fromV ao bs.length cap n = sv at sl CC
  obtain ⟨N, hN⟩ : ∃ N, N = bs.length := ⟨_, rfl⟩
  rw [← hN] at hn hcp hle hs sl ⊢
  have hk2 : k < 4294967281 := by omega
  have hn2 : n < 4294967281 := by omega
  clear C RE HS hdl b1 b2 Z2 zs z2 HV E R h0 hN
  go_enter Tryz.func56, Tryz.ntmps56
  go_wp2_with fail
  refine CC.out.mono ?_
  rintro e w3 ⟨dv, lv, rfl, ho, hf⟩
  obtain ⟨xa, xc, hdv, _⟩ := holdsB_own ho
  obtain ⟨ya, yc, yb, yo, hlv, _⟩ := holdsF_parts (holdsF_own hf)
  subst hdv hlv
  have HO := hide' ho
  have HF := hide' hf
  have B3 := hide' (bt' B2.out ho.2)
  have M3 := hide' (cells_below M2.out ho.2)
  have Z3 := hide' (cells_below Z2'.out ho.2)
  clear ho hf CC M2 Z2'
  obtain ⟨⟨zc0, zc1, zc2, zc3, zc4, zc5, zc6, zc7, zc8, zc9⟩, ⟨zf0, zf1, zf2, zf3, zf4, zf5, zf6, zf7, zf8, zf9⟩⟩ := cells_ten Z3.out
  by_cases hz : k = 0
  · subst hz
    go_wp2_with fail
    have q := cells_put Z3.out [.string ⟨#[]⟩, .string ⟨#[]⟩, .int .i64 0, .slice none 0 0, .int .i64 0, .string ⟨#[]⟩, .int .i64 0, .slice none 0 0, .slice none 0 0, .slice none 0 0] rfl
    have qb := put_below (Nat.le_succ w.heap.size) [.string ⟨#[]⟩, .string ⟨#[]⟩, .int .i64 0, .slice none 0 0, .int .i64 0, .string ⟨#[]⟩, .int .i64 0, .slice none 0 0, .slice none 0 0, .slice none 0 0] 0 _ B3.out
    rw [put_ten] at q qb
    obtain ⟨⟨yc0, yc1, yc2, yc3, yc4, yc5, yc6, yc7, yc8, yc9⟩, _⟩ := cells_ten q
    refine bodyPost_ret (v := tellV mzV 0 er) (by simp [results, Tryz.results56, go_sem, tellV, mzV, yc0, yc1, yc2, yc3, yc4, yc5, yc6, yc7, yc8, yc9]) rfl ⟨qb, .inl ?_⟩
    rw [RB.out, if_pos (by simp)]
    exact ⟨.inr rfl, rfl⟩
  · have hz' : ((k : Int) == 0) = false := by simp; omega
    have e0 : er = 0 := by
      apply Classical.byContradiction
      intro h; exact hz (RH.out h)
    subst e0
    obtain ⟨⟨mc0, mc1, mc2, mc3, mc4, mc5, mc6, mc7, mc8, mc9⟩, ⟨mf0, mf1, mf2, mf3, mf4, mf5, mf6, mf7, mf8, mf9⟩⟩ := cells_ten M3.out
    have M4 := cells_set (cells_set M3.out (j := 8) (by simp) (.slice xa d.length xc)) (j := 9) (by simp) (.slice ya fs.length yc)
    have hne : w.heap.size + 1 ≠ w.heap.size := by omega
    have Z4 := cells_other (cells_other Z3.out hne (o := 8) (.slice xa d.length xc)) hne (o := 9) (.slice ya fs.length yc)
    have B4 := hide' ((B3.out.setCell (p := ⟨w.heap.size, 8, none⟩) (Nat.le_refl _) (.slice xa d.length xc)).setCell (p := ⟨w.heap.size, 9, none⟩) (Nat.le_refl _) (.slice ya fs.length yc))
    have hb9 : w.heap.size < ((w.alloc (.cells #[.string xm, .string xt, .int .i64 xk, .slice xl xln xlc, .int .i64 ys, .string yr, .int .i64 yk, .slice yl yln ylc, .slice none 0 0, .slice none 0 0] 31)).alloc (.cells #[.string ⟨#[]⟩, .string ⟨#[]⟩, .int .i64 0, .slice none 0 0, .int .i64 0, .string ⟨#[]⟩, .int .i64 0, .slice none 0 0, .slice none 0 0, .slice none 0 0] 31)).heap.size := by rw [sz2.out]; omega
    have O4 := hide' (row_poke (o := 9) (x := .slice ya fs.length yc) (row_poke (o := 8) (x := .slice xa d.length xc) HO.out.1 hb9) hb9)
    have F4 := hide' (row_poke (o := 9) (x := .slice ya fs.length yc) (row_poke (o := 8) (x := .slice xa d.length xc) HF.out.1 hb9) hb9)
    obtain ⟨⟨pc0, pc1, pc2, pc3, pc4, pc5, pc6, pc7, pc8, pc9⟩, _⟩ := cells_ten M4
    obtain ⟨⟨xc0, xc1, xc2, xc3, xc4, xc5, xc6, xc7, xc8, xc9⟩, ⟨xf0, xf1, xf2, xf3, xf4, xf5, xf6, xf7, xf8, xf9⟩⟩ := cells_ten Z4
    have Z4' := hide' Z4
    clear M4 Z4 zc0 zc1 zc2 zc3 zc4 zc5 zc6 zc7 zc8 zc9
    go_wp2_with fail
    have q := cells_put Z4'.out [.string xm, .string xt, .int .i64 xk, .slice xl xln xlc, .int .i64 ys, .string yr, .int .i64 yk, .slice yl yln ylc, .slice xa d.length xc, .slice ya fs.length yc] rfl
    have qb := put_below (Nat.le_succ w.heap.size) [.string xm, .string xt, .int .i64 xk, .slice xl xln xlc, .int .i64 ys, .string yr, .int .i64 yk, .slice yl yln ylc, .slice xa d.length xc, .slice ya fs.length yc] 0 _ B4.out
    have hb10 : w.heap.size + 1 < ((w.alloc (.cells #[.string xm, .string xt, .int .i64 xk, .slice xl xln xlc, .int .i64 ys, .string yr, .int .i64 yk, .slice yl yln ylc, .slice none 0 0, .slice none 0 0] 31)).alloc (.cells #[.string ⟨#[]⟩, .string ⟨#[]⟩, .int .i64 0, .slice none 0 0, .int .i64 0, .string ⟨#[]⟩, .int .i64 0, .slice none 0 0, .slice none 0 0, .slice none 0 0] 31)).heap.size := by rw [sz2.out]; omega
    have qo := row_putFrom hb10 [.string xm, .string xt, .int .i64 xk, .slice xl xln xlc, .int .i64 ys, .string yr, .int .i64 yk, .slice yl yln ylc, .slice xa d.length xc, .slice ya fs.length yc] 0 _ O4.out
    have qf := row_putFrom hb10 [.string xm, .string xt, .int .i64 xk, .slice xl xln xlc, .int .i64 ys, .string yr, .int .i64 yk, .slice yl yln ylc, .slice xa d.length xc, .slice ya fs.length yc] 0 _ F4.out
    rw [put_ten] at q qb qo qf
    obtain ⟨⟨yc0, yc1, yc2, yc3, yc4, yc5, yc6, yc7, yc8, yc9⟩, _⟩ := cells_ten q
    refine bodyPost_ret (v := tellV (.agg #[.string xm, .string xt, .int .i64 xk, .slice xl xln xlc, .int .i64 ys, .string yr, .int .i64 yk, .slice yl yln ylc, .slice xa d.length xc, .slice ya fs.length yc]) (n + k) 0) (by simp [results, Tryz.results56, go_sem, tellV, yc0, yc1, yc2, yc3, yc4, yc5, yc6, yc7, yc8, yc9]) rfl ⟨qb, .inr ?_⟩
    rw [RB.out, if_neg (by simp; exact hz)]
    exact ⟨rfl, by simp only; omega, _, _, rfl, ⟨row_base qo (by omega), qb⟩, ⟨row_base qf (by omega), qb⟩⟩
end Go.Proofs.YtmikgpmnffdnnaaGreatDoor
