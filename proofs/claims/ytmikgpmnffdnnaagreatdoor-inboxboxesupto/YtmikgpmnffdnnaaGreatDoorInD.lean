/- The contract of withBody. -/
import Derived.Test.YtmikgpmnffdnnaaGreatDoorInC
namespace Go.Proofs.YtmikgpmnffdnnaaGreatDoor
open Go.RowKit
theorem bodyE_none (b : List UInt8) (n : Nat) (l : Int) (ended : Bool) : bodyE b n 0 l ended = ([], [], n, 0) := by
  unfold bodyE bodyM; rw [if_neg (by decide), if_neg (by decide), if_neg (by decide)]
theorem bodyE_short (b : List UInt8) (n l : Nat) (ended : Bool) (hn : n ≤ b.length) (h : b.length - n < l) : bodyE b n 1 (l : Int) ended = ([], [], 0, 0) := by
  unfold bodyE bodyM; rw [if_neg (by decide), if_pos rfl, if_pos (by omega)]
theorem bodyE_len (b : List UInt8) (n l : Nat) (ended : Bool) (hn : n ≤ b.length) (h : ¬ b.length - n < l) : bodyE b n 1 (l : Int) ended = ((b.drop n).take l, [], n + l, 0) := by
  unfold bodyE bodyM; rw [if_neg (by decide), if_pos rfl, if_neg (by omega), Int.toNat_natCast]
theorem bodyE_chunks (b : List UInt8) (n : Nat) (l : Int) (ended : Bool) : bodyE b n 2 l ended = bodyM b n 2 l := bodyE_ne (by decide)
theorem bodyE_big (b : List UInt8) (n : Nat) (l : Int) (ended : Bool) (h : 65536 < b.length - n) : bodyE b n 3 l ended = ([], [], 0, 71) := by
  unfold bodyE; rw [if_pos rfl, if_pos h]
theorem bodyE_more (b : List UInt8) (n : Nat) (l : Int) (h : ¬ 65536 < b.length - n) : bodyE b n 3 l false = ([], [], 0, 0) := by
  unfold bodyE; rw [if_pos rfl, if_neg h]; rfl
theorem bodyE_close (b : List UInt8) (n : Nat) (l : Int) (h : ¬ 65536 < b.length - n) : bodyE b n 3 l true = (b.drop n, [], b.length, 0) := by
  unfold bodyE; rw [if_pos rfl, if_neg h]; rfl
set_option maxRecDepth 20000 in
set_option maxHeartbeats 8000000 in
theorem wbNone (xm xt : ByteArray) (xk : Int) (xl : Option Addr) (xln xlc : Nat) (ys : Int) (yr : ByteArray) (yk : Int) (yl : Option Addr) (yln ylc : Nat) (v : Value) (bs : List UInt8) (n : Nat) (l : Int) (ended : Bool) (w : World) (hv : HoldsB w v bs) (hn : n ≤ bs.length) (hn0 : 0 < n) (E : Env w) (R : Er w) (hs : bs.length < 4294967281) :
    Calls Tryz.prog 32 #[.agg #[.string xm, .string xt, .int .i64 xk, .slice xl xln xlc, .int .i64 ys, .string yr, .int .i64 yk, .slice yl yln ylc, .slice none 0 0, .slice none 0 0], v, .int .i64 (n : Int), .agg #[.int .i64 0, .int .i64 l], .bool ended] w fun e w' => AnsB w (.string xm) (.string xt) (.int .i64 xk) (.slice xl xln xlc) (.int .i64 ys) (.string yr) (.int .i64 yk) (.slice yl yln ylc) (bodyE bs n 0 l ended) e w' := by
  have b1 := below_alloc' w (.cells #[.string xm, .string xt, .int .i64 xk, .slice xl xln xlc, .int .i64 ys, .string yr, .int .i64 yk, .slice yl yln ylc, .slice none 0 0, .slice none 0 0] 31)
  have b2 := below_alloc' (w.alloc (.cells #[.string xm, .string xt, .int .i64 xk, .slice xl xln xlc, .int .i64 ys, .string yr, .int .i64 yk, .slice yl yln ylc, .slice none 0 0, .slice none 0 0] 31)) (.cells #[.int .i64 0, .int .i64 l] 60)
  have b3 := below_alloc' ((w.alloc (.cells #[.string xm, .string xt, .int .i64 xk, .slice xl xln xlc, .int .i64 ys, .string yr, .int .i64 yk, .slice yl yln ylc, .slice none 0 0, .slice none 0 0] 31)).alloc (.cells #[.int .i64 0, .int .i64 l] 60)) (.cells #[.string ⟨#[]⟩, .string ⟨#[]⟩, .int .i64 0, .slice none 0 0, .int .i64 0, .string ⟨#[]⟩, .int .i64 0, .slice none 0 0, .slice none 0 0, .slice none 0 0] 31)
  have B2 := hide' (bt' b1 b2)
  have B3 := hide' (bt' (bt' b1 b2) b3)
  have M3 := hide' (cells_below (cells_below (cells_lit w #[.string xm, .string xt, .int .i64 xk, .slice xl xln xlc, .int .i64 ys, .string yr, .int .i64 yk, .slice yl yln ylc, .slice none 0 0, .slice none 0 0] 31) b2) b3)
  have Z3 := cells_lit ((w.alloc (.cells #[.string xm, .string xt, .int .i64 xk, .slice xl xln xlc, .int .i64 ys, .string yr, .int .i64 yk, .slice yl yln ylc, .slice none 0 0, .slice none 0 0] 31)).alloc (.cells #[.int .i64 0, .int .i64 l] 60)) #[.string ⟨#[]⟩, .string ⟨#[]⟩, .int .i64 0, .slice none 0 0, .int .i64 0, .string ⟨#[]⟩, .int .i64 0, .slice none 0 0, .slice none 0 0, .slice none 0 0] 31
  have z2 : ((w.alloc (.cells #[.string xm, .string xt, .int .i64 xk, .slice xl xln xlc, .int .i64 ys, .string yr, .int .i64 yk, .slice yl yln ylc, .slice none 0 0, .slice none 0 0] 31)).alloc (.cells #[.int .i64 0, .int .i64 l] 60)).heap.size = w.heap.size + 2 := by simp
  have z3 : (((w.alloc (.cells #[.string xm, .string xt, .int .i64 xk, .slice xl xln xlc, .int .i64 ys, .string yr, .int .i64 yk, .slice yl yln ylc, .slice none 0 0, .slice none 0 0] 31)).alloc (.cells #[.int .i64 0, .int .i64 l] 60)).alloc (.cells #[.string ⟨#[]⟩, .string ⟨#[]⟩, .int .i64 0, .slice none 0 0, .int .i64 0, .string ⟨#[]⟩, .int .i64 0, .slice none 0 0, .slice none 0 0, .slice none 0 0] 31)).heap.size = w.heap.size + 3 := by simp
  rw [z2] at Z3
  have Z3' := hide' Z3
  have HV := hide' hv
  have sz3 := hide' z3
  have EV := hide' E
  have RV := hide' R
  obtain ⟨ao, cap, rfl, h0, hcp, _⟩ := hv
  have sl := fun W => from_run ao bs.length cap n hn hcp W
  have HS := hide' (holdsB_suf HV.out n hn)
  obtain ⟨sa, sc, hsv, hsc⟩ := holdsB_parts HS.out
  rw [hsv] at HS sl
  have hdl : (bs.drop n).length = bs.length - n := List.length_drop
  have HDL := hide' hdl
  rw [hdl] at sl hsc
  obtain ⟨N, hN⟩ : ∃ N, N = bs.length := ⟨_, rfl⟩
  have HN := hide' hN
  rw [← hN] at hn hcp hs sl hsc ⊢
  have hn2 : n < 4294967281 := by omega
  clear b1 b2 b3 Z3 z2 z3 E R h0 hN hdl hsv
  clear M3 Z3' HS
  go_enter Tryz.func32, Tryz.ntmps32
  go_wp2_with fail
  have qb := bt' B2.out (below_alloc' ((w.alloc (.cells #[.string xm, .string xt, .int .i64 xk, .slice xl xln xlc, .int .i64 ys, .string yr, .int .i64 yk, .slice yl yln ylc, .slice none 0 0, .slice none 0 0] 31)).alloc (.cells #[.int .i64 0, .int .i64 l] 60)) (.cells #[.string xm, .string xt, .int .i64 xk, .slice xl xln xlc, .int .i64 ys, .string yr, .int .i64 yk, .slice yl yln ylc, .slice none 0 0, .slice none 0 0] 31))
  refine bodyPost_ret (v := tellV (.agg #[.string xm, .string xt, .int .i64 xk, .slice xl xln xlc, .int .i64 ys, .string yr, .int .i64 yk, .slice yl yln ylc, .slice none 0 0, .slice none 0 0]) n 0) (by simp [results, Tryz.results32, go_sem, tellV]) rfl ⟨qb, ?_⟩
  rw [bodyE_none]
  exact .inr ⟨rfl, hn0, _, _, rfl, own_nil _ _ qb, ownF_nil _ _ qb⟩
set_option maxRecDepth 20000 in
set_option maxHeartbeats 8000000 in
theorem wbLen (xm xt : ByteArray) (xk : Int) (xl : Option Addr) (xln xlc : Nat) (ys : Int) (yr : ByteArray) (yk : Int) (yl : Option Addr) (yln ylc : Nat) (v : Value) (bs : List UInt8) (n : Nat) (l : Nat) (ended : Bool) (w : World) (hv : HoldsB w v bs) (hn : n ≤ bs.length) (hn0 : 0 < n) (E : Env w) (R : Er w) (hs : bs.length < 4294967281) (hl : l ≤ 65536) :
    Calls Tryz.prog 32 #[.agg #[.string xm, .string xt, .int .i64 xk, .slice xl xln xlc, .int .i64 ys, .string yr, .int .i64 yk, .slice yl yln ylc, .slice none 0 0, .slice none 0 0], v, .int .i64 (n : Int), .agg #[.int .i64 1, .int .i64 (l : Int)], .bool ended] w fun e w' => AnsB w (.string xm) (.string xt) (.int .i64 xk) (.slice xl xln xlc) (.int .i64 ys) (.string yr) (.int .i64 yk) (.slice yl yln ylc) (bodyE bs n 1 (l : Int) ended) e w' := by
  have b1 := below_alloc' w (.cells #[.string xm, .string xt, .int .i64 xk, .slice xl xln xlc, .int .i64 ys, .string yr, .int .i64 yk, .slice yl yln ylc, .slice none 0 0, .slice none 0 0] 31)
  have b2 := below_alloc' (w.alloc (.cells #[.string xm, .string xt, .int .i64 xk, .slice xl xln xlc, .int .i64 ys, .string yr, .int .i64 yk, .slice yl yln ylc, .slice none 0 0, .slice none 0 0] 31)) (.cells #[.int .i64 1, .int .i64 (l : Int)] 60)
  have b3 := below_alloc' ((w.alloc (.cells #[.string xm, .string xt, .int .i64 xk, .slice xl xln xlc, .int .i64 ys, .string yr, .int .i64 yk, .slice yl yln ylc, .slice none 0 0, .slice none 0 0] 31)).alloc (.cells #[.int .i64 1, .int .i64 (l : Int)] 60)) (.cells #[.string ⟨#[]⟩, .string ⟨#[]⟩, .int .i64 0, .slice none 0 0, .int .i64 0, .string ⟨#[]⟩, .int .i64 0, .slice none 0 0, .slice none 0 0, .slice none 0 0] 31)
  have B2 := hide' (bt' b1 b2)
  have B3 := hide' (bt' (bt' b1 b2) b3)
  have M3 := hide' (cells_below (cells_below (cells_lit w #[.string xm, .string xt, .int .i64 xk, .slice xl xln xlc, .int .i64 ys, .string yr, .int .i64 yk, .slice yl yln ylc, .slice none 0 0, .slice none 0 0] 31) b2) b3)
  have Z3 := cells_lit ((w.alloc (.cells #[.string xm, .string xt, .int .i64 xk, .slice xl xln xlc, .int .i64 ys, .string yr, .int .i64 yk, .slice yl yln ylc, .slice none 0 0, .slice none 0 0] 31)).alloc (.cells #[.int .i64 1, .int .i64 (l : Int)] 60)) #[.string ⟨#[]⟩, .string ⟨#[]⟩, .int .i64 0, .slice none 0 0, .int .i64 0, .string ⟨#[]⟩, .int .i64 0, .slice none 0 0, .slice none 0 0, .slice none 0 0] 31
  have z2 : ((w.alloc (.cells #[.string xm, .string xt, .int .i64 xk, .slice xl xln xlc, .int .i64 ys, .string yr, .int .i64 yk, .slice yl yln ylc, .slice none 0 0, .slice none 0 0] 31)).alloc (.cells #[.int .i64 1, .int .i64 (l : Int)] 60)).heap.size = w.heap.size + 2 := by simp
  have z3 : (((w.alloc (.cells #[.string xm, .string xt, .int .i64 xk, .slice xl xln xlc, .int .i64 ys, .string yr, .int .i64 yk, .slice yl yln ylc, .slice none 0 0, .slice none 0 0] 31)).alloc (.cells #[.int .i64 1, .int .i64 (l : Int)] 60)).alloc (.cells #[.string ⟨#[]⟩, .string ⟨#[]⟩, .int .i64 0, .slice none 0 0, .int .i64 0, .string ⟨#[]⟩, .int .i64 0, .slice none 0 0, .slice none 0 0, .slice none 0 0] 31)).heap.size = w.heap.size + 3 := by simp
  rw [z2] at Z3
  have Z3' := hide' Z3
  have HV := hide' hv
  have sz3 := hide' z3
  have EV := hide' E
  have RV := hide' R
  obtain ⟨ao, cap, rfl, h0, hcp, _⟩ := hv
  have sl := fun W => from_run ao bs.length cap n hn hcp W
  have HS := hide' (holdsB_suf HV.out n hn)
  obtain ⟨sa, sc, hsv, hsc⟩ := holdsB_parts HS.out
  rw [hsv] at HS sl
  have hdl : (bs.drop n).length = bs.length - n := List.length_drop
  have HDL := hide' hdl
  rw [hdl] at sl hsc
  obtain ⟨N, hN⟩ : ∃ N, N = bs.length := ⟨_, rfl⟩
  have HN := hide' hN
  rw [← hN] at hn hcp hs sl hsc ⊢
  have hn2 : n < 4294967281 := by omega
  clear b1 b2 b3 Z3 z2 z3 E R h0 hN hdl hsv
  by_cases hlt : N - n < l
  · have hlt' : ((N - n : Nat) : Int) < (l : Int) := by omega
    clear HS
    go_enter Tryz.func32, Tryz.ntmps32
    go_wp2_with fail
    have qb := bt' B2.out (below_alloc' ((w.alloc (.cells #[.string xm, .string xt, .int .i64 xk, .slice xl xln xlc, .int .i64 ys, .string yr, .int .i64 yk, .slice yl yln ylc, .slice none 0 0, .slice none 0 0] 31)).alloc (.cells #[.int .i64 1, .int .i64 (l : Int)] 60)) (.cells #[.string ⟨#[]⟩, .string ⟨#[]⟩, .int .i64 0, .slice none 0 0, .int .i64 0, .string ⟨#[]⟩, .int .i64 0, .slice none 0 0, .slice none 0 0, .slice none 0 0] 31))
    refine bodyPost_ret (v := tellV mzV 0 0) (by simp [results, Tryz.results32, go_sem, tellV, mzV]) rfl ⟨qb, ?_⟩
    rw [bodyE_short bs n l ended (by rw [← HN.out]; exact hn) (by rw [← HN.out]; exact hlt)]
    exact .inl ⟨.inr rfl, rfl⟩
  · have hlt' : ¬ ((N - n : Nat) : Int) < (l : Int) := by omega
    obtain ⟨pv, sl2, HP⟩ := holdsB_take HS.out l (by rw [HDL.out, ← HN.out]; omega)
    rw [HDL.out, ← HN.out] at sl2
    have tl : ((bs.drop n).take l).length = l := by rw [List.length_take, HDL.out, ← HN.out]; omega
    obtain ⟨pa, pc, hpv, _⟩ := holdsB_parts HP
    rw [tl] at hpv
    subst hpv
    have CB := hide' (bcloneC _ _ _ (holdsB_mono HP B3.out) (by rw [tl]; omega))
    have XL := hide' (bodyE_len bs n l ended (by rw [← HN.out]; exact hn) (by rw [← HN.out]; exact hlt))
    generalize (bs.drop n).take l = cs at CB XL tl HP
    have TL := hide' tl
    clear tl HP HS
    go_enter Tryz.func32, Tryz.ntmps32
    go_wp2_with fail
    refine CB.out.mono ?_
    rintro e w4 ⟨u, rfl, ho⟩
    obtain ⟨xa, xc, hdv, _⟩ := holdsB_own ho
    rw [TL.out] at hdv
    subst hdv
    have HO := hide' ho
    have B4 := hide' (bt' B3.out ho.2)
    have M4 := hide' (cells_below M3.out ho.2)
    have Z4 := hide' (cells_below Z3'.out ho.2)
    obtain ⟨⟨mc0, mc1, mc2, mc3, mc4, mc5, mc6, mc7, mc8, mc9⟩, ⟨mf0, mf1, mf2, mf3, mf4, mf5, mf6, mf7, mf8, mf9⟩⟩ := cells_ten M4.out
    have M5 := cells_set M4.out (j := 8) (by simp) (.slice xa l xc)
    have hne : w.heap.size + 2 ≠ w.heap.size := by omega
    have Z5 := cells_other Z4.out hne (o := 8) (.slice xa l xc)
    have B5 := hide' (B4.out.setCell (p := ⟨w.heap.size, 8, none⟩) (Nat.le_refl _) (.slice xa l xc))
    have hb9 : w.heap.size < (((w.alloc (.cells #[.string xm, .string xt, .int .i64 xk, .slice xl xln xlc, .int .i64 ys, .string yr, .int .i64 yk, .slice yl yln ylc, .slice none 0 0, .slice none 0 0] 31)).alloc (.cells #[.int .i64 1, .int .i64 (l : Int)] 60)).alloc (.cells #[.string ⟨#[]⟩, .string ⟨#[]⟩, .int .i64 0, .slice none 0 0, .int .i64 0, .string ⟨#[]⟩, .int .i64 0, .slice none 0 0, .slice none 0 0, .slice none 0 0] 31)).heap.size := by rw [sz3.out]; omega
    have hb10 : w.heap.size + 2 < (((w.alloc (.cells #[.string xm, .string xt, .int .i64 xk, .slice xl xln xlc, .int .i64 ys, .string yr, .int .i64 yk, .slice yl yln ylc, .slice none 0 0, .slice none 0 0] 31)).alloc (.cells #[.int .i64 1, .int .i64 (l : Int)] 60)).alloc (.cells #[.string ⟨#[]⟩, .string ⟨#[]⟩, .int .i64 0, .slice none 0 0, .int .i64 0, .string ⟨#[]⟩, .int .i64 0, .slice none 0 0, .slice none 0 0, .slice none 0 0] 31)).heap.size := by rw [sz3.out]; omega
    have O5 := hide' (row_poke (o := 8) (x := .slice xa l xc) HO.out.1 hb9)
    obtain ⟨⟨pc0, pc1, pc2, pc3, pc4, pc5, pc6, pc7, pc8, pc9⟩, _⟩ := cells_ten M5
    obtain ⟨⟨xc0, xc1, xc2, xc3, xc4, xc5, xc6, xc7, xc8, xc9⟩, ⟨xf0, xf1, xf2, xf3, xf4, xf5, xf6, xf7, xf8, xf9⟩⟩ := cells_ten Z5
    have Z5' := hide' Z5
    have HB10 := hide' hb10
    clear M5 Z5 ho hb9 hb10
    go_wp2_with fail
    have q := cells_put Z5'.out [.string xm, .string xt, .int .i64 xk, .slice xl xln xlc, .int .i64 ys, .string yr, .int .i64 yk, .slice yl yln ylc, .slice xa l xc, .slice none 0 0] rfl
    have qb := put_below (Nat.le_add_right w.heap.size 2) [.string xm, .string xt, .int .i64 xk, .slice xl xln xlc, .int .i64 ys, .string yr, .int .i64 yk, .slice yl yln ylc, .slice xa l xc, .slice none 0 0] 0 _ B5.out
    have qo := row_putFrom HB10.out [.string xm, .string xt, .int .i64 xk, .slice xl xln xlc, .int .i64 ys, .string yr, .int .i64 yk, .slice yl yln ylc, .slice xa l xc, .slice none 0 0] 0 _ O5.out
    rw [put_ten] at q qb qo
    obtain ⟨⟨yc0, yc1, yc2, yc3, yc4, yc5, yc6, yc7, yc8, yc9⟩, _⟩ := cells_ten q
    refine bodyPost_ret (v := tellV (.agg #[.string xm, .string xt, .int .i64 xk, .slice xl xln xlc, .int .i64 ys, .string yr, .int .i64 yk, .slice yl yln ylc, .slice xa l xc, .slice none 0 0]) (n + l) 0) (by simp [results, Tryz.results32, go_sem, tellV, yc0, yc1, yc2, yc3, yc4, yc5, yc6, yc7, yc8, yc9]) rfl ⟨qb, .inr ?_⟩
    rw [XL.out]
    exact ⟨rfl, by simp only; omega, _, _, rfl, ⟨row_base qo (by rw [sz3.out]; omega), qb⟩, ownF_nil _ _ qb⟩
set_option maxRecDepth 20000 in
set_option maxHeartbeats 8000000 in
theorem wbChunks (xm xt : ByteArray) (xk : Int) (xl : Option Addr) (xln xlc : Nat) (ys : Int) (yr : ByteArray) (yk : Int) (yl : Option Addr) (yln ylc : Nat) (v : Value) (bs : List UInt8) (n : Nat) (l : Int) (ended : Bool) (w : World) (hv : HoldsB w v bs) (hn : n ≤ bs.length) (hn0 : 0 < n) (E : Env w) (R : Er w) (hs : bs.length < 4294967281) :
    Calls Tryz.prog 32 #[.agg #[.string xm, .string xt, .int .i64 xk, .slice xl xln xlc, .int .i64 ys, .string yr, .int .i64 yk, .slice yl yln ylc, .slice none 0 0, .slice none 0 0], v, .int .i64 (n : Int), .agg #[.int .i64 2, .int .i64 l], .bool ended] w fun e w' => AnsB w (.string xm) (.string xt) (.int .i64 xk) (.slice xl xln xlc) (.int .i64 ys) (.string yr) (.int .i64 yk) (.slice yl yln ylc) (bodyE bs n 2 l ended) e w' := by
  have b1 := below_alloc' w (.cells #[.string xm, .string xt, .int .i64 xk, .slice xl xln xlc, .int .i64 ys, .string yr, .int .i64 yk, .slice yl yln ylc, .slice none 0 0, .slice none 0 0] 31)
  have b2 := below_alloc' (w.alloc (.cells #[.string xm, .string xt, .int .i64 xk, .slice xl xln xlc, .int .i64 ys, .string yr, .int .i64 yk, .slice yl yln ylc, .slice none 0 0, .slice none 0 0] 31)) (.cells #[.int .i64 2, .int .i64 l] 60)
  have b3 := below_alloc' ((w.alloc (.cells #[.string xm, .string xt, .int .i64 xk, .slice xl xln xlc, .int .i64 ys, .string yr, .int .i64 yk, .slice yl yln ylc, .slice none 0 0, .slice none 0 0] 31)).alloc (.cells #[.int .i64 2, .int .i64 l] 60)) (.cells #[.string ⟨#[]⟩, .string ⟨#[]⟩, .int .i64 0, .slice none 0 0, .int .i64 0, .string ⟨#[]⟩, .int .i64 0, .slice none 0 0, .slice none 0 0, .slice none 0 0] 31)
  have B2 := hide' (bt' b1 b2)
  have B3 := hide' (bt' (bt' b1 b2) b3)
  have M3 := hide' (cells_below (cells_below (cells_lit w #[.string xm, .string xt, .int .i64 xk, .slice xl xln xlc, .int .i64 ys, .string yr, .int .i64 yk, .slice yl yln ylc, .slice none 0 0, .slice none 0 0] 31) b2) b3)
  have Z3 := cells_lit ((w.alloc (.cells #[.string xm, .string xt, .int .i64 xk, .slice xl xln xlc, .int .i64 ys, .string yr, .int .i64 yk, .slice yl yln ylc, .slice none 0 0, .slice none 0 0] 31)).alloc (.cells #[.int .i64 2, .int .i64 l] 60)) #[.string ⟨#[]⟩, .string ⟨#[]⟩, .int .i64 0, .slice none 0 0, .int .i64 0, .string ⟨#[]⟩, .int .i64 0, .slice none 0 0, .slice none 0 0, .slice none 0 0] 31
  have z2 : ((w.alloc (.cells #[.string xm, .string xt, .int .i64 xk, .slice xl xln xlc, .int .i64 ys, .string yr, .int .i64 yk, .slice yl yln ylc, .slice none 0 0, .slice none 0 0] 31)).alloc (.cells #[.int .i64 2, .int .i64 l] 60)).heap.size = w.heap.size + 2 := by simp
  have z3 : (((w.alloc (.cells #[.string xm, .string xt, .int .i64 xk, .slice xl xln xlc, .int .i64 ys, .string yr, .int .i64 yk, .slice yl yln ylc, .slice none 0 0, .slice none 0 0] 31)).alloc (.cells #[.int .i64 2, .int .i64 l] 60)).alloc (.cells #[.string ⟨#[]⟩, .string ⟨#[]⟩, .int .i64 0, .slice none 0 0, .int .i64 0, .string ⟨#[]⟩, .int .i64 0, .slice none 0 0, .slice none 0 0, .slice none 0 0] 31)).heap.size = w.heap.size + 3 := by simp
  rw [z2] at Z3
  have Z3' := hide' Z3
  have HV := hide' hv
  have sz3 := hide' z3
  have EV := hide' E
  have RV := hide' R
  obtain ⟨ao, cap, rfl, h0, hcp, _⟩ := hv
  have sl := fun W => from_run ao bs.length cap n hn hcp W
  have HS := hide' (holdsB_suf HV.out n hn)
  obtain ⟨sa, sc, hsv, hsc⟩ := holdsB_parts HS.out
  rw [hsv] at HS sl
  have hdl : (bs.drop n).length = bs.length - n := List.length_drop
  have HDL := hide' hdl
  rw [hdl] at sl hsc
  obtain ⟨N, hN⟩ : ∃ N, N = bs.length := ⟨_, rfl⟩
  have HN := hide' hN
  rw [← hN] at hn hcp hs sl hsc ⊢
  have hn2 : n < 4294967281 := by omega
  clear b1 b2 b3 Z3 z2 z3 E R h0 hN hdl hsv
  have CW := hide' (withChunksC xm xt xk xl xln xlc ys yr yk yl yln ylc _ bs n l _ (holdsB_mono HV.out B3.out) (by rw [← HN.out]; exact hn) hn0 (env_below EV.out B3.out) (er_below RV.out B3.out) (by rw [← HN.out]; exact hs))
  rw [← HN.out] at CW
  rw [bodyE_chunks]
  clear HS
  go_enter Tryz.func32, Tryz.ntmps32
  go_wp2_with fail
  refine CW.out.mono ?_
  rintro e w4 ⟨b4, h4⟩
  have B4 := hide' (bt' B3.out b4)
  have Z4 := hide' (cells_below Z3'.out b4)
  obtain ⟨⟨zc0, zc1, zc2, zc3, zc4, zc5, zc6, zc7, zc8, zc9⟩, ⟨zf0, zf1, zf2, zf3, zf4, zf5, zf6, zf7, zf8, zf9⟩⟩ := cells_ten Z4.out
  rcases h4 with ⟨h5, rfl⟩ | ⟨h5, h6, bv, tv, rfl, ho, hf⟩
  · have H5 := hide' h5
    clear h5 b4
    obtain ⟨er, her⟩ : ∃ er, er = (bodyM bs n 2 l).2.2.2 := ⟨_, rfl⟩
    have HER := hide' her
    rw [← her]
    unfold tellV mzV
    clear her
    go_wp2_with fail
    have q := cells_put Z4.out [.string ⟨#[]⟩, .string ⟨#[]⟩, .int .i64 0, .slice none 0 0, .int .i64 0, .string ⟨#[]⟩, .int .i64 0, .slice none 0 0, .slice none 0 0, .slice none 0 0] rfl
    have qb := put_below (Nat.le_add_right w.heap.size 2) [.string ⟨#[]⟩, .string ⟨#[]⟩, .int .i64 0, .slice none 0 0, .int .i64 0, .string ⟨#[]⟩, .int .i64 0, .slice none 0 0, .slice none 0 0, .slice none 0 0] 0 _ B4.out
    rw [put_ten] at q qb
    obtain ⟨⟨yc0, yc1, yc2, yc3, yc4, yc5, yc6, yc7, yc8, yc9⟩, _⟩ := cells_ten q
    refine bodyPost_ret (v := tellV mzV 0 er) (by simp [results, Tryz.results32, go_sem, tellV, mzV, yc0, yc1, yc2, yc3, yc4, yc5, yc6, yc7, yc8, yc9]) rfl ⟨qb, .inl ⟨H5.out, by rw [← HER.out]⟩⟩
  · obtain ⟨xa, xc, hbv, _⟩ := holdsB_own ho
    obtain ⟨ya, yc, yb, yo, htv, _⟩ := holdsF_parts (holdsF_own hf)
    subst hbv htv
    have hb10 : w.heap.size + 2 < (((w.alloc (.cells #[.string xm, .string xt, .int .i64 xk, .slice xl xln xlc, .int .i64 ys, .string yr, .int .i64 yk, .slice yl yln ylc, .slice none 0 0, .slice none 0 0] 31)).alloc (.cells #[.int .i64 2, .int .i64 l] 60)).alloc (.cells #[.string ⟨#[]⟩, .string ⟨#[]⟩, .int .i64 0, .slice none 0 0, .int .i64 0, .string ⟨#[]⟩, .int .i64 0, .slice none 0 0, .slice none 0 0, .slice none 0 0] 31)).heap.size := by rw [sz3.out]; omega
    have HO := hide' ho
    have HF := hide' hf
    have H5 := hide' h5
    have H6 := hide' h6
    have HB10 := hide' hb10
    obtain ⟨X, hX⟩ : ∃ X, X = bodyM bs n 2 l := ⟨_, rfl⟩
    have hX1 : X.2.2.1 ≤ N := by
      rw [hX, HN.out]
      exact (body_le bs n 2 l (by rw [← HN.out]; exact hn) h6).2.1
    rw [← hX] at HO HF H5 H6 ⊢
    obtain ⟨xd, xf, xn, xe⟩ := X
    simp only at HO HF H5 H6 hX1 ⊢
    have HX := hide' hX
    unfold tellV
    clear b4 ho hf h5 h6 hb10 hX
    go_wp2_with fail
    have q := cells_put Z4.out [.string xm, .string xt, .int .i64 xk, .slice xl xln xlc, .int .i64 ys, .string yr, .int .i64 yk, .slice yl yln ylc, .slice xa xd.length xc, .slice ya xf.length yc] rfl
    have qb := put_below (Nat.le_add_right w.heap.size 2) [.string xm, .string xt, .int .i64 xk, .slice xl xln xlc, .int .i64 ys, .string yr, .int .i64 yk, .slice yl yln ylc, .slice xa xd.length xc, .slice ya xf.length yc] 0 _ B4.out
    have qo := row_putFrom HB10.out [.string xm, .string xt, .int .i64 xk, .slice xl xln xlc, .int .i64 ys, .string yr, .int .i64 yk, .slice yl yln ylc, .slice xa xd.length xc, .slice ya xf.length yc] 0 _ HO.out.1
    have qf := row_putFrom HB10.out [.string xm, .string xt, .int .i64 xk, .slice xl xln xlc, .int .i64 ys, .string yr, .int .i64 yk, .slice yl yln ylc, .slice xa xd.length xc, .slice ya xf.length yc] 0 _ HF.out.1
    rw [put_ten] at q qb qo qf
    obtain ⟨⟨yc0, yc1, yc2, yc3, yc4, yc5, yc6, yc7, yc8, yc9⟩, _⟩ := cells_ten q
    refine bodyPost_ret (v := tellV (.agg #[.string xm, .string xt, .int .i64 xk, .slice xl xln xlc, .int .i64 ys, .string yr, .int .i64 yk, .slice yl yln ylc, .slice xa xd.length xc, .slice ya xf.length yc]) xn 0) (by simp [results, Tryz.results32, go_sem, tellV, yc0, yc1, yc2, yc3, yc4, yc5, yc6, yc7, yc8, yc9]) rfl ⟨qb, .inr ?_⟩
    rw [← HX.out]
    exact ⟨H5.out, H6.out, _, _, rfl, ⟨row_base qo (by rw [sz3.out]; omega), qb⟩, ⟨row_base qf (by rw [sz3.out]; omega), qb⟩⟩
set_option maxRecDepth 20000 in
set_option maxHeartbeats 8000000 in
theorem wbClose (xm xt : ByteArray) (xk : Int) (xl : Option Addr) (xln xlc : Nat) (ys : Int) (yr : ByteArray) (yk : Int) (yl : Option Addr) (yln ylc : Nat) (v : Value) (bs : List UInt8) (n : Nat) (l : Int) (ended : Bool) (w : World) (hv : HoldsB w v bs) (hn : n ≤ bs.length) (hn0 : 0 < n) (E : Env w) (R : Er w) (hs : bs.length < 4294967281) :
    Calls Tryz.prog 32 #[.agg #[.string xm, .string xt, .int .i64 xk, .slice xl xln xlc, .int .i64 ys, .string yr, .int .i64 yk, .slice yl yln ylc, .slice none 0 0, .slice none 0 0], v, .int .i64 (n : Int), .agg #[.int .i64 3, .int .i64 l], .bool ended] w fun e w' => AnsB w (.string xm) (.string xt) (.int .i64 xk) (.slice xl xln xlc) (.int .i64 ys) (.string yr) (.int .i64 yk) (.slice yl yln ylc) (bodyE bs n 3 l ended) e w' := by
  have b1 := below_alloc' w (.cells #[.string xm, .string xt, .int .i64 xk, .slice xl xln xlc, .int .i64 ys, .string yr, .int .i64 yk, .slice yl yln ylc, .slice none 0 0, .slice none 0 0] 31)
  have b2 := below_alloc' (w.alloc (.cells #[.string xm, .string xt, .int .i64 xk, .slice xl xln xlc, .int .i64 ys, .string yr, .int .i64 yk, .slice yl yln ylc, .slice none 0 0, .slice none 0 0] 31)) (.cells #[.int .i64 3, .int .i64 l] 60)
  have b3 := below_alloc' ((w.alloc (.cells #[.string xm, .string xt, .int .i64 xk, .slice xl xln xlc, .int .i64 ys, .string yr, .int .i64 yk, .slice yl yln ylc, .slice none 0 0, .slice none 0 0] 31)).alloc (.cells #[.int .i64 3, .int .i64 l] 60)) (.cells #[.string ⟨#[]⟩, .string ⟨#[]⟩, .int .i64 0, .slice none 0 0, .int .i64 0, .string ⟨#[]⟩, .int .i64 0, .slice none 0 0, .slice none 0 0, .slice none 0 0] 31)
  have B2 := hide' (bt' b1 b2)
  have B3 := hide' (bt' (bt' b1 b2) b3)
  have M3 := hide' (cells_below (cells_below (cells_lit w #[.string xm, .string xt, .int .i64 xk, .slice xl xln xlc, .int .i64 ys, .string yr, .int .i64 yk, .slice yl yln ylc, .slice none 0 0, .slice none 0 0] 31) b2) b3)
  have Z3 := cells_lit ((w.alloc (.cells #[.string xm, .string xt, .int .i64 xk, .slice xl xln xlc, .int .i64 ys, .string yr, .int .i64 yk, .slice yl yln ylc, .slice none 0 0, .slice none 0 0] 31)).alloc (.cells #[.int .i64 3, .int .i64 l] 60)) #[.string ⟨#[]⟩, .string ⟨#[]⟩, .int .i64 0, .slice none 0 0, .int .i64 0, .string ⟨#[]⟩, .int .i64 0, .slice none 0 0, .slice none 0 0, .slice none 0 0] 31
  have z2 : ((w.alloc (.cells #[.string xm, .string xt, .int .i64 xk, .slice xl xln xlc, .int .i64 ys, .string yr, .int .i64 yk, .slice yl yln ylc, .slice none 0 0, .slice none 0 0] 31)).alloc (.cells #[.int .i64 3, .int .i64 l] 60)).heap.size = w.heap.size + 2 := by simp
  have z3 : (((w.alloc (.cells #[.string xm, .string xt, .int .i64 xk, .slice xl xln xlc, .int .i64 ys, .string yr, .int .i64 yk, .slice yl yln ylc, .slice none 0 0, .slice none 0 0] 31)).alloc (.cells #[.int .i64 3, .int .i64 l] 60)).alloc (.cells #[.string ⟨#[]⟩, .string ⟨#[]⟩, .int .i64 0, .slice none 0 0, .int .i64 0, .string ⟨#[]⟩, .int .i64 0, .slice none 0 0, .slice none 0 0, .slice none 0 0] 31)).heap.size = w.heap.size + 3 := by simp
  rw [z2] at Z3
  have Z3' := hide' Z3
  have HV := hide' hv
  have sz3 := hide' z3
  have EV := hide' E
  have RV := hide' R
  obtain ⟨ao, cap, rfl, h0, hcp, _⟩ := hv
  have sl := fun W => from_run ao bs.length cap n hn hcp W
  have HS := hide' (holdsB_suf HV.out n hn)
  obtain ⟨sa, sc, hsv, hsc⟩ := holdsB_parts HS.out
  rw [hsv] at HS sl
  have hdl : (bs.drop n).length = bs.length - n := List.length_drop
  have HDL := hide' hdl
  rw [hdl] at sl hsc
  obtain ⟨N, hN⟩ : ∃ N, N = bs.length := ⟨_, rfl⟩
  have HN := hide' hN
  rw [← hN] at hn hcp hs sl hsc ⊢
  have hn2 : n < 4294967281 := by omega
  clear b1 b2 b3 Z3 z2 z3 E R h0 hN hdl hsv
  by_cases hbig : 65536 < N - n
  · have hbig' : (65536 : Int) < ((N - n : Nat) : Int) := by omega
    clear HS
    go_enter Tryz.func32, Tryz.ntmps32
    go_wp2_with fail
    have qb := bt' B2.out (below_alloc' ((w.alloc (.cells #[.string xm, .string xt, .int .i64 xk, .slice xl xln xlc, .int .i64 ys, .string yr, .int .i64 yk, .slice yl yln ylc, .slice none 0 0, .slice none 0 0] 31)).alloc (.cells #[.int .i64 3, .int .i64 l] 60)) (.cells #[.string ⟨#[]⟩, .string ⟨#[]⟩, .int .i64 0, .slice none 0 0, .int .i64 0, .string ⟨#[]⟩, .int .i64 0, .slice none 0 0, .slice none 0 0, .slice none 0 0] 31))
    refine bodyPost_ret (v := tellV mzV 0 71) (by simp [results, Tryz.results32, go_sem, tellV, mzV]) rfl ⟨qb, ?_⟩
    rw [bodyE_big bs n l ended (by rw [← HN.out]; exact hbig)]
    exact .inl ⟨.inl (by decide), rfl⟩
  · have hbig' : ¬ (65536 : Int) < ((N - n : Nat) : Int) := by omega
    cases ended with
    | false =>
      clear HS
      go_enter Tryz.func32, Tryz.ntmps32
      go_wp2_with fail
      have qb := bt' B2.out (below_alloc' ((w.alloc (.cells #[.string xm, .string xt, .int .i64 xk, .slice xl xln xlc, .int .i64 ys, .string yr, .int .i64 yk, .slice yl yln ylc, .slice none 0 0, .slice none 0 0] 31)).alloc (.cells #[.int .i64 3, .int .i64 l] 60)) (.cells #[.string ⟨#[]⟩, .string ⟨#[]⟩, .int .i64 0, .slice none 0 0, .int .i64 0, .string ⟨#[]⟩, .int .i64 0, .slice none 0 0, .slice none 0 0, .slice none 0 0] 31))
      refine bodyPost_ret (v := tellV mzV 0 0) (by simp [results, Tryz.results32, go_sem, tellV, mzV]) rfl ⟨qb, ?_⟩
      rw [bodyE_more bs n l (by rw [← HN.out]; exact hbig)]
      exact .inl ⟨.inr rfl, rfl⟩
    | true =>
      have CB := hide' (bcloneC _ _ _ (holdsB_mono HS.out B3.out) (by rw [HDL.out, ← HN.out]; omega))
      have XL := hide' (bodyE_close bs n l (by rw [← HN.out]; exact hbig))
      rw [← HN.out] at XL
      have tl : (bs.drop n).length = N - n := by rw [HDL.out, ← HN.out]
      rw [tl] at CB
      generalize bs.drop n = cs at CB XL tl
      have TL := hide' tl
      have hN3 : n + (N - n) = N := by omega
      clear tl HS
      go_enter Tryz.func32, Tryz.ntmps32
      go_wp2_with fail
      refine CB.out.mono ?_
      rintro e w4 ⟨u, rfl, ho⟩
      obtain ⟨xa, xc, hdv, _⟩ := holdsB_own ho
      rw [TL.out] at hdv
      subst hdv
      have HO := hide' ho
      have B4 := hide' (bt' B3.out ho.2)
      have M4 := hide' (cells_below M3.out ho.2)
      have Z4 := hide' (cells_below Z3'.out ho.2)
      obtain ⟨⟨mc0, mc1, mc2, mc3, mc4, mc5, mc6, mc7, mc8, mc9⟩, ⟨mf0, mf1, mf2, mf3, mf4, mf5, mf6, mf7, mf8, mf9⟩⟩ := cells_ten M4.out
      have M5 := cells_set M4.out (j := 8) (by simp) (.slice xa (N - n) xc)
      have hne : w.heap.size + 2 ≠ w.heap.size := by omega
      have Z5 := cells_other Z4.out hne (o := 8) (.slice xa (N - n) xc)
      have B5 := hide' (B4.out.setCell (p := ⟨w.heap.size, 8, none⟩) (Nat.le_refl _) (.slice xa (N - n) xc))
      have hb9 : w.heap.size < (((w.alloc (.cells #[.string xm, .string xt, .int .i64 xk, .slice xl xln xlc, .int .i64 ys, .string yr, .int .i64 yk, .slice yl yln ylc, .slice none 0 0, .slice none 0 0] 31)).alloc (.cells #[.int .i64 3, .int .i64 l] 60)).alloc (.cells #[.string ⟨#[]⟩, .string ⟨#[]⟩, .int .i64 0, .slice none 0 0, .int .i64 0, .string ⟨#[]⟩, .int .i64 0, .slice none 0 0, .slice none 0 0, .slice none 0 0] 31)).heap.size := by rw [sz3.out]; omega
      have hb10 : w.heap.size + 2 < (((w.alloc (.cells #[.string xm, .string xt, .int .i64 xk, .slice xl xln xlc, .int .i64 ys, .string yr, .int .i64 yk, .slice yl yln ylc, .slice none 0 0, .slice none 0 0] 31)).alloc (.cells #[.int .i64 3, .int .i64 l] 60)).alloc (.cells #[.string ⟨#[]⟩, .string ⟨#[]⟩, .int .i64 0, .slice none 0 0, .int .i64 0, .string ⟨#[]⟩, .int .i64 0, .slice none 0 0, .slice none 0 0, .slice none 0 0] 31)).heap.size := by rw [sz3.out]; omega
      have O5 := hide' (row_poke (o := 8) (x := .slice xa (N - n) xc) HO.out.1 hb9)
      obtain ⟨⟨pc0, pc1, pc2, pc3, pc4, pc5, pc6, pc7, pc8, pc9⟩, _⟩ := cells_ten M5
      obtain ⟨⟨xc0, xc1, xc2, xc3, xc4, xc5, xc6, xc7, xc8, xc9⟩, ⟨xf0, xf1, xf2, xf3, xf4, xf5, xf6, xf7, xf8, xf9⟩⟩ := cells_ten Z5
      have Z5' := hide' Z5
      have HB10 := hide' hb10
      clear M5 Z5 ho hb9 hb10
      go_wp2_with fail
      have q := cells_put Z5'.out [.string xm, .string xt, .int .i64 xk, .slice xl xln xlc, .int .i64 ys, .string yr, .int .i64 yk, .slice yl yln ylc, .slice xa (N - n) xc, .slice none 0 0] rfl
      have qb := put_below (Nat.le_add_right w.heap.size 2) [.string xm, .string xt, .int .i64 xk, .slice xl xln xlc, .int .i64 ys, .string yr, .int .i64 yk, .slice yl yln ylc, .slice xa (N - n) xc, .slice none 0 0] 0 _ B5.out
      have qo := row_putFrom HB10.out [.string xm, .string xt, .int .i64 xk, .slice xl xln xlc, .int .i64 ys, .string yr, .int .i64 yk, .slice yl yln ylc, .slice xa (N - n) xc, .slice none 0 0] 0 _ O5.out
      rw [put_ten] at q qb qo
      obtain ⟨⟨yc0, yc1, yc2, yc3, yc4, yc5, yc6, yc7, yc8, yc9⟩, _⟩ := cells_ten q
      refine bodyPost_ret (v := tellV (.agg #[.string xm, .string xt, .int .i64 xk, .slice xl xln xlc, .int .i64 ys, .string yr, .int .i64 yk, .slice yl yln ylc, .slice xa (N - n) xc, .slice none 0 0]) (n + (N - n)) 0) (by simp [results, Tryz.results32, go_sem, tellV, yc0, yc1, yc2, yc3, yc4, yc5, yc6, yc7, yc8, yc9]) rfl ⟨qb, .inr ?_⟩
      rw [XL.out, hN3]
      exact ⟨rfl, by simp only; omega, _, _, rfl, ⟨row_base qo (by rw [sz3.out]; omega), qb⟩, ownF_nil _ _ qb⟩
theorem withBodyC (xm xt : ByteArray) (xk : Int) (xl : Option Addr) (xln xlc : Nat) (ys : Int) (yr : ByteArray) (yk : Int) (yl : Option Addr) (yln ylc : Nat) (v : Value) (bs : List UInt8) (n : Nat) (k l : Int) (ended : Bool) (w : World) (hv : HoldsB w v bs) (hn : n ≤ bs.length) (hn0 : 0 < n) (E : Env w) (R : Er w) (hs : bs.length < 4294967281) (hk : Kind (k, l, 0)) :
    Calls Tryz.prog 32 #[.agg #[.string xm, .string xt, .int .i64 xk, .slice xl xln xlc, .int .i64 ys, .string yr, .int .i64 yk, .slice yl yln ylc, .slice none 0 0, .slice none 0 0], v, .int .i64 (n : Int), .agg #[.int .i64 k, .int .i64 l], .bool ended] w fun e w' => AnsB w (.string xm) (.string xt) (.int .i64 xk) (.slice xl xln xlc) (.int .i64 ys) (.string yr) (.int .i64 yk) (.slice yl yln ylc) (bodyE bs n k l ended) e w' := by
  rcases hk with hk | ⟨hk, l', hl, hlb⟩ | hk | hk
  · simp only at hk; subst hk; exact wbNone xm xt xk xl xln xlc ys yr yk yl yln ylc v bs n l ended w hv hn hn0 E R hs
  · simp only at hk hl; subst hk hl; exact wbLen xm xt xk xl xln xlc ys yr yk yl yln ylc v bs n l' ended w hv hn hn0 E R hs hlb
  · simp only at hk; subst hk; exact wbChunks xm xt xk xl xln xlc ys yr yk yl yln ylc v bs n l ended w hv hn hn0 E R hs
  · simp only at hk; subst hk; exact wbClose xm xt xk xl xln xlc ys yr yk yl yln ylc v bs n l ended w hv hn hn0 E R hs
end Go.Proofs.YtmikgpmnffdnnaaGreatDoor
