/- The contract of inbox.Request. -/
import Derived.Test.YtmikgpmnffdnnaaGreatDoorInD
import Derived.Test.YtmikgpmnffdnnaaGreatDoorInM
import Derived.Test.YtmikgpmnffdnnaaGreatDoorHdI
namespace Go.Proofs.YtmikgpmnffdnnaaGreatDoor
open Go.RowKit
set_option maxRecDepth 20000 in
set_option maxHeartbeats 8000000 in
theorem msgC (v : Value) (bs : List UInt8) (w : World) (hv : HoldsB w v bs) (E : Env w) (R : Er w) (hs : bs.length < 4294967281) :
    Calls Tryz.prog 11 #[v] w fun e w' => AnsQ w (msgQ bs) e w' := by
  have b0 := below_alloc' w (.cells #[.string ⟨#[]⟩, .string ⟨#[]⟩, .int .i64 0, .slice none 0 0, .int .i64 0, .string ⟨#[]⟩, .int .i64 0, .slice none 0 0, .slice none 0 0, .slice none 0 0] 31)
  have Z0 := hide' (cells_lit w #[.string ⟨#[]⟩, .string ⟨#[]⟩, .int .i64 0, .slice none 0 0, .int .i64 0, .string ⟨#[]⟩, .int .i64 0, .slice none 0 0, .slice none 0 0, .slice none 0 0] 31)
  have B0 := hide' b0
  have sz0 := hide' (show (w.alloc (.cells #[.string ⟨#[]⟩, .string ⟨#[]⟩, .int .i64 0, .slice none 0 0, .int .i64 0, .string ⟨#[]⟩, .int .i64 0, .slice none 0 0, .slice none 0 0, .slice none 0 0] 31)).heap.size = w.heap.size + 1 by simp)
  have EV := hide' E
  have RV := hide' R
  have HV := hide' hv
  have cQ := reqC v bs _ (holdsB_mono hv b0) (env_below E b0) hs
  have hb := req_bulk bs
  have hh := req_host bs
  have e1 := @msgQ_none bs
  have e2 := @msgQ_rule bs
  have e3 := fun h h2 => @msgQ_bodyE bs h h2 false
  have hz := req_zero bs
  have ht : 0 < (reqOf bs).2.1 → (reqOf bs).2.2 = 0 := fun h => by obtain ⟨_, _, _, h, _⟩ := req_told bs h; exact h
  obtain ⟨⟨⟨mt, tg, k, fs⟩, n, er⟩, hq⟩ : ∃ q, q = reqOf bs := ⟨_, rfl⟩
  rw [← hq] at cQ hb hh e1 e2 e3 hz ht
  unfold reqV rqV at cQ
  simp only at cQ hb hh e1 e2 e3 hz ht
  have hkd := req_kind k fs
  have cO := hide' (fun W (u : Value) (h : HoldsF W u fs) (hE : Er W) => ofReqTok mt tg k fs u W h (by omega) hE)
  generalize ruleOf k fs 0 = Q at cO e2 e3 hkd
  obtain ⟨x1, x2, x3⟩ := Q
  unfold ansV at cO
  simp only at cO e2 e3 hkd
  have CQ := hide' cQ
  have E1 := hide' e1
  have E2 := hide' e2
  have E3 := hide' e3
  have HH := hide' hh
  have HT := hide' ht
  have HK := hide' hkd
  obtain ⟨ao, cap, rfl, h0, hcp, _⟩ := hv
  clear b0 E R cQ e1 e2 e3 hz hq hh h0 ht hkd
  go_enter Tryz.func11, Tryz.ntmps11
  go_wp2_with fail
  refine CQ.out.mono ?_
  rintro e w1 ⟨lv, rfl, ho⟩
  have B1 := hide' (bt' B0.out ho.2)
  have Z1 := hide' (cells_below Z0.out ho.2)
  have F1 := hide' (holdsF_own ho)
  have O1 := hide' ho
  obtain ⟨la, lc, lb, lo, hu, _⟩ := holdsF_parts F1.out
  subst hu
  have b2 := below_alloc' w1 (.cells #[.string ⟨mt.toArray⟩, .string ⟨tg.toArray⟩, .int .i64 k, .slice la fs.length lc] 27)
  have Q2 := hide' (quad_lit w1 (.string ⟨mt.toArray⟩) (.string ⟨tg.toArray⟩) (.int .i64 k) (.slice la fs.length lc) 27)
  have B2 := hide' (bt' B1.out b2)
  have Z2 := hide' (cells_below Z1.out b2)
  have F2 := hide' (holdsF_mono F1.out b2)
  have O2 := hide' (ownF_keep O1.out b2)
  clear ho b2 CQ F1 O1 B0 Z0
  by_cases h2 : n = 0
  · subst h2
    obtain ⟨⟨zc0, zc1, zc2, zc3, zc4, zc5, zc6, zc7, zc8, zc9⟩, ⟨zf0, zf1, zf2, zf3, zf4, zf5, zf6, zf7, zf8, zf9⟩⟩ := cells_ten Z2.out
    go_wp2_with fail
    have q := cells_put Z2.out [.string ⟨#[]⟩, .string ⟨#[]⟩, .int .i64 0, .slice none 0 0, .int .i64 0, .string ⟨#[]⟩, .int .i64 0, .slice none 0 0, .slice none 0 0, .slice none 0 0] rfl
    have qb := put_below (Nat.le_refl w.heap.size) [.string ⟨#[]⟩, .string ⟨#[]⟩, .int .i64 0, .slice none 0 0, .int .i64 0, .string ⟨#[]⟩, .int .i64 0, .slice none 0 0, .slice none 0 0, .slice none 0 0] 0 _ B2.out
    rw [put_ten] at q qb
    obtain ⟨⟨yc0, yc1, yc2, yc3, yc4, yc5, yc6, yc7, yc8, yc9⟩, _⟩ := cells_ten q
    refine bodyPost_ret (v := tellV mzV 0 er) (by simp [results, Tryz.results11, go_sem, tellV, mzV, yc0, yc1, yc2, yc3, yc4, yc5, yc6, yc7, yc8, yc9]) rfl ?_
    rw [E1.out (by simp)]
    exact ansQ_none er qb
  · have hz' : ((n : Int) == 0) = false := by simp; omega
    have her : er = 0 := HT.out (by omega)
    subst her
    have hnb := (HH.out (by omega)).2.1
    have hn8 := (HH.out (by omega)).1
    obtain ⟨i0, i1, i2, i3, _⟩ := Q2.out
    go_wp2_with fail
    refine (cO.out _ _ F2.out (er_below RV.out B2.out)).mono ?_
    rintro e w3 ⟨rfl, b3⟩
    have B3 := hide' (bt' B2.out b3)
    have Z3 := hide' (cells_below Z2.out b3)
    have Q3 := hide' (quad_below Q2.out b3)
    have O3 := hide' (ownF_keep O2.out b3)
    have b4 := below_alloc' w3 (.cells #[.int .i64 x1, .int .i64 x2] 60)
    have D4 := hide' (duo_lit w3 (.int .i64 x1) (.int .i64 x2) 60)
    have B4 := hide' (bt' B3.out b4)
    have Z4 := hide' (cells_below Z3.out b4)
    have Q4 := hide' (quad_below Q3.out b4)
    have O4 := hide' (ownF_keep O3.out b4)
    clear b3 b4 cO i0 i1 i2 i3 Q2 Q3 F2 O2 O3 Z2 Z3
    by_cases h3 : x3 = 0
    · subst h3
      have CW := hide' (withBodyC ⟨mt.toArray⟩ ⟨tg.toArray⟩ k la fs.length lc 0 ⟨#[]⟩ 0 none 0 0 _ bs n x1 x2 false _ (holdsB_mono HV.out B4.out) hnb (by omega) (env_below EV.out B4.out) (er_below RV.out B4.out) hs (HK.out rfl).1)
      have EE := hide' (E3.out (by omega) (by simp))
      obtain ⟨i0, i1, i2, i3, _⟩ := Q4.out
      obtain ⟨j0, j1, _⟩ := D4.out
      go_wp2_with fail
      refine CW.out.mono ?_
      rintro e w5 ⟨b5, h5⟩
      have B5 := hide' (bt' B4.out b5)
      have Z5 := hide' (cells_below Z4.out b5)
      have O5 := hide' (ownF_keep O4.out b5)
      clear i0 i1 i2 i3 j0 j1 CW Q4 D4
      obtain ⟨⟨zc0, zc1, zc2, zc3, zc4, zc5, zc6, zc7, zc8, zc9⟩, ⟨zf0, zf1, zf2, zf3, zf4, zf5, zf6, zf7, zf8, zf9⟩⟩ := cells_ten Z5.out
      rcases h5 with ⟨h6, rfl⟩ | ⟨h6, h7, bv, tv, rfl, oB, oF⟩
      · have RR : msgQ bs = (Rq.zero, [], [], 0, (bodyE bs n x1 x2 false).2.2.2) := by
          rw [EE.out]; unfold joinM; rw [if_pos h6]
        have RH := hide' RR
        generalize (bodyE bs n x1 x2 false).2.2.2 = er at RH
        unfold tellV mzV
        clear h6 RR EE b5
        go_wp2_with fail
        have q := cells_put Z5.out [.string ⟨#[]⟩, .string ⟨#[]⟩, .int .i64 0, .slice none 0 0, .int .i64 0, .string ⟨#[]⟩, .int .i64 0, .slice none 0 0, .slice none 0 0, .slice none 0 0] rfl
        have qb := put_below (Nat.le_refl w.heap.size) [.string ⟨#[]⟩, .string ⟨#[]⟩, .int .i64 0, .slice none 0 0, .int .i64 0, .string ⟨#[]⟩, .int .i64 0, .slice none 0 0, .slice none 0 0, .slice none 0 0] 0 _ B5.out
        rw [put_ten] at q qb
        obtain ⟨⟨yc0, yc1, yc2, yc3, yc4, yc5, yc6, yc7, yc8, yc9⟩, _⟩ := cells_ten q
        refine bodyPost_ret (v := tellV mzV 0 er) (by simp [results, Tryz.results11, go_sem, tellV, mzV, yc0, yc1, yc2, yc3, yc4, yc5, yc6, yc7, yc8, yc9]) rfl ?_
        rw [RH.out]
        exact ansQ_none er qb
      · have RR : msgQ bs = (⟨mt, tg, k, fs⟩, (bodyE bs n x1 x2 false).1, (bodyE bs n x1 x2 false).2.1, (bodyE bs n x1 x2 false).2.2.1, 0) := by
          rw [EE.out]; unfold joinM; rw [if_neg (by omega)]
        have RH := hide' RR
        generalize bodyE bs n x1 x2 false = X at RH oB oF h6 h7
        obtain ⟨xd, xf, xn, xe⟩ := X
        simp only at RH oB oF h6 h7
        obtain ⟨xa, xc, hbv, _⟩ := holdsB_own oB
        obtain ⟨ya, yc, yb, yo, htv, _⟩ := holdsF_parts (holdsF_own oF)
        subst hbv htv
        have OBr := hide' oB.1
        have OFr := hide' oF.1
        unfold tellV
        clear h6 h7 RR EE b5 oB oF
        go_wp2_with fail
        have q := cells_put Z5.out [.string ⟨mt.toArray⟩, .string ⟨tg.toArray⟩, .int .i64 k, .slice la fs.length lc, .int .i64 0, .string ⟨#[]⟩, .int .i64 0, .slice none 0 0, .slice xa xd.length xc, .slice ya xf.length yc] rfl
        have qb := put_below (Nat.le_refl w.heap.size) [.string ⟨mt.toArray⟩, .string ⟨tg.toArray⟩, .int .i64 k, .slice la fs.length lc, .int .i64 0, .string ⟨#[]⟩, .int .i64 0, .slice none 0 0, .slice xa xd.length xc, .slice ya xf.length yc] 0 _ B5.out
        have qB := row_putFrom Z4.out.2 [.string ⟨mt.toArray⟩, .string ⟨tg.toArray⟩, .int .i64 k, .slice la fs.length lc, .int .i64 0, .string ⟨#[]⟩, .int .i64 0, .slice none 0 0, .slice xa xd.length xc, .slice ya xf.length yc] 0 _ OBr.out
        have qF := row_putFrom Z4.out.2 [.string ⟨mt.toArray⟩, .string ⟨tg.toArray⟩, .int .i64 k, .slice la fs.length lc, .int .i64 0, .string ⟨#[]⟩, .int .i64 0, .slice none 0 0, .slice xa xd.length xc, .slice ya xf.length yc] 0 _ OFr.out
        have qL := row_putFrom (b := w.heap.size) (by rw [sz0.out]; omega) [.string ⟨mt.toArray⟩, .string ⟨tg.toArray⟩, .int .i64 k, .slice la fs.length lc, .int .i64 0, .string ⟨#[]⟩, .int .i64 0, .slice none 0 0, .slice xa xd.length xc, .slice ya xf.length yc] 0 _ O5.out.1
        rw [put_ten] at q qb qB qF qL
        obtain ⟨⟨yc0, yc1, yc2, yc3, yc4, yc5, yc6, yc7, yc8, yc9⟩, _⟩ := cells_ten q
        refine bodyPost_ret (v := tellV (mqV ⟨mt, tg, k, fs⟩ (.slice la fs.length lc) (.slice xa xd.length xc) (.slice ya xf.length yc)) xn 0) (by simp [results, Tryz.results11, go_sem, tellV, mqV, yc0, yc1, yc2, yc3, yc4, yc5, yc6, yc7, yc8, yc9]) rfl ?_
        rw [RH.out]
        exact ⟨_, _, _, rfl, ⟨row_base qL (by rw [sz0.out]; omega), qb⟩, ⟨row_base qB (Nat.le_of_lt Z4.out.2), qb⟩, ⟨row_base qF (Nat.le_of_lt Z4.out.2), qb⟩⟩
    · have h3' : (x3 != 0) = true := by simpa using h3
      have EE := hide' (E2.out (by omega) h3)
      obtain ⟨⟨zc0, zc1, zc2, zc3, zc4, zc5, zc6, zc7, zc8, zc9⟩, ⟨zf0, zf1, zf2, zf3, zf4, zf5, zf6, zf7, zf8, zf9⟩⟩ := cells_ten Z4.out
      go_wp2_with fail
      have q := cells_put Z4.out [.string ⟨#[]⟩, .string ⟨#[]⟩, .int .i64 0, .slice none 0 0, .int .i64 0, .string ⟨#[]⟩, .int .i64 0, .slice none 0 0, .slice none 0 0, .slice none 0 0] rfl
      have qb := put_below (Nat.le_refl w.heap.size) [.string ⟨#[]⟩, .string ⟨#[]⟩, .int .i64 0, .slice none 0 0, .int .i64 0, .string ⟨#[]⟩, .int .i64 0, .slice none 0 0, .slice none 0 0, .slice none 0 0] 0 _ B4.out
      rw [put_ten] at q qb
      obtain ⟨⟨yc0, yc1, yc2, yc3, yc4, yc5, yc6, yc7, yc8, yc9⟩, _⟩ := cells_ten q
      refine bodyPost_ret (v := tellV mzV 0 x3) (by simp [results, Tryz.results11, go_sem, tellV, mzV, yc0, yc1, yc2, yc3, yc4, yc5, yc6, yc7, yc8, yc9]) rfl ?_
      rw [EE.out]
      exact ansQ_none x3 qb
end Go.Proofs.YtmikgpmnffdnnaaGreatDoor
