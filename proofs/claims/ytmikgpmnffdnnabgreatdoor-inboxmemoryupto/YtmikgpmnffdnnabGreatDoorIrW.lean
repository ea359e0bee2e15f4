/- The contract of the document's Response. -/
import Derived.Test.YtmikgpmnffdnnabGreatDoorInU
import Derived.Test.YtmikgpmnffdnnabGreatDoorIrM
import Derived.Test.YtmikgpmnffdnnabGreatDoorHdU
import Derived.Test.YtmikgpmnffdnnabGreatDoorBn
namespace Go.Proofs.YtmikgpmnffdnnabGreatDoor
open Go.RowKit
theorem msgR_err {b m : List UInt8} {ended : Bool} (h : (respOf b).2.2 ≠ 0) : msgR b m ended = (Rs.zero, [], [], 0, (respOf b).2.2) := by unfold msgR; rw [if_pos h]
theorem msgR_cut {b m : List UInt8} {ended : Bool} (h : (respOf b).2.2 = 0) (h2 : (respOf b).2.1 = 0) : msgR b m ended = (Rs.zero, [], [], 0, cutE ended) := by unfold msgR; rw [if_neg (by simpa using h), if_pos h2]
theorem msgR_rest {b m : List UInt8} {ended : Bool} (h : (respOf b).2.2 = 0) (h2 : ¬ (respOf b).2.1 = 0) : msgR b m ended = respM b (respOf b).1 (respOf b).2.1 (fresOf (respOf b).1.s (respOf b).1.k (respOf b).1.fs m) ended := by unfold msgR; rw [if_neg (by simpa using h), if_neg h2]
theorem respM_rule {b : List UInt8} {r : Rs} {n : Nat} {q : Int × Int × Int} {ended : Bool} (h : q.2.2 ≠ 0) : respM b r n q ended = (Rs.zero, [], [], 0, q.2.2) := by unfold respM; rw [if_pos h]
theorem respM_big {b : List UInt8} {r : Rs} {n : Nat} {l : Int} {ended : Bool} (h2 : 65536 < b.length - n) : respM b r n (3, l, 0) ended = (Rs.zero, [], [], 0, 71) := by unfold respM; rw [if_neg (by simp), if_pos rfl, if_pos h2]
theorem respM_open {b : List UInt8} {r : Rs} {n : Nat} {l : Int} (h2 : ¬ 65536 < b.length - n) : respM b r n (3, l, 0) false = (Rs.zero, [], [], 0, 0) := by unfold respM; rw [if_neg (by simp), if_pos rfl, if_neg h2]; rfl
theorem respM_close {b : List UInt8} {r : Rs} {n : Nat} {l : Int} (h2 : ¬ 65536 < b.length - n) : respM b r n (3, l, 0) true = (r, b.drop n, [], b.length, 0) := by unfold respM; rw [if_neg (by simp), if_pos rfl, if_neg h2]; rfl
theorem respM_body {b : List UInt8} {r : Rs} {n : Nat} {k l : Int} {ended : Bool} (h : k ≠ 3) : respM b r n (k, l, 0) ended = if (bodyM b n k l).2.2.2 ≠ 0 then (Rs.zero, [], [], 0, (bodyM b n k l).2.2.2) else if (bodyM b n k l).2.2.1 = 0 then (Rs.zero, [], [], 0, cutE ended) else (r, (bodyM b n k l).1, (bodyM b n k l).2.1, (bodyM b n k l).2.2.1, 0) := by unfold respM; rw [if_neg (by simp), if_neg h]
set_option maxRecDepth 100000 in
set_option maxHeartbeats 8000000 in
theorem msrRefT (v : Value) (bs : List UInt8) (me : List UInt8) (w : World) (hv : HoldsB w v bs) (hs : bs.length < 4294967281) :
    Calls Tryz.prog 11 #[v, .string ⟨me.toArray⟩, .bool true] w fun e w' => AnsR w (msgR bs me true) e w' := by
  have b0 := below_alloc' w (.cells #[.string ⟨#[]⟩, .string ⟨#[]⟩, .int .i64 0, .slice none 0 0, .int .i64 0, .string ⟨#[]⟩, .int .i64 0, .slice none 0 0, .slice none 0 0, .slice none 0 0] 30)
  have Z0 := hide' (cells_lit w #[.string ⟨#[]⟩, .string ⟨#[]⟩, .int .i64 0, .slice none 0 0, .int .i64 0, .string ⟨#[]⟩, .int .i64 0, .slice none 0 0, .slice none 0 0, .slice none 0 0] 30)
  have B0 := hide' b0
  have sz0 := hide' (show (w.alloc (.cells #[.string ⟨#[]⟩, .string ⟨#[]⟩, .int .i64 0, .slice none 0 0, .int .i64 0, .string ⟨#[]⟩, .int .i64 0, .slice none 0 0, .slice none 0 0, .slice none 0 0] 30)).heap.size = w.heap.size + 1 by simp)
  have HV := hide' hv
  have cQ := refResp v bs _ (holdsB_mono hv b0) hs
  have hb := resp_bulk bs
  have hh := resp_host bs
  have e1 := @msgR_err bs me true
  have e2 := @msgR_cut bs me true
  have e3 := @msgR_rest bs me true
  obtain ⟨⟨⟨s, rs, k, fs⟩, n, er⟩, hq⟩ : ∃ q, q = respOf bs := ⟨_, rfl⟩
  rw [← hq] at cQ hb hh e1 e2 e3
  unfold respV rsV at cQ
  simp only at cQ hb hh e1 e2 e3
  have hkd := fres_kind s k fs me
  have cO := hide' (fun W (u : Value) (h : HoldsF W u fs) => ofResRef s k rs me fs u W h (by omega))
  generalize fresOf s k fs me = Q at cO e3 hkd
  obtain ⟨x1, x2, x3⟩ := Q
  unfold ansV at cO
  simp only at cO hkd
  have CQ := hide' cQ
  have E1 := hide' e1
  have E2 := hide' e2
  have E3' := hide' e3
  have HH := hide' hh
  have HK := hide' hkd
  obtain ⟨ao, cap, rfl, h0, hcp, _⟩ := hv
  clear b0 cQ e1 e2 e3 hq hh h0 hkd
  go_enter Tryz.func11, Tryz.ntmps11
  go_wp2_with fail
  refine CQ.out.mono ?_
  rintro e w1 ⟨lv, rfl, ho⟩
  have B1 := hide' (bt' B0.out ho.2)
  have Z1 := hide' (cells_below Z0.out ho.2)
  have HW1 := hide' Z1.out.2
  have F1 := hide' (holdsF_own ho)
  have O1 := hide' ho
  obtain ⟨la, lc, lb, lo, hu, _⟩ := holdsF_parts F1.out
  subst hu
  have b2 := below_alloc' w1 (.cells #[.int .i64 s, .string ⟨rs.toArray⟩, .int .i64 k, .slice la fs.length lc] 28)
  have Q2 := hide' (quad_lit w1 (.int .i64 s) (.string ⟨rs.toArray⟩) (.int .i64 k) (.slice la fs.length lc) 28)
  have B2 := hide' (bt' B1.out b2)
  have Z2 := hide' (cells_below Z1.out b2)
  have F2 := hide' (holdsF_mono F1.out b2)
  have O2 := hide' (ownF_keep O1.out b2)
  clear ho b2 CQ F1 O1 B0 Z0
  by_cases hee : er = 0
  case neg =>
    have hee' : (er == 0) = false := by simpa using hee
    have hee'' : (er != 0) = true := by simpa using hee
    obtain ⟨⟨zc0, zc1, zc2, zc3, zc4, zc5, zc6, zc7, zc8, zc9⟩, ⟨zf0, zf1, zf2, zf3, zf4, zf5, zf6, zf7, zf8, zf9⟩⟩ := cells_ten Z2.out
    go_wp2_with fail
    have q := cells_put Z2.out [.string ⟨#[]⟩, .string ⟨#[]⟩, .int .i64 0, .slice none 0 0, .int .i64 0, .string ⟨#[]⟩, .int .i64 0, .slice none 0 0, .slice none 0 0, .slice none 0 0] rfl
    have qb := put_below (Nat.le_refl w.heap.size) [.string ⟨#[]⟩, .string ⟨#[]⟩, .int .i64 0, .slice none 0 0, .int .i64 0, .string ⟨#[]⟩, .int .i64 0, .slice none 0 0, .slice none 0 0, .slice none 0 0] 0 _ B2.out
    rw [put_ten] at q qb
    obtain ⟨⟨yc0, yc1, yc2, yc3, yc4, yc5, yc6, yc7, yc8, yc9⟩, _⟩ := cells_ten q
    refine bodyPost_ret (v := tellV mzV 0 er) (by simp [results, Tryz.results11, go_sem, tellV, mzV, yc0, yc1, yc2, yc3, yc4, yc5, yc6, yc7, yc8, yc9]) rfl ?_
    rw [E1.out hee]
    exact ansR_none er qb
  subst hee
  by_cases h2 : n = 0
  · subst h2
    obtain ⟨⟨zc0, zc1, zc2, zc3, zc4, zc5, zc6, zc7, zc8, zc9⟩, ⟨zf0, zf1, zf2, zf3, zf4, zf5, zf6, zf7, zf8, zf9⟩⟩ := cells_ten Z2.out
    go_wp2_with fail
    have q := cells_put Z2.out [.string ⟨#[]⟩, .string ⟨#[]⟩, .int .i64 0, .slice none 0 0, .int .i64 0, .string ⟨#[]⟩, .int .i64 0, .slice none 0 0, .slice none 0 0, .slice none 0 0] rfl
    have qb := put_below (Nat.le_refl w.heap.size) [.string ⟨#[]⟩, .string ⟨#[]⟩, .int .i64 0, .slice none 0 0, .int .i64 0, .string ⟨#[]⟩, .int .i64 0, .slice none 0 0, .slice none 0 0, .slice none 0 0] 0 _ B2.out
    rw [put_ten] at q qb
    obtain ⟨⟨yc0, yc1, yc2, yc3, yc4, yc5, yc6, yc7, yc8, yc9⟩, _⟩ := cells_ten q
    refine bodyPost_ret (v := tellV mzV 0 80) (by simp [results, Tryz.results11, go_sem, tellV, mzV, yc0, yc1, yc2, yc3, yc4, yc5, yc6, yc7, yc8, yc9]) rfl ?_
    rw [E2.out (by simp) (by simp), show cutE true = 80 from rfl]
    exact ansR_none 80 qb
  · have hz' : ((n : Int) == 0) = false := by simp; omega
    have hnb := (HH.out (by omega)).2
    have hn8 := (HH.out (by omega)).1
    have E3 := hide' (E3'.out (by simp) h2)
    obtain ⟨i0, i1, i2, i3, _⟩ := Q2.out
    go_wp2_with fail
    refine (cO.out _ _ F2.out).mono ?_
    rintro e w3 ⟨rfl, b3⟩
    have B3 := hide' (bt' B2.out b3)
    have Z3 := hide' (cells_below Z2.out b3)
    have Q3 := hide' (quad_below Q2.out b3)
    have O3 := hide' (ownF_keep O2.out b3)
    have b4 := below_alloc' w3 (.cells #[.int .i64 x1, .int .i64 x2] 48)
    have D4 := hide' (duo_lit w3 (.int .i64 x1) (.int .i64 x2) 48)
    have B4 := hide' (bt' B3.out b4)
    have Z4 := hide' (cells_below Z3.out b4)
    have Q4 := hide' (quad_below Q3.out b4)
    have O4 := hide' (ownF_keep O3.out b4)
    clear b3 b4 cO i0 i1 i2 i3 Q2 Q3 F2 O2 O3 Z2 Z3 E3'
    by_cases h3 : x3 = 0
    case neg =>
      have h3' : (x3 != 0) = true := by simpa using h3
      have h3'' : (x3 == 0) = false := by simpa using h3
      obtain ⟨⟨zc0, zc1, zc2, zc3, zc4, zc5, zc6, zc7, zc8, zc9⟩, ⟨zf0, zf1, zf2, zf3, zf4, zf5, zf6, zf7, zf8, zf9⟩⟩ := cells_ten Z4.out
      go_wp2_with fail
      have q := cells_put Z4.out [.string ⟨#[]⟩, .string ⟨#[]⟩, .int .i64 0, .slice none 0 0, .int .i64 0, .string ⟨#[]⟩, .int .i64 0, .slice none 0 0, .slice none 0 0, .slice none 0 0] rfl
      have qb := put_below (Nat.le_refl w.heap.size) [.string ⟨#[]⟩, .string ⟨#[]⟩, .int .i64 0, .slice none 0 0, .int .i64 0, .string ⟨#[]⟩, .int .i64 0, .slice none 0 0, .slice none 0 0, .slice none 0 0] 0 _ B4.out
      rw [put_ten] at q qb
      obtain ⟨⟨yc0, yc1, yc2, yc3, yc4, yc5, yc6, yc7, yc8, yc9⟩, _⟩ := cells_ten q
      refine bodyPost_ret (v := tellV mzV 0 x3) (by simp [results, Tryz.results11, go_sem, tellV, mzV, yc0, yc1, yc2, yc3, yc4, yc5, yc6, yc7, yc8, yc9]) rfl ?_
      rw [E3.out, respM_rule h3]
      exact ansR_none x3 qb
    subst h3
    obtain ⟨j0, j1, _⟩ := D4.out
    by_cases hx : x1 = 3
    · subst hx
      by_cases hbig : 65536 < bs.length - n
      · have hbig' : (65536 : Int) < (bs.length : Int) - (n : Int) := by omega
        obtain ⟨⟨zc0, zc1, zc2, zc3, zc4, zc5, zc6, zc7, zc8, zc9⟩, ⟨zf0, zf1, zf2, zf3, zf4, zf5, zf6, zf7, zf8, zf9⟩⟩ := cells_ten Z4.out
        go_wp2_with fail
        have q := cells_put Z4.out [.string ⟨#[]⟩, .string ⟨#[]⟩, .int .i64 0, .slice none 0 0, .int .i64 0, .string ⟨#[]⟩, .int .i64 0, .slice none 0 0, .slice none 0 0, .slice none 0 0] rfl
        have qb := put_below (Nat.le_refl w.heap.size) [.string ⟨#[]⟩, .string ⟨#[]⟩, .int .i64 0, .slice none 0 0, .int .i64 0, .string ⟨#[]⟩, .int .i64 0, .slice none 0 0, .slice none 0 0, .slice none 0 0] 0 _ B4.out
        rw [put_ten] at q qb
        obtain ⟨⟨yc0, yc1, yc2, yc3, yc4, yc5, yc6, yc7, yc8, yc9⟩, _⟩ := cells_ten q
        refine bodyPost_ret (v := tellV mzV 0 71) (by simp [results, Tryz.results11, go_sem, tellV, mzV, yc0, yc1, yc2, yc3, yc4, yc5, yc6, yc7, yc8, yc9]) rfl ?_
        rw [E3.out, respM_big hbig]
        exact ansR_none 71 qb
      · have hbig' : ¬ (65536 : Int) < (bs.length : Int) - (n : Int) := by omega
        obtain ⟨⟨zc0, zc1, zc2, zc3, zc4, zc5, zc6, zc7, zc8, zc9⟩, ⟨zf0, zf1, zf2, zf3, zf4, zf5, zf6, zf7, zf8, zf9⟩⟩ := cells_ten Z4.out
        obtain ⟨i0, i1, i2, i3, _⟩ := Q4.out
        have hs3 := hide' (E3.out.trans (respM_close hbig))
        have sl := fun W => from_run ao bs.length cap n hnb hcp W
        have HS := holdsB_suf HV.out n hnb
        have dl : (bs.drop n).length ≤ 4294967281 := by rw [List.length_drop]; omega
        have C := hide' (fun W (h : Below (w3.alloc (.cells #[.int .i64 3, .int .i64 x2] 48)).heap.size (w3.alloc (.cells #[.int .i64 3, .int .i64 x2] 48)) W) => (copyB _ _ W (holdsB_mono HS (bt' B4.out h)) (by omega)).mono (R' := fun e w' => ∃ u, e = .returned u ∧ Hid (Own (w3.alloc (.cells #[.int .i64 3, .int .i64 x2] 48)) u (bs.drop n) w') ∧ w'.cell? ⟨w1.heap.size, 0, none⟩ = some (.int .i64 s) ∧ w'.cell? ⟨w1.heap.size, 1, none⟩ = some (.string ⟨rs.toArray⟩) ∧ w'.cell? ⟨w1.heap.size, 2, none⟩ = some (.int .i64 k) ∧ w'.cell? ⟨w1.heap.size, 3, none⟩ = some (.slice la fs.length lc)) (by
          rintro e w' ⟨u, rfl, ho⟩
          obtain ⟨k0, k1, k2, k3, _⟩ := quad_below Q4.out (bt' h ho.2)
          exact ⟨u, rfl, own_base ho h, k0, k1, k2, k3⟩))
        generalize Lib.fromV ao bs.length cap n = sv at sl C
        obtain ⟨cs, hcs⟩ : ∃ cs, cs = bs.drop n := ⟨_, rfl⟩
        rw [← hcs] at C hs3
        have hne1 : ¬ w.heap.size = w1.heap.size := by have := HW1.out; omega
        have hne2 : ¬ w1.heap.size = w.heap.size := by have := HW1.out; omega
        clear HS dl hcs
        go_wp2_with fail
        go_region_held3 (fun w' => w'.cell? ⟨w1.heap.size, 0, none⟩ = some (.int .i64 s) ∧ w'.cell? ⟨w1.heap.size, 1, none⟩ = some (.string ⟨rs.toArray⟩) ∧ w'.cell? ⟨w1.heap.size, 2, none⟩ = some (.int .i64 k) ∧ w'.cell? ⟨w1.heap.size, 3, none⟩ = some (.slice la fs.length lc)) (go_keep)
          (first
            | (go_at_call 7; refine (C.out _ ?_).mono ?_; (first | exact (Below.refl _ _).drew | exact Below.refl _ _); rintro e w5 ⟨u, rfl, O2, k0, k1, k2, k3⟩; obtain ⟨xa, xc, hu, _⟩ := holdsB_own O2.out; subst hu; have B5 := hide' (bt' B4.out O2.out.2); have Z5 := hide' (cells_below Z4.out O2.out.2); have O5 := hide' (ownF_keep O4.out O2.out.2); have OBr := hide' O2.out.1; obtain ⟨⟨zc0, zc1, zc2, zc3, zc4, zc5, zc6, zc7, zc8, zc9⟩, ⟨zf0, zf1, zf2, zf3, zf4, zf5, zf6, zf7, zf8, zf9⟩⟩ := cells_ten Z5.out))
        all_goals
          go_wp2_with fail
          have q := cells_put Z5.out [.string ⟨#[]⟩, .string ⟨#[]⟩, .int .i64 0, .slice none 0 0, .int .i64 s, .string ⟨rs.toArray⟩, .int .i64 k, .slice la fs.length lc, .slice xa cs.length xc, .slice none 0 0] rfl
          have qb := put_below (Nat.le_refl w.heap.size) [.string ⟨#[]⟩, .string ⟨#[]⟩, .int .i64 0, .slice none 0 0, .int .i64 s, .string ⟨rs.toArray⟩, .int .i64 k, .slice la fs.length lc, .slice xa cs.length xc, .slice none 0 0] 0 _ B5.out
          have qB := row_putFrom Z4.out.2 [.string ⟨#[]⟩, .string ⟨#[]⟩, .int .i64 0, .slice none 0 0, .int .i64 s, .string ⟨rs.toArray⟩, .int .i64 k, .slice la fs.length lc, .slice xa cs.length xc, .slice none 0 0] 0 _ OBr.out
          have qL := row_putFrom (b := w.heap.size) (by rw [sz0.out]; omega) [.string ⟨#[]⟩, .string ⟨#[]⟩, .int .i64 0, .slice none 0 0, .int .i64 s, .string ⟨rs.toArray⟩, .int .i64 k, .slice la fs.length lc, .slice xa cs.length xc, .slice none 0 0] 0 _ O5.out.1
          rw [put_ten] at q qb qB qL
          obtain ⟨⟨yc0, yc1, yc2, yc3, yc4, yc5, yc6, yc7, yc8, yc9⟩, _⟩ := cells_ten q
          refine bodyPost_ret (v := tellV (mrV ⟨s, rs, k, fs⟩ (.slice la fs.length lc) (.slice xa cs.length xc) (.slice none 0 0)) bs.length 0) (by simp [results, Tryz.results11, go_sem, tellV, mrV, yc0, yc1, yc2, yc3, yc4, yc5, yc6, yc7, yc8, yc9]) rfl ?_
          rw [hs3.out]
          exact ⟨_, _, _, rfl, ⟨row_base qL (by rw [sz0.out]; omega), qb⟩, ⟨row_base qB (Nat.le_of_lt Z4.out.2), qb⟩, ownF_nil _ _ qb⟩
    · have hx' : (x1 == 3) = false := by simpa using hx
      have CW := hide' (bodyRef _ bs n x1 x2 _ (holdsB_mono HV.out B4.out) hnb (by omega) hs (HK.out rfl) hx)
      have EE := hide' (E3.out.trans (respM_body hx))
      have hml := body_le bs n x1 x2 hnb
      generalize bodyM bs n x1 x2 = X at CW EE hml
      obtain ⟨xd, xf, xn, xe⟩ := X
      unfold decV at CW
      simp only at CW EE hml
      have HML := hide' hml
      clear hml
      go_wp2_with fail
      refine CW.out.mono ?_
      rintro e w5 ⟨bv, tv, rfl, oB, oF⟩
      have B5 := hide' (bt' B4.out oB.2)
      have Z5 := hide' (cells_below Z4.out oB.2)
      have O5 := hide' (ownF_keep O4.out oB.2)
      have Q5 := hide' (quad_below Q4.out oB.2)
      clear j0 j1 CW Q4 D4
      obtain ⟨⟨zc0, zc1, zc2, zc3, zc4, zc5, zc6, zc7, zc8, zc9⟩, ⟨zf0, zf1, zf2, zf3, zf4, zf5, zf6, zf7, zf8, zf9⟩⟩ := cells_ten Z5.out
      by_cases h5 : xe = 0
      · subst h5
        rw [if_neg (by simp)] at EE
        by_cases h6 : xn = 0
        · subst h6
          have RH := hide' EE.out
          rw [if_pos rfl] at RH
          clear oB oF
          go_wp2_with fail
          have q := cells_put Z5.out [.string ⟨#[]⟩, .string ⟨#[]⟩, .int .i64 0, .slice none 0 0, .int .i64 0, .string ⟨#[]⟩, .int .i64 0, .slice none 0 0, .slice none 0 0, .slice none 0 0] rfl
          have qb := put_below (Nat.le_refl w.heap.size) [.string ⟨#[]⟩, .string ⟨#[]⟩, .int .i64 0, .slice none 0 0, .int .i64 0, .string ⟨#[]⟩, .int .i64 0, .slice none 0 0, .slice none 0 0, .slice none 0 0] 0 _ B5.out
          rw [put_ten] at q qb
          obtain ⟨⟨yc0, yc1, yc2, yc3, yc4, yc5, yc6, yc7, yc8, yc9⟩, _⟩ := cells_ten q
          refine bodyPost_ret (v := tellV mzV 0 80) (by simp [results, Tryz.results11, go_sem, tellV, mzV, yc0, yc1, yc2, yc3, yc4, yc5, yc6, yc7, yc8, yc9]) rfl ?_
          rw [RH.out, show cutE true = 80 from rfl]
          exact ansR_none 80 qb
        · have h6' : ((xn : Int) == 0) = false := by simp; omega
          have RH := hide' EE.out
          rw [if_neg h6] at RH
          obtain ⟨xa, xc, hbv, _⟩ := holdsB_own oB
          obtain ⟨ya, yc, yb, yo, htv, _⟩ := holdsF_parts (holdsF_own oF)
          subst hbv htv
          have OBr := hide' oB.1
          have OFr := hide' oF.1
          obtain ⟨i0, i1, i2, i3, _⟩ := Q5.out
          have hxn := (HML.out (by omega)).2.1
          clear oB oF
          go_wp2_with fail
          have q := cells_put Z5.out [.string ⟨#[]⟩, .string ⟨#[]⟩, .int .i64 0, .slice none 0 0, .int .i64 s, .string ⟨rs.toArray⟩, .int .i64 k, .slice la fs.length lc, .slice xa xd.length xc, .slice ya xf.length yc] rfl
          have qb := put_below (Nat.le_refl w.heap.size) [.string ⟨#[]⟩, .string ⟨#[]⟩, .int .i64 0, .slice none 0 0, .int .i64 s, .string ⟨rs.toArray⟩, .int .i64 k, .slice la fs.length lc, .slice xa xd.length xc, .slice ya xf.length yc] 0 _ B5.out
          have qB := row_putFrom Z4.out.2 [.string ⟨#[]⟩, .string ⟨#[]⟩, .int .i64 0, .slice none 0 0, .int .i64 s, .string ⟨rs.toArray⟩, .int .i64 k, .slice la fs.length lc, .slice xa xd.length xc, .slice ya xf.length yc] 0 _ OBr.out
          have qL := row_putFrom (b := w.heap.size) (by rw [sz0.out]; omega) [.string ⟨#[]⟩, .string ⟨#[]⟩, .int .i64 0, .slice none 0 0, .int .i64 s, .string ⟨rs.toArray⟩, .int .i64 k, .slice la fs.length lc, .slice xa xd.length xc, .slice ya xf.length yc] 0 _ O5.out.1
          have qF := row_putFrom Z4.out.2 [.string ⟨#[]⟩, .string ⟨#[]⟩, .int .i64 0, .slice none 0 0, .int .i64 s, .string ⟨rs.toArray⟩, .int .i64 k, .slice la fs.length lc, .slice xa xd.length xc, .slice ya xf.length yc] 0 _ OFr.out
          rw [put_ten] at q qb qB qL qF
          obtain ⟨⟨yc0, yc1, yc2, yc3, yc4, yc5, yc6, yc7, yc8, yc9⟩, _⟩ := cells_ten q
          refine bodyPost_ret (v := tellV (mrV ⟨s, rs, k, fs⟩ (.slice la fs.length lc) (.slice xa xd.length xc) (.slice ya xf.length yc)) xn 0) (by simp [results, Tryz.results11, go_sem, tellV, mrV, yc0, yc1, yc2, yc3, yc4, yc5, yc6, yc7, yc8, yc9]) rfl ?_
          rw [RH.out]
          exact ⟨_, _, _, rfl, ⟨row_base qL (by rw [sz0.out]; omega), qb⟩, ⟨row_base qB (Nat.le_of_lt Z4.out.2), qb⟩, ⟨row_base qF (Nat.le_of_lt Z4.out.2), qb⟩⟩
      · have h5' : (xe == 0) = false := by simpa using h5
        have h5'' : (xe != 0) = true := by simpa using h5
        have RH := hide' EE.out
        rw [if_pos h5] at RH
        clear oB oF
        go_wp2_with fail
        have q := cells_put Z5.out [.string ⟨#[]⟩, .string ⟨#[]⟩, .int .i64 0, .slice none 0 0, .int .i64 0, .string ⟨#[]⟩, .int .i64 0, .slice none 0 0, .slice none 0 0, .slice none 0 0] rfl
        have qb := put_below (Nat.le_refl w.heap.size) [.string ⟨#[]⟩, .string ⟨#[]⟩, .int .i64 0, .slice none 0 0, .int .i64 0, .string ⟨#[]⟩, .int .i64 0, .slice none 0 0, .slice none 0 0, .slice none 0 0] 0 _ B5.out
        rw [put_ten] at q qb
        obtain ⟨⟨yc0, yc1, yc2, yc3, yc4, yc5, yc6, yc7, yc8, yc9⟩, _⟩ := cells_ten q
        refine bodyPost_ret (v := tellV mzV 0 xe) (by simp [results, Tryz.results11, go_sem, tellV, mzV, yc0, yc1, yc2, yc3, yc4, yc5, yc6, yc7, yc8, yc9]) rfl ?_
        rw [RH.out]
        exact ansR_none xe qb
set_option maxRecDepth 100000 in
set_option maxHeartbeats 8000000 in
theorem msrRefF (v : Value) (bs : List UInt8) (me : List UInt8) (w : World) (hv : HoldsB w v bs) (hs : bs.length < 4294967281) :
    Calls Tryz.prog 11 #[v, .string ⟨me.toArray⟩, .bool false] w fun e w' => AnsR w (msgR bs me false) e w' := by
  have b0 := below_alloc' w (.cells #[.string ⟨#[]⟩, .string ⟨#[]⟩, .int .i64 0, .slice none 0 0, .int .i64 0, .string ⟨#[]⟩, .int .i64 0, .slice none 0 0, .slice none 0 0, .slice none 0 0] 30)
  have Z0 := hide' (cells_lit w #[.string ⟨#[]⟩, .string ⟨#[]⟩, .int .i64 0, .slice none 0 0, .int .i64 0, .string ⟨#[]⟩, .int .i64 0, .slice none 0 0, .slice none 0 0, .slice none 0 0] 30)
  have B0 := hide' b0
  have sz0 := hide' (show (w.alloc (.cells #[.string ⟨#[]⟩, .string ⟨#[]⟩, .int .i64 0, .slice none 0 0, .int .i64 0, .string ⟨#[]⟩, .int .i64 0, .slice none 0 0, .slice none 0 0, .slice none 0 0] 30)).heap.size = w.heap.size + 1 by simp)
  have HV := hide' hv
  have cQ := refResp v bs _ (holdsB_mono hv b0) hs
  have hb := resp_bulk bs
  have hh := resp_host bs
  have e1 := @msgR_err bs me false
  have e2 := @msgR_cut bs me false
  have e3 := @msgR_rest bs me false
  obtain ⟨⟨⟨s, rs, k, fs⟩, n, er⟩, hq⟩ : ∃ q, q = respOf bs := ⟨_, rfl⟩
  rw [← hq] at cQ hb hh e1 e2 e3
  unfold respV rsV at cQ
  simp only at cQ hb hh e1 e2 e3
  have hkd := fres_kind s k fs me
  have cO := hide' (fun W (u : Value) (h : HoldsF W u fs) => ofResRef s k rs me fs u W h (by omega))
  generalize fresOf s k fs me = Q at cO e3 hkd
  obtain ⟨x1, x2, x3⟩ := Q
  unfold ansV at cO
  simp only at cO hkd
  have CQ := hide' cQ
  have E1 := hide' e1
  have E2 := hide' e2
  have E3' := hide' e3
  have HH := hide' hh
  have HK := hide' hkd
  obtain ⟨ao, cap, rfl, h0, hcp, _⟩ := hv
  clear b0 cQ e1 e2 e3 hq hh h0 hkd
  go_enter Tryz.func11, Tryz.ntmps11
  go_wp2_with fail
  refine CQ.out.mono ?_
  rintro e w1 ⟨lv, rfl, ho⟩
  have B1 := hide' (bt' B0.out ho.2)
  have Z1 := hide' (cells_below Z0.out ho.2)
  have HW1 := hide' Z1.out.2
  have F1 := hide' (holdsF_own ho)
  have O1 := hide' ho
  obtain ⟨la, lc, lb, lo, hu, _⟩ := holdsF_parts F1.out
  subst hu
  have b2 := below_alloc' w1 (.cells #[.int .i64 s, .string ⟨rs.toArray⟩, .int .i64 k, .slice la fs.length lc] 28)
  have Q2 := hide' (quad_lit w1 (.int .i64 s) (.string ⟨rs.toArray⟩) (.int .i64 k) (.slice la fs.length lc) 28)
  have B2 := hide' (bt' B1.out b2)
  have Z2 := hide' (cells_below Z1.out b2)
  have F2 := hide' (holdsF_mono F1.out b2)
  have O2 := hide' (ownF_keep O1.out b2)
  clear ho b2 CQ F1 O1 B0 Z0
  by_cases hee : er = 0
  case neg =>
    have hee' : (er == 0) = false := by simpa using hee
    have hee'' : (er != 0) = true := by simpa using hee
    obtain ⟨⟨zc0, zc1, zc2, zc3, zc4, zc5, zc6, zc7, zc8, zc9⟩, ⟨zf0, zf1, zf2, zf3, zf4, zf5, zf6, zf7, zf8, zf9⟩⟩ := cells_ten Z2.out
    go_wp2_with fail
    have q := cells_put Z2.out [.string ⟨#[]⟩, .string ⟨#[]⟩, .int .i64 0, .slice none 0 0, .int .i64 0, .string ⟨#[]⟩, .int .i64 0, .slice none 0 0, .slice none 0 0, .slice none 0 0] rfl
    have qb := put_below (Nat.le_refl w.heap.size) [.string ⟨#[]⟩, .string ⟨#[]⟩, .int .i64 0, .slice none 0 0, .int .i64 0, .string ⟨#[]⟩, .int .i64 0, .slice none 0 0, .slice none 0 0, .slice none 0 0] 0 _ B2.out
    rw [put_ten] at q qb
    obtain ⟨⟨yc0, yc1, yc2, yc3, yc4, yc5, yc6, yc7, yc8, yc9⟩, _⟩ := cells_ten q
    refine bodyPost_ret (v := tellV mzV 0 er) (by simp [results, Tryz.results11, go_sem, tellV, mzV, yc0, yc1, yc2, yc3, yc4, yc5, yc6, yc7, yc8, yc9]) rfl ?_
    rw [E1.out hee]
    exact ansR_none er qb
  subst hee
  by_cases h2 : n = 0
  · subst h2
    obtain ⟨⟨zc0, zc1, zc2, zc3, zc4, zc5, zc6, zc7, zc8, zc9⟩, ⟨zf0, zf1, zf2, zf3, zf4, zf5, zf6, zf7, zf8, zf9⟩⟩ := cells_ten Z2.out
    go_wp2_with fail
    have q := cells_put Z2.out [.string ⟨#[]⟩, .string ⟨#[]⟩, .int .i64 0, .slice none 0 0, .int .i64 0, .string ⟨#[]⟩, .int .i64 0, .slice none 0 0, .slice none 0 0, .slice none 0 0] rfl
    have qb := put_below (Nat.le_refl w.heap.size) [.string ⟨#[]⟩, .string ⟨#[]⟩, .int .i64 0, .slice none 0 0, .int .i64 0, .string ⟨#[]⟩, .int .i64 0, .slice none 0 0, .slice none 0 0, .slice none 0 0] 0 _ B2.out
    rw [put_ten] at q qb
    obtain ⟨⟨yc0, yc1, yc2, yc3, yc4, yc5, yc6, yc7, yc8, yc9⟩, _⟩ := cells_ten q
    refine bodyPost_ret (v := tellV mzV 0 0) (by simp [results, Tryz.results11, go_sem, tellV, mzV, yc0, yc1, yc2, yc3, yc4, yc5, yc6, yc7, yc8, yc9]) rfl ?_
    rw [E2.out (by simp) (by simp), show cutE false = 0 from rfl]
    exact ansR_none 0 qb
  · have hz' : ((n : Int) == 0) = false := by simp; omega
    have hnb := (HH.out (by omega)).2
    have hn8 := (HH.out (by omega)).1
    have E3 := hide' (E3'.out (by simp) h2)
    obtain ⟨i0, i1, i2, i3, _⟩ := Q2.out
    go_wp2_with fail
    refine (cO.out _ _ F2.out).mono ?_
    rintro e w3 ⟨rfl, b3⟩
    have B3 := hide' (bt' B2.out b3)
    have Z3 := hide' (cells_below Z2.out b3)
    have Q3 := hide' (quad_below Q2.out b3)
    have O3 := hide' (ownF_keep O2.out b3)
    have b4 := below_alloc' w3 (.cells #[.int .i64 x1, .int .i64 x2] 48)
    have D4 := hide' (duo_lit w3 (.int .i64 x1) (.int .i64 x2) 48)
    have B4 := hide' (bt' B3.out b4)
    have Z4 := hide' (cells_below Z3.out b4)
    have Q4 := hide' (quad_below Q3.out b4)
    have O4 := hide' (ownF_keep O3.out b4)
    clear b3 b4 cO i0 i1 i2 i3 Q2 Q3 F2 O2 O3 Z2 Z3 E3'
    by_cases h3 : x3 = 0
    case neg =>
      have h3' : (x3 != 0) = true := by simpa using h3
      have h3'' : (x3 == 0) = false := by simpa using h3
      obtain ⟨⟨zc0, zc1, zc2, zc3, zc4, zc5, zc6, zc7, zc8, zc9⟩, ⟨zf0, zf1, zf2, zf3, zf4, zf5, zf6, zf7, zf8, zf9⟩⟩ := cells_ten Z4.out
      go_wp2_with fail
      have q := cells_put Z4.out [.string ⟨#[]⟩, .string ⟨#[]⟩, .int .i64 0, .slice none 0 0, .int .i64 0, .string ⟨#[]⟩, .int .i64 0, .slice none 0 0, .slice none 0 0, .slice none 0 0] rfl
      have qb := put_below (Nat.le_refl w.heap.size) [.string ⟨#[]⟩, .string ⟨#[]⟩, .int .i64 0, .slice none 0 0, .int .i64 0, .string ⟨#[]⟩, .int .i64 0, .slice none 0 0, .slice none 0 0, .slice none 0 0] 0 _ B4.out
      rw [put_ten] at q qb
      obtain ⟨⟨yc0, yc1, yc2, yc3, yc4, yc5, yc6, yc7, yc8, yc9⟩, _⟩ := cells_ten q
      refine bodyPost_ret (v := tellV mzV 0 x3) (by simp [results, Tryz.results11, go_sem, tellV, mzV, yc0, yc1, yc2, yc3, yc4, yc5, yc6, yc7, yc8, yc9]) rfl ?_
      rw [E3.out, respM_rule h3]
      exact ansR_none x3 qb
    subst h3
    obtain ⟨j0, j1, _⟩ := D4.out
    by_cases hx : x1 = 3
    · subst hx
      by_cases hbig : 65536 < bs.length - n
      · have hbig' : (65536 : Int) < (bs.length : Int) - (n : Int) := by omega
        obtain ⟨⟨zc0, zc1, zc2, zc3, zc4, zc5, zc6, zc7, zc8, zc9⟩, ⟨zf0, zf1, zf2, zf3, zf4, zf5, zf6, zf7, zf8, zf9⟩⟩ := cells_ten Z4.out
        go_wp2_with fail
        have q := cells_put Z4.out [.string ⟨#[]⟩, .string ⟨#[]⟩, .int .i64 0, .slice none 0 0, .int .i64 0, .string ⟨#[]⟩, .int .i64 0, .slice none 0 0, .slice none 0 0, .slice none 0 0] rfl
        have qb := put_below (Nat.le_refl w.heap.size) [.string ⟨#[]⟩, .string ⟨#[]⟩, .int .i64 0, .slice none 0 0, .int .i64 0, .string ⟨#[]⟩, .int .i64 0, .slice none 0 0, .slice none 0 0, .slice none 0 0] 0 _ B4.out
        rw [put_ten] at q qb
        obtain ⟨⟨yc0, yc1, yc2, yc3, yc4, yc5, yc6, yc7, yc8, yc9⟩, _⟩ := cells_ten q
        refine bodyPost_ret (v := tellV mzV 0 71) (by simp [results, Tryz.results11, go_sem, tellV, mzV, yc0, yc1, yc2, yc3, yc4, yc5, yc6, yc7, yc8, yc9]) rfl ?_
        rw [E3.out, respM_big hbig]
        exact ansR_none 71 qb
      · have hbig' : ¬ (65536 : Int) < (bs.length : Int) - (n : Int) := by omega
        obtain ⟨⟨zc0, zc1, zc2, zc3, zc4, zc5, zc6, zc7, zc8, zc9⟩, ⟨zf0, zf1, zf2, zf3, zf4, zf5, zf6, zf7, zf8, zf9⟩⟩ := cells_ten Z4.out
        go_wp2_with fail
        have q := cells_put Z4.out [.string ⟨#[]⟩, .string ⟨#[]⟩, .int .i64 0, .slice none 0 0, .int .i64 0, .string ⟨#[]⟩, .int .i64 0, .slice none 0 0, .slice none 0 0, .slice none 0 0] rfl
        have qb := put_below (Nat.le_refl w.heap.size) [.string ⟨#[]⟩, .string ⟨#[]⟩, .int .i64 0, .slice none 0 0, .int .i64 0, .string ⟨#[]⟩, .int .i64 0, .slice none 0 0, .slice none 0 0, .slice none 0 0] 0 _ B4.out
        rw [put_ten] at q qb
        obtain ⟨⟨yc0, yc1, yc2, yc3, yc4, yc5, yc6, yc7, yc8, yc9⟩, _⟩ := cells_ten q
        refine bodyPost_ret (v := tellV mzV 0 0) (by simp [results, Tryz.results11, go_sem, tellV, mzV, yc0, yc1, yc2, yc3, yc4, yc5, yc6, yc7, yc8, yc9]) rfl ?_
        rw [E3.out, respM_open hbig]
        exact ansR_none 0 qb
    · have hx' : (x1 == 3) = false := by simpa using hx
      have CW := hide' (bodyRef _ bs n x1 x2 _ (holdsB_mono HV.out B4.out) hnb (by omega) hs (HK.out rfl) hx)
      have EE := hide' (E3.out.trans (respM_body hx))
      have hml := body_le bs n x1 x2 hnb
      generalize bodyM bs n x1 x2 = X at CW EE hml
      obtain ⟨xd, xf, xn, xe⟩ := X
      unfold decV at CW
      simp only at CW EE hml
      have HML := hide' hml
      clear hml
      go_wp2_with fail
      refine CW.out.mono ?_
      rintro e w5 ⟨bv, tv, rfl, oB, oF⟩
      have B5 := hide' (bt' B4.out oB.2)
      have Z5 := hide' (cells_below Z4.out oB.2)
      have O5 := hide' (ownF_keep O4.out oB.2)
      have Q5 := hide' (quad_below Q4.out oB.2)
      clear j0 j1 CW Q4 D4
      obtain ⟨⟨zc0, zc1, zc2, zc3, zc4, zc5, zc6, zc7, zc8, zc9⟩, ⟨zf0, zf1, zf2, zf3, zf4, zf5, zf6, zf7, zf8, zf9⟩⟩ := cells_ten Z5.out
      by_cases h5 : xe = 0
      · subst h5
        rw [if_neg (by simp)] at EE
        by_cases h6 : xn = 0
        · subst h6
          have RH := hide' EE.out
          rw [if_pos rfl] at RH
          clear oB oF
          go_wp2_with fail
          have q := cells_put Z5.out [.string ⟨#[]⟩, .string ⟨#[]⟩, .int .i64 0, .slice none 0 0, .int .i64 0, .string ⟨#[]⟩, .int .i64 0, .slice none 0 0, .slice none 0 0, .slice none 0 0] rfl
          have qb := put_below (Nat.le_refl w.heap.size) [.string ⟨#[]⟩, .string ⟨#[]⟩, .int .i64 0, .slice none 0 0, .int .i64 0, .string ⟨#[]⟩, .int .i64 0, .slice none 0 0, .slice none 0 0, .slice none 0 0] 0 _ B5.out
          rw [put_ten] at q qb
          obtain ⟨⟨yc0, yc1, yc2, yc3, yc4, yc5, yc6, yc7, yc8, yc9⟩, _⟩ := cells_ten q
          refine bodyPost_ret (v := tellV mzV 0 0) (by simp [results, Tryz.results11, go_sem, tellV, mzV, yc0, yc1, yc2, yc3, yc4, yc5, yc6, yc7, yc8, yc9]) rfl ?_
          rw [RH.out, show cutE false = 0 from rfl]
          exact ansR_none 0 qb
        · have h6' : ((xn : Int) == 0) = false := by simp; omega
          have RH := hide' EE.out
          rw [if_neg h6] at RH
          obtain ⟨xa, xc, hbv, _⟩ := holdsB_own oB
          obtain ⟨ya, yc, yb, yo, htv, _⟩ := holdsF_parts (holdsF_own oF)
          subst hbv htv
          have OBr := hide' oB.1
          have OFr := hide' oF.1
          obtain ⟨i0, i1, i2, i3, _⟩ := Q5.out
          have hxn := (HML.out (by omega)).2.1
          clear oB oF
          go_wp2_with fail
          have q := cells_put Z5.out [.string ⟨#[]⟩, .string ⟨#[]⟩, .int .i64 0, .slice none 0 0, .int .i64 s, .string ⟨rs.toArray⟩, .int .i64 k, .slice la fs.length lc, .slice xa xd.length xc, .slice ya xf.length yc] rfl
          have qb := put_below (Nat.le_refl w.heap.size) [.string ⟨#[]⟩, .string ⟨#[]⟩, .int .i64 0, .slice none 0 0, .int .i64 s, .string ⟨rs.toArray⟩, .int .i64 k, .slice la fs.length lc, .slice xa xd.length xc, .slice ya xf.length yc] 0 _ B5.out
          have qB := row_putFrom Z4.out.2 [.string ⟨#[]⟩, .string ⟨#[]⟩, .int .i64 0, .slice none 0 0, .int .i64 s, .string ⟨rs.toArray⟩, .int .i64 k, .slice la fs.length lc, .slice xa xd.length xc, .slice ya xf.length yc] 0 _ OBr.out
          have qL := row_putFrom (b := w.heap.size) (by rw [sz0.out]; omega) [.string ⟨#[]⟩, .string ⟨#[]⟩, .int .i64 0, .slice none 0 0, .int .i64 s, .string ⟨rs.toArray⟩, .int .i64 k, .slice la fs.length lc, .slice xa xd.length xc, .slice ya xf.length yc] 0 _ O5.out.1
          have qF := row_putFrom Z4.out.2 [.string ⟨#[]⟩, .string ⟨#[]⟩, .int .i64 0, .slice none 0 0, .int .i64 s, .string ⟨rs.toArray⟩, .int .i64 k, .slice la fs.length lc, .slice xa xd.length xc, .slice ya xf.length yc] 0 _ OFr.out
          rw [put_ten] at q qb qB qL qF
          obtain ⟨⟨yc0, yc1, yc2, yc3, yc4, yc5, yc6, yc7, yc8, yc9⟩, _⟩ := cells_ten q
          refine bodyPost_ret (v := tellV (mrV ⟨s, rs, k, fs⟩ (.slice la fs.length lc) (.slice xa xd.length xc) (.slice ya xf.length yc)) xn 0) (by simp [results, Tryz.results11, go_sem, tellV, mrV, yc0, yc1, yc2, yc3, yc4, yc5, yc6, yc7, yc8, yc9]) rfl ?_
          rw [RH.out]
          exact ⟨_, _, _, rfl, ⟨row_base qL (by rw [sz0.out]; omega), qb⟩, ⟨row_base qB (Nat.le_of_lt Z4.out.2), qb⟩, ⟨row_base qF (Nat.le_of_lt Z4.out.2), qb⟩⟩
      · have h5' : (xe == 0) = false := by simpa using h5
        have h5'' : (xe != 0) = true := by simpa using h5
        have RH := hide' EE.out
        rw [if_pos h5] at RH
        clear oB oF
        go_wp2_with fail
        have q := cells_put Z5.out [.string ⟨#[]⟩, .string ⟨#[]⟩, .int .i64 0, .slice none 0 0, .int .i64 0, .string ⟨#[]⟩, .int .i64 0, .slice none 0 0, .slice none 0 0, .slice none 0 0] rfl
        have qb := put_below (Nat.le_refl w.heap.size) [.string ⟨#[]⟩, .string ⟨#[]⟩, .int .i64 0, .slice none 0 0, .int .i64 0, .string ⟨#[]⟩, .int .i64 0, .slice none 0 0, .slice none 0 0, .slice none 0 0] 0 _ B5.out
        rw [put_ten] at q qb
        obtain ⟨⟨yc0, yc1, yc2, yc3, yc4, yc5, yc6, yc7, yc8, yc9⟩, _⟩ := cells_ten q
        refine bodyPost_ret (v := tellV mzV 0 xe) (by simp [results, Tryz.results11, go_sem, tellV, mzV, yc0, yc1, yc2, yc3, yc4, yc5, yc6, yc7, yc8, yc9]) rfl ?_
        rw [RH.out]
        exact ansR_none xe qb
theorem msrRef (v : Value) (bs : List UInt8) (me : List UInt8) (ended : Bool) (w : World) (hv : HoldsB w v bs) (hs : bs.length < 4294967281) :
    Calls Tryz.prog 11 #[v, .string ⟨me.toArray⟩, .bool ended] w fun e w' => AnsR w (msgR bs me ended) e w' := by
  cases ended with
  | true => exact msrRefT v bs me w hv hs
  | false => exact msrRefF v bs me w hv hs
end Go.Proofs.YtmikgpmnffdnnabGreatDoor
