/- The walk of FrameOthers. -/
import Derived.Test.YtnjfahidcbglpaaDoorFrX
namespace Go.Proofs.YtnjfahidcbglpaaDoor
open Go.RowKit
namespace frameOthers
set_option maxRecDepth 20000 in
set_option maxHeartbeats 8000000 in
theorem walk (mt tg : List UInt8) (k : Int) (lv : Value) (fs : FL) (x y : List UInt8) (p : Int) (w : World) (hv : HoldsF w lv fs) (hb : bulkF fs + (x.length + y.length + 3) ≤ 1048576) (E : Er w) :
    Calls Tryd.prog 8 #[.agg #[.string ⟨mt.toArray⟩, .string ⟨tg.toArray⟩, .int .i64 k, lv], .agg #[.string ⟨x.toArray⟩, .string ⟨y.toArray⟩], .int .i64 p] w fun e w' => e = .returned (.bool true) ∧ Below w.heap.size w w' := by
  have hfl := bulkF_len fs
  have HV := hide' hv
  have EV := hide' E
  obtain ⟨ao, ca, b, o, rfl, _⟩ := holdsF_parts hv
  have b0 := below_alloc' w (.cells #[.string ⟨mt.toArray⟩, .string ⟨tg.toArray⟩, .int .i64 k, .slice ao fs.length ca] 24)
  have b1 := below_alloc' (w.alloc (.cells #[.string ⟨mt.toArray⟩, .string ⟨tg.toArray⟩, .int .i64 k, .slice ao fs.length ca] 24)) (.cells #[.string ⟨x.toArray⟩, .string ⟨y.toArray⟩] 48)
  have Q0 := hide' (quad_below (quad_lit w (.string ⟨mt.toArray⟩) (.string ⟨tg.toArray⟩) (.int .i64 k) (.slice ao fs.length ca) 24) b1)
  have D0 := duo_lit (w.alloc (.cells #[.string ⟨mt.toArray⟩, .string ⟨tg.toArray⟩, .int .i64 k, .slice ao fs.length ca] 24)) (.string ⟨x.toArray⟩) (.string ⟨y.toArray⟩) 48
  have z1 : (w.alloc (.cells #[.string ⟨mt.toArray⟩, .string ⟨tg.toArray⟩, .int .i64 k, .slice ao fs.length ca] 24)).heap.size = w.heap.size + 1 := by simp
  rw [z1] at D0
  have C0 := hide' (aliveF _ (er_below E (bt' b0 b1)))
  have B0 := hide' (bt' b0 b1)
  have D0 := hide' D0
  have cL := fun W => lowerRef ⟨x.toArray⟩ W (by rw [size_l]; omega)
  simp only at cL
  have CL := hide' cL
  clear hv b0 b1 z1 E cL
  go_enter Tryd.func8, Tryd.ntmps8
  go_wp2_with fail
  refine C0.out.mono ?_
  rintro e w1 ⟨rfl, b1⟩
  have B1 := hide' (bt' B0.out b1)
  have Q1 := hide' (quad_below Q0.out b1)
  have D1 := hide' (duo_below D0.out b1)
  clear b1 C0 Q0 B0 D0
  obtain ⟨d0, d1, _⟩ := D1.out
  go_wp2_with fail
  refine (CL.out _).mono ?_
  rintro e w2 ⟨rfl, b2⟩
  have B2 := hide' (bt' B1.out b2)
  have Q2 := hide' (quad_below Q1.out b2)
  have D2 := hide' (duo_below D1.out b2)
  clear b2 CL Q1 B1 D1 d0 d1
  by_cases h1 : lows x = clb
  · have n1 : ((⟨(lows x).toArray⟩ : ByteArray).toList == (⟨#[99, 111, 110, 116, 101, 110, 116, 45, 108, 101, 110, 103, 116, 104]⟩ : ByteArray).toList) = true := by rw [Lib.toList_data, Lib.toList_data, h1]; rfl
    have n1' : (lows x == [99, 111, 110, 116, 101, 110, 116, 45, 108, 101, 110, 103, 116, 104]) = true := by rw [h1]; rfl
    generalize lows x = lx at n1 n1' ⊢
    clear h1
    go_wp2_with fail
    go_ret
    exact ⟨rfl, B2.out⟩
  · have n1 := ba_eql' _ _ h1
    have n1' : (lows x == clb) = false := by simpa using h1
    unfold clb at n1 n1'
    by_cases h2 : lows x = teb
    · have n2 : ((⟨(lows x).toArray⟩ : ByteArray).toList == (⟨#[116, 114, 97, 110, 115, 102, 101, 114, 45, 101, 110, 99, 111, 100, 105, 110, 103]⟩ : ByteArray).toList) = true := by rw [Lib.toList_data, Lib.toList_data, h2]; rfl
      have n2' : (lows x == [116, 114, 97, 110, 115, 102, 101, 114, 45, 101, 110, 99, 111, 100, 105, 110, 103]) = true := by rw [h2]; rfl
      clear h1 h2
      generalize lows x = lx at n1 n1' n2 n2' ⊢
      go_wp2_with fail
      go_ret
      exact ⟨rfl, B2.out⟩
    · have n2 := ba_eql' _ _ h2
      have n2' : (lows x == teb) = false := by simpa using h2
      unfold teb at n2 n2'
      have RM := hide' (fun c => rule_more k 0 fs c (y := y) h1 h2)
      clear h1 h2
      generalize lows x = lx at n1 n1' n2 n2' ⊢
      obtain ⟨i0, i1, i2, i3, _⟩ := Q2.out
      by_cases hp : p < 0
      · clear RM
        go_wp2_with fail
        go_ret
        exact ⟨rfl, B2.out⟩
      · by_cases hq : (fs.length : Int) < p
        · clear RM
          go_wp2_with fail
          go_ret
          exact ⟨rfl, B2.out⟩
        · obtain ⟨c, rfl⟩ : ∃ c : Nat, p = (c : Int) := ⟨p.toNat, by omega⟩
          have hc : c ≤ fs.length := by omega
          obtain ⟨pa, pc, hrT, hT⟩ := holdsF_take HV.out c hc
          obtain ⟨qa, qc, hrD, hD⟩ := holdsF_drop HV.out c hc
          have HT := hide' hT
          have HD := hide' hD
          have RM' := hide' (RM.out c)
          have BM := hide' (bulk_more fs c x y)
          have lT : (fs.take c).length ≤ fs.length := by rw [List.length_take]; omega
          have lD : (fs.drop c).length ≤ fs.length := by rw [List.length_drop]; omega
          have LT := hide' lT
          have LD := hide' lD
          have cT := hide' (fun W (u : Value) (h : HoldsF W u fs) (hE : Er W) => ofReqTok mt tg k fs u W h (by omega) hE)
          have cM := hide' (fun W (u : Value) (h : HoldsF W u (fs.take c ++ [(x, y)] ++ fs.drop c)) (hE : Er W) => ofReqTok mt tg k (fs.take c ++ [(x, y)] ++ fs.drop c) u W h (by rw [BM.out]; exact hb) hE)
          rw [RM'.out] at cM
          unfold ansV at cT cM
          generalize ruleOf k fs 0 = X at cT cM
          obtain ⟨x1, x2, x3⟩ := X
          simp only at cT cM
          clear hT hD RM RM' BM lT lD
          go_wp2_with fail
          refine (copyF _ (fs.take c) _ (holdsF_mono HT.out B2.out) (by have := LT.out; omega)).mono ?_
          rintro e w3 ⟨u3, rfl, ho3⟩
          have Q3 := hide' (quad_below Q2.out ho3.2)
          obtain ⟨d0, d1, _⟩ := duo_below D2.out ho3.2
          clear i0 i1 i2 i3
          obtain ⟨i0, i1, i2, i3, _⟩ := Q3.out
          go_wp2_with (first
            | (at_builtin; refine appF rfl (.tmp 40) (.tmp 42) rfl w2 _ (fs.take c) rfl ho3 (x, y) rfl rfl rfl rfl (by have := LT.out; omega) ?_; intro v4 w4 ho4; have O4 := hide' ho4; obtain ⟨e0, e1, e2, e3, _⟩ := quad_below Q2.out ho4.2; clear ho4)
            | (at_builtin; refine appAllF rfl (.tmp 44) (.tmp 48) rfl w2 _ _ rfl O4.out _ (fs.drop c) rfl (holdsF_mono HD.out (bt' B2.out O4.out.2)) (by have := LT.out; have := LD.out; rw [List.length_append, List.length_cons, List.length_nil]; omega) ?_; intro v5 w5 ho5; have O5 := hide' ho5; obtain ⟨g0, g1, g2, g3, _⟩ := quad_below Q2.out ho5.2; clear ho5))
          have B5 := hide' (bt' B2.out O5.out.2)
          refine (copyRq mt tg k fs _ _ (holdsF_mono HV.out B5.out) (by omega)).mono ?_
          rintro e w6 ⟨u6, rfl, ho6⟩
          have B6 := hide' (bt' B5.out ho6.2)
          have Q6 := hide' (quad_below (quad_below Q2.out O5.out.2) ho6.2)
          have M6 := hide' (holdsF_mono (holdsF_own O5.out) ho6.2)
          have F6 := hide' (holdsF_own ho6)
          obtain ⟨ua, uc, ub, uo, hu, _⟩ := holdsF_parts F6.out
          subst hu
          obtain ⟨va, vc, vb, vo, hv5, _⟩ := holdsF_parts M6.out
          subst hv5
          clear ho6 i0 i1 i2 i3 e0 e1 e2 e3 g0 g1 g2 g3 d0 d1 O4 O5 Q3 Q2 D2 HT HD hrT hrD ho3 B5
          generalize (fs.take c ++ [(x, y)] ++ fs.drop c) = fm at cM M6 ⊢
          go_wp2_with fail
          refine (cT.out _ _ F6.out (er_below EV.out B6.out)).mono ?_
          rintro e w7 ⟨rfl, b7⟩
          have B7 := hide' (bt' B6.out b7)
          have Q7 := hide' (quad_below Q6.out b7)
          have M7 := hide' (holdsF_mono M6.out b7)
          clear b7 Q6 M6 F6 B6
          have b8 := below_alloc' w7 (.cells #[.int .i64 x1, .int .i64 x2] 28)
          have D8 := hide' (duo_lit w7 (.int .i64 x1) (.int .i64 x2) 28)
          have B8 := hide' (bt' B7.out b8)
          have Q8 := hide' (quad_below Q7.out b8)
          have M8 := hide' (holdsF_mono M7.out b8)
          clear b8 Q7 M7 B7
          obtain ⟨i0, i1, i2, i3, _⟩ := Q8.out
          go_wp2_with fail
          refine (cM.out _ _ M8.out (er_below EV.out B8.out)).mono ?_
          rintro e w9 ⟨rfl, b9⟩
          have B9 := hide' (bt' B8.out b9)
          have D9 := hide' (duo_below D8.out b9)
          clear b9 i0 i1 i2 i3 Q8 M8 B8 D8
          have b10 := below_alloc' w9 (.cells #[.int .i64 x1, .int .i64 x2] 28)
          have B10 := hide' (bt' B9.out b10)
          obtain ⟨d0, d1, _⟩ := duo_below D9.out b10
          clear b10
          go_wp2_with fail
          go_ret
          exact ⟨rfl, B10.out⟩
end frameOthers
end Go.Proofs.YtnjfahidcbglpaaDoor
