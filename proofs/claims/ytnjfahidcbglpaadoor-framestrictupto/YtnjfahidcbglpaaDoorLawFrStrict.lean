/- The walk of FrameStrict. -/
import Derived.Test.YtnjfahidcbglpaaDoorFrS
import Derived.Test.YtnjfahidcbglpaaDoorRq
namespace Go.Proofs.YtnjfahidcbglpaaDoor
open Go.RowKit
namespace frameStrict
theorem lens_shape (els : List (List UInt8)) : (∃ e, ¬ e = 0 ∧ lensOf els = (0, 0, e)) ∨ ∃ n : Int, 0 ≤ n ∧ n ≤ 65536 ∧ lensOf els = (1, n, 0) := by
  cases els with
  | nil => exact .inl ⟨60, by decide, lens_nil⟩
  | cons x r =>
    rw [lens_cons]
    split
    · split
      · exact .inl ⟨71, by decide, rfl⟩
      · exact .inr ⟨(numF x : Int), by omega, by omega, rfl⟩
    · exact .inl ⟨60, by decide, rfl⟩
theorem cod_shape (m : Int) (ws : List (List UInt8)) : codOf m ws = (0, 0, 62) ∨ codOf m ws = (2, 0, 0) := by
  unfold codOf
  split
  · exact .inl rfl
  · exact .inr rfl
set_option maxRecDepth 20000 in
set_option maxHeartbeats 8000000 in
theorem walk (mt tg : List UInt8) (k : Int) (lv : Value) (fs : FL) (w : World) (hv : HoldsF w lv fs) (hb : bulkF fs ≤ 1048576) (E : Er w) :
    Calls Tryd.prog 6 #[.agg #[.string ⟨mt.toArray⟩, .string ⟨tg.toArray⟩, .int .i64 k, lv]] w fun e w' => e = .returned (.bool true) ∧ Below w.heap.size w w' := by
  have hfl := bulkF_len fs
  obtain ⟨ao, ca, b, o, rfl, _⟩ := holdsF_parts hv
  have b0 := below_alloc' w (.cells #[.string ⟨mt.toArray⟩, .string ⟨tg.toArray⟩, .int .i64 k, .slice ao fs.length ca] 24)
  have Q0 := hide' (quad_lit w (.string ⟨mt.toArray⟩) (.string ⟨tg.toArray⟩) (.int .i64 k) (.slice ao fs.length ca) 24)
  have C0 := hide' (aliveF _ (er_below E b0))
  have B0 := hide' b0
  have HV := hide' hv
  have EV := hide' E
  have cT := hide' (fun W (u : Value) (h : HoldsF W u fs) (hE : Er W) => ofReqTok mt tg k fs u W h hb hE)
  have cV := hide' (fun W (u : Value) (h : HoldsF W u fs) => valuesTok u fs CLb W h (fun f hf => by have := bulkF_mem fs f hf; omega) (by decide) (by omega))
  have cG := hide' (fun W (u : Value) (h : HoldsF W u fs) => getTok u fs TEb W h hb (by decide))
  have r1 := hide' (rule_both (m := k) (s := 0) (fs := fs))
  have r2 := hide' (rule_cod (m := k) (s := 0) (fs := fs))
  have r3 := hide' (rule_len (m := k) (s := 0) (fs := fs))
  have r4 := hide' (rule_none (m := k) (s := 0) (fs := fs))
  have lv2 := vals_len fs CLb
  unfold ansV at cT
  generalize ruleOf k fs 0 = Q at cT r1 r2 r3 r4
  obtain ⟨x1, x2, x3⟩ := Q
  simp only at cT
  generalize (joinOf (valsOf fs TEb)).toArray = j1 at cG
  generalize valsOf fs CLb = vs at cV r1 r2 r3 r4 lv2
  generalize valsOf fs TEb = tv at cG r1 r2 r3 r4
  clear hv b0 E
  go_enter Tryd.func6, Tryd.ntmps6
  go_wp2_with fail
  refine C0.out.mono ?_
  rintro e w1 ⟨rfl, b1⟩
  have B1 := hide' (bt' B0.out b1)
  have Q1 := hide' (quad_below Q0.out b1)
  clear b1 C0 Q0 B0
  obtain ⟨i0, i1, i2, i3, _⟩ := Q1.out
  go_wp2_with fail
  refine (copyRq mt tg k fs _ _ (holdsF_mono HV.out B1.out) (by omega)).mono ?_
  rintro e w2 ⟨u, rfl, ho⟩
  have B2 := hide' (bt' B1.out ho.2)
  have Q2 := hide' (quad_below Q1.out ho.2)
  have F2 := hide' (holdsF_own ho)
  obtain ⟨ua, uc, ub, uo, hu, _⟩ := holdsF_parts F2.out
  subst hu
  clear ho i0 i1 i2 i3 Q1 B1
  go_wp2_with fail
  refine (cT.out _ _ F2.out (er_below EV.out B2.out)).mono ?_
  rintro e w4 ⟨rfl, b4⟩
  have B4 := hide' (bt' B2.out b4)
  have Q4 := hide' (quad_below Q2.out b4)
  clear b4 Q2 F2 B2
  have b5 := below_alloc' w4 (.cells #[.int .i64 x1, .int .i64 x2] 28)
  have D5 := hide' (duo_lit w4 (.int .i64 x1) (.int .i64 x2) 28)
  have B5 := hide' (bt' B4.out b5)
  have Q5 := hide' (quad_below Q4.out b5)
  clear b5 Q4 B4
  obtain ⟨i0, i1, i2, i3, _⟩ := Q5.out
  go_wp2_with fail
  refine (copyF _ fs _ (holdsF_mono HV.out B5.out) (by omega)).mono ?_
  rintro e w6 ⟨u6, rfl, ho⟩
  have B6 := hide' (bt' B5.out ho.2)
  have Q6 := hide' (quad_below Q5.out ho.2)
  have D6 := hide' (duo_below D5.out ho.2)
  have F6 := hide' (holdsF_own ho)
  obtain ⟨va, vc, vb, vo, hu6, _⟩ := holdsF_parts F6.out
  subst hu6
  clear ho Q5 D5 B5 i0 i1 i2 i3
  go_wp2_with fail
  refine (cV.out _ _ F6.out).mono ?_
  rintro e w7 ⟨u7, rfl, ho⟩
  have B7 := hide' (bt' B6.out ho.2)
  have Q7 := hide' (quad_below Q6.out ho.2)
  have D7 := hide' (duo_below D6.out ho.2)
  obtain ⟨sa, sc, sb, so, hu7, _⟩ := holds_parts (holds_own ho)
  subst hu7
  clear ho Q6 D6 F6 B6
  obtain ⟨i0, i1, i2, i3, _⟩ := Q7.out
  generalize vs.length = n2 at r1 r2 r3 r4 lv2 ⊢
  go_wp2_with fail
  refine (copyF _ fs _ (holdsF_mono HV.out B7.out) (by omega)).mono ?_
  rintro e w8 ⟨u8, rfl, ho⟩
  have B8 := hide' (bt' B7.out ho.2)
  have D8 := hide' (duo_below D7.out ho.2)
  have F8 := hide' (holdsF_own ho)
  obtain ⟨ya, yc, yb, yo, hu8, _⟩ := holdsF_parts F8.out
  subst hu8
  clear ho D7 B7 i0 i1 i2 i3 Q7
  go_wp2_with fail
  refine (cG.out _ _ F8.out).mono ?_
  rintro e w9 ⟨rfl, b9⟩
  have B9 := hide' (bt' B8.out b9)
  have D9 := hide' (duo_below D8.out b9)
  clear b9 D8 B8 F8 cT cV cG
  generalize tv.length = n1 at r1 r2 r3 r4 ⊢
  obtain ⟨d0, d1, _⟩ := D9.out
  by_cases h1 : 0 < n1
  · have e1 := hide' (decide_eq_true h1)
    rw [e1.out]
    by_cases h2 : 0 < n2
    · have R := r1.out h1 h2
      simp only [Prod.mk.injEq] at R
      obtain ⟨rfl, rfl, rfl⟩ := R
      clear r1 r2 r3 r4 h1
      go_wp2_with fail
      go_ret
      exact ⟨rfl, B9.out⟩
    · have R := r2.out h1 h2
      have e2 : n2 = 0 := by omega
      subst e2
      clear r1 r2 r3 r4 h1 h2
      rcases cod_shape k (toksOf tv) with hc | hc
      · rw [hc] at R
        simp only [Prod.mk.injEq] at R
        obtain ⟨rfl, rfl, rfl⟩ := R
        clear hc
        go_wp2_with fail
        go_ret
        exact ⟨rfl, B9.out⟩
      · rw [hc] at R
        simp only [Prod.mk.injEq] at R
        obtain ⟨rfl, rfl, rfl⟩ := R
        clear hc
        go_wp2_with fail
        go_ret
        exact ⟨rfl, B9.out⟩
  · have e1 := hide' (decide_eq_false h1)
    rw [e1.out]
    by_cases h2 : 0 < n2
    · have R := r3.out h1 h2
      clear r1 r2 r3 r4 h1
      rcases lens_shape (toksOf vs) with ⟨ee, he, hc⟩ | ⟨nn, hn0, hn1, hc⟩
      · rw [hc] at R
        simp only [Prod.mk.injEq] at R
        obtain ⟨rfl, rfl, rfl⟩ := R
        have he1 : (x3 != 0) = true := by simpa using he
        clear hc he
        go_wp2_with fail
        go_ret
        exact ⟨rfl, B9.out⟩
      · rw [hc] at R
        simp only [Prod.mk.injEq] at R
        obtain ⟨rfl, rfl, rfl⟩ := R
        clear hc
        go_wp2_with fail
        go_ret
        exact ⟨rfl, B9.out⟩
    · have R := r4.out h1 h2
      have e2 : n2 = 0 := by omega
      subst e2
      simp only [Prod.mk.injEq] at R
      obtain ⟨rfl, rfl, rfl⟩ := R
      clear r1 r2 r3 r4 h1 h2
      go_wp2_with fail
      go_ret
      exact ⟨rfl, B9.out⟩
end frameStrict
end Go.Proofs.YtnjfahidcbglpaaDoor
