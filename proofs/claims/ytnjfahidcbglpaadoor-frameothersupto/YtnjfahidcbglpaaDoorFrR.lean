/- The contracts of byFields, bodiless, OfRequest, OfResponse; the laws' own check of one call. -/
import Derived.Test.YtnjfahidcbglpaaDoorFrQ
namespace Go.Proofs.YtnjfahidcbglpaaDoor
open Go.RowKit
theorem toks_mem (fs : FL) (nm : List UInt8) (hb : bulkF fs ≤ 1048576) : ∀ x ∈ toksOf (valsOf fs nm), x.length ≤ 1048576 := by
  intro x hx
  unfold toksOf at hx
  obtain ⟨y, hy, rfl⟩ := List.mem_map.1 hx
  obtain ⟨z, hz, hy⟩ := List.mem_flatMap.1 hy
  have h1 := listOf_mem z y hy
  have h2 := bulkT_mem (valsOf fs nm) z hz
  have h3 := bulk_vals fs nm
  have h4 : (lows y).length = y.length := by simp [lows]
  omega
theorem own_cap {w0 w : World} {v : Value} {ss : List (List UInt8)} (h : OwnS w0 v ss w) : ∀ a n c, v = .slice a n c → n ≤ c := by
  intro a n c e
  obtain ⟨hl, h1 | ⟨g, cap, cur, hv, hg, hh, hr⟩⟩ := h.1
  · obtain ⟨hv, _⟩ := h1
    rw [hv] at e; cases e; exact Nat.le_refl _
  · rw [hv] at e; cases e; exact hr.1
theorem rule_both {m s : Int} {fs : FL} (h1 : 0 < (valsOf fs TEb).length) (h2 : 0 < (valsOf fs CLb).length) : ruleOf m fs s = (0, 0, 61) := by unfold ruleOf; rw [if_pos ⟨h1, h2⟩]
theorem rule_cod {m s : Int} {fs : FL} (h1 : 0 < (valsOf fs TEb).length) (h2 : ¬ 0 < (valsOf fs CLb).length) : ruleOf m fs s = codOf m (toksOf (valsOf fs TEb)) := by unfold ruleOf; rw [if_neg (fun h => h2 h.2), if_pos h1]
theorem rule_len {m s : Int} {fs : FL} (h1 : ¬ 0 < (valsOf fs TEb).length) (h2 : 0 < (valsOf fs CLb).length) : ruleOf m fs s = lensOf (toksOf (valsOf fs CLb)) := by unfold ruleOf; rw [if_neg (fun h => h1 h.1), if_neg h1, if_pos h2]
theorem rule_none {m s : Int} {fs : FL} (h1 : ¬ 0 < (valsOf fs TEb).length) (h2 : ¬ 0 < (valsOf fs CLb).length) : ruleOf m fs s = (s, 0, 0) := by unfold ruleOf; rw [if_neg (fun h => h1 h.1), if_neg h1, if_neg h2]
set_option maxRecDepth 20000 in
set_option maxHeartbeats 4000000 in
theorem byFieldsTok (m s : Int) (v : Value) (fs : FL) (w : World) (hv : HoldsF w v fs) (hb : bulkF fs ≤ 1048576) (E : Er w) :
    Calls Tryd.prog 25 #[.int .i64 m, v, .int .i64 s] w fun e w' => e = .returned (ansV (ruleOf m fs s)) ∧ Below w.heap.size w w' := by
  have b0 := below_alloc' w (.cells #[.int .i64 0, .int .i64 0] 28)
  have H0 := hide' (duo_lit w (.int .i64 0) (.int .i64 0) 28)
  have E0 := hide' (er_below E b0)
  have B0 := hide' b0
  have c1 := hide' (getTok v fs TEb _ (holdsF_mono hv b0) hb (by decide))
  have c2 := hide' (fun W (h : Below w.heap.size w W) => getTok v fs CLb W (holdsF_mono hv h) hb (by decide))
  have c3 := hide' (fun W (h : Below w.heap.size w W) => tokensTok v fs TEb W (holdsF_mono hv h) hb (by decide))
  have c4 := hide' (fun W (h : Below w.heap.size w W) => tokensTok v fs CLb W (holdsF_mono hv h) hb (by decide))
  have l3 := hide' (toks_le fs TEb hb)
  have l4 := hide' (toks_le fs CLb hb)
  have m4 := hide' (toks_mem fs CLb hb)
  have r1 := hide' (rule_both (m := m) (s := s) (fs := fs))
  have r2 := hide' (rule_cod (m := m) (s := s) (fs := fs))
  have r3 := hide' (rule_len (m := m) (s := s) (fs := fs))
  have r4 := hide' (rule_none (m := m) (s := s) (fs := fs))
  generalize ruleOf m fs s = Q at r1 r2 r3 r4 ⊢
  generalize toksOf (valsOf fs TEb) = ws at c3 l3 r2
  generalize toksOf (valsOf fs CLb) = els at c4 l4 m4 r3
  generalize (joinOf (valsOf fs TEb)).toArray = j1 at c1
  generalize (joinOf (valsOf fs CLb)).toArray = j2 at c2
  generalize (valsOf fs TEb).length = n1 at c1 r1 r2 r3 r4
  generalize (valsOf fs CLb).length = n2 at c2 r1 r2 r3 r4
  obtain ⟨ao, ca, b, o, rfl, _⟩ := holdsF_parts hv
  clear hv b0 E
  go_enter Tryd.func25, Tryd.ntmps25
  go_wp2_with fail
  refine c1.out.mono ?_
  rintro e w1 ⟨rfl, b1⟩
  have B1 := hide' (bt' B0.out b1)
  have H1 := hide' (duo_below H0.out b1)
  have E1 := hide' (er_below E0.out b1)
  clear b1 c1 H0 B0 E0
  go_wp2_with fail
  refine (c2.out _ B1.out).mono ?_
  rintro e w2 ⟨rfl, b2⟩
  have B2 := hide' (bt' B1.out b2)
  have H2 := hide' (duo_below H1.out b2)
  have E2 := hide' (er_below E1.out b2)
  clear b2 c2 H1 B1 E1
  by_cases h1 : 0 < n1
  · have d1 := hide' (decide_eq_true h1)
    rw [d1.out]
    by_cases h2 : 0 < n2
    · have d2 := hide' (decide_eq_true h2)
      rw [d2.out]
      have R := hide' (r1.out h1 h2)
      obtain ⟨i0, i1, f0, f1, fz⟩ := H2.out
      clear h1 h2 c3 c4 r1 r2 r3 r4 l3 l4 m4
      go_wp2_with fail
      obtain ⟨q0, q1⟩ := duo_store H2.out (.int .i64 0) (.int .i64 0)
      have qb := put2_below B2.out (Nat.le_refl _) (.int .i64 0) (.int .i64 0)
      unfold put2 at q0 q1 qb
      exact bodyPost_ret (v := ansV (0, 0, 61)) (by simp [results, Tryd.results25, go_sem, q0, q1, ansV]) rfl ⟨by rw [R.out], qb⟩
    · have d2 := hide' (decide_eq_false h2)
      rw [d2.out]
      have R := hide' (r2.out h1 h2)
      clear h1 h2 c4 r1 r2 r3 r4 l4 m4
      go_wp2_with fail
      refine (c3.out _ B2.out).mono ?_
      rintro e w3 ⟨u, rfl, ho⟩
      have B3 := hide' (bt' B2.out ho.2)
      have H3 := hide' (duo_below H2.out ho.2)
      have cC := codTok m u ws w3 (holds_own ho) l3.out
      obtain ⟨ua, uc, ub, uo, hu, _⟩ := holds_parts (holds_own ho)
      subst hu
      rw [← R.out] at cC
      unfold ansV at cC
      have CC := hide' cC
      clear ho cC
      go_wp2_with fail
      refine CC.out.mono ?_
      rintro e w4 ⟨rfl, b4⟩
      have B4 := hide' (bt' B3.out b4)
      have H4 := hide' (duo_below H3.out b4)
      obtain ⟨i0, i1, f0, f1, fz⟩ := H4.out
      clear b4
      go_wp2_with fail
      obtain ⟨q0, q1⟩ := duo_store H4.out (.int .i64 Q.1) (.int .i64 Q.2.1)
      have qb := put2_below B4.out (Nat.le_refl _) (.int .i64 Q.1) (.int .i64 Q.2.1)
      unfold put2 at q0 q1 qb
      exact bodyPost_ret (v := ansV Q) (by simp [results, Tryd.results25, go_sem, q0, q1, ansV]) rfl ⟨rfl, qb⟩
  · have d1 := hide' (decide_eq_false h1)
    rw [d1.out]
    by_cases h2 : 0 < n2
    · have d2 := hide' (decide_eq_true h2)
      rw [d2.out]
      have R := hide' (r3.out h1 h2)
      clear h1 h2 c3 r1 r2 r3 r4 l3
      go_wp2_with fail
      refine (c4.out _ B2.out).mono ?_
      rintro e w3 ⟨u, rfl, ho⟩
      have B3 := hide' (bt' B2.out ho.2)
      have H3 := hide' (duo_below H2.out ho.2)
      have cC := lensTok u els w3 (holds_own ho) (own_cap ho) l4.out m4.out (er_below E2.out ho.2)
      obtain ⟨ua, uc, ub, uo, hu, _⟩ := holds_parts (holds_own ho)
      subst hu
      rw [← R.out] at cC
      unfold ansV at cC
      have CC := hide' cC
      clear ho cC
      go_wp2_with fail
      refine CC.out.mono ?_
      rintro e w4 ⟨rfl, b4⟩
      have B4 := hide' (bt' B3.out b4)
      have H4 := hide' (duo_below H3.out b4)
      obtain ⟨i0, i1, f0, f1, fz⟩ := H4.out
      clear b4
      go_wp2_with fail
      obtain ⟨q0, q1⟩ := duo_store H4.out (.int .i64 Q.1) (.int .i64 Q.2.1)
      have qb := put2_below B4.out (Nat.le_refl _) (.int .i64 Q.1) (.int .i64 Q.2.1)
      unfold put2 at q0 q1 qb
      exact bodyPost_ret (v := ansV Q) (by simp [results, Tryd.results25, go_sem, q0, q1, ansV]) rfl ⟨rfl, qb⟩
    · have d2 := hide' (decide_eq_false h2)
      rw [d2.out]
      have R := hide' (r4.out h1 h2)
      obtain ⟨i0, i1, f0, f1, fz⟩ := H2.out
      clear h1 h2 c3 c4 r1 r2 r3 r4 l3 l4 m4
      go_wp2_with fail
      obtain ⟨q0, q1⟩ := duo_store H2.out (.int .i64 s) (.int .i64 0)
      have qb := put2_below B2.out (Nat.le_refl _) (.int .i64 s) (.int .i64 0)
      unfold put2 at q0 q1 qb
      exact bodyPost_ret (v := ansV (s, 0, 0)) (by simp [results, Tryd.results25, go_sem, q0, q1, ansV]) rfl ⟨by rw [R.out], qb⟩
set_option maxRecDepth 20000 in
set_option maxHeartbeats 2000000 in
theorem ofReqTok (mt tg : List UInt8) (k : Int) (fs : FL) (lv : Value) (w : World) (hv : HoldsF w lv fs) (hb : bulkF fs ≤ 1048576) (E : Er w) :
    Calls Tryd.prog 11 #[.agg #[.string ⟨mt.toArray⟩, .string ⟨tg.toArray⟩, .int .i64 k, lv]] w fun e w' => e = .returned (ansV (ruleOf k fs 0)) ∧ Below w.heap.size w w' := by
  obtain ⟨ao, ca, b, o, rfl, _⟩ := holdsF_parts hv
  have b1 := below_alloc' w (.cells #[.string ⟨mt.toArray⟩, .string ⟨tg.toArray⟩, .int .i64 k, .slice ao fs.length ca] 24)
  have b2 := below_alloc' (w.alloc (.cells #[.string ⟨mt.toArray⟩, .string ⟨tg.toArray⟩, .int .i64 k, .slice ao fs.length ca] 24)) (.cells #[.int .i64 0, .int .i64 0] 28)
  have D2 := duo_lit (w.alloc (.cells #[.string ⟨mt.toArray⟩, .string ⟨tg.toArray⟩, .int .i64 k, .slice ao fs.length ca] 24)) (.int .i64 0) (.int .i64 0) 28
  have z1 : (w.alloc (.cells #[.string ⟨mt.toArray⟩, .string ⟨tg.toArray⟩, .int .i64 k, .slice ao fs.length ca] 24)).heap.size = w.heap.size + 1 := by simp
  rw [z1] at D2
  have c := byFieldsTok k 0 _ fs _ (holdsF_mono hv (bt' b1 b2)) hb (er_below E (bt' b1 b2))
  generalize ruleOf k fs 0 = Q at c ⊢
  unfold ansV at c
  have C := hide' c
  have B2 := hide' (bt' b1 b2)
  have H2 := hide' D2
  clear hv b1 b2 D2 E z1 c
  generalize fs.length = n at C B2 H2 ⊢
  go_enter Tryd.func11, Tryd.ntmps11
  go_wp2_with fail
  refine C.out.mono ?_
  rintro e w3 ⟨rfl, b3⟩
  have B3 := hide' (bt' B2.out b3)
  have H3 := hide' (duo_below H2.out b3)
  obtain ⟨i0, i1, f0, f1, fz⟩ := H3.out
  clear b3 C
  go_wp2_with fail
  obtain ⟨q0, q1⟩ := duo_store H3.out (.int .i64 Q.1) (.int .i64 Q.2.1)
  have qb := put2_below B3.out (Nat.le_succ _) (.int .i64 Q.1) (.int .i64 Q.2.1)
  unfold put2 at q0 q1 qb
  exact bodyPost_ret (v := ansV Q) (by simp [results, Tryd.results11, go_sem, q0, q1, ansV]) rfl ⟨rfl, qb⟩
set_option maxRecDepth 20000 in
set_option maxHeartbeats 2000000 in
theorem aliveF (w : World) (E : Er w) : Calls Tryd.prog 9 #[] w fun e w' => e = .returned (.bool true) ∧ Below w.heap.size w w' := by
  have b1 := below_alloc' w (.cells #[S CLb, S [53, 44, 32, 48, 53]] 48)
  have c := ofReqTok [] [] 1 [(CLb, [53, 44, 32, 48, 53])] _ _ (holdsF_lit1 w CLb [53, 44, 32, 48, 53]) (by decide) (er_below E b1)
  have e1 : ruleOf 1 [(CLb, [53, 44, 32, 48, 53])] 0 = (1, 5, 0) := by decide +kernel
  rw [e1] at c
  unfold ansV S CLb at c
  unfold S CLb at b1
  have C := hide' c
  have B1 := hide' b1
  clear c e1 E b1
  go_enter Tryd.func9, Tryd.ntmps9
  go_wp2_with fail
  refine C.out.mono ?_
  rintro e w2 ⟨rfl, b2⟩
  have B2 := hide' (bt' B1.out b2)
  have B3 := hide' (bt' B2.out (below_alloc' w2 (.cells #[.int .i64 1, .int .i64 5] 28)))
  clear b2 C
  go_wp2_with fail
  go_ret
  exact ⟨rfl, B3.out⟩
end Go.Proofs.YtnjfahidcbglpaaDoor
