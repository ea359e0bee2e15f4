/- The contracts of the document's OfRequest and OfResponse. -/
import Derived.Test.YtnjfahidcbglpaaDoorFrU
import Derived.Test.YtnjfahidcbglpaaDoorFrS
namespace Go.Proofs.YtnjfahidcbglpaaDoor
open Go.RowKit
set_option maxRecDepth 20000 in
set_option maxHeartbeats 2000000 in
theorem ofReqRef (mt tg : List UInt8) (k : Int) (fs : FL) (lv : Value) (w : World) (hv : HoldsF w lv fs) (hb : bulkF fs ≤ 1048576) :
    Calls Tryd.prog 12 #[.agg #[.string ⟨mt.toArray⟩, .string ⟨tg.toArray⟩, .int .i64 k, lv]] w fun e w' => e = .returned (ansV (ruleOf k fs 0)) ∧ Below w.heap.size w w' := by
  obtain ⟨ao, ca, b, o, rfl, _⟩ := holdsF_parts hv
  have b1 := below_alloc' w (.cells #[.string ⟨mt.toArray⟩, .string ⟨tg.toArray⟩, .int .i64 k, .slice ao fs.length ca] 24)
  have b2 := below_alloc' (w.alloc (.cells #[.string ⟨mt.toArray⟩, .string ⟨tg.toArray⟩, .int .i64 k, .slice ao fs.length ca] 24)) (.cells #[.int .i64 0, .int .i64 0] 28)
  have D2 := duo_lit (w.alloc (.cells #[.string ⟨mt.toArray⟩, .string ⟨tg.toArray⟩, .int .i64 k, .slice ao fs.length ca] 24)) (.int .i64 0) (.int .i64 0) 28
  have z1 : (w.alloc (.cells #[.string ⟨mt.toArray⟩, .string ⟨tg.toArray⟩, .int .i64 k, .slice ao fs.length ca] 24)).heap.size = w.heap.size + 1 := by simp
  rw [z1] at D2
  have c := ruleRef k _ fs _ (holdsF_mono hv (bt' b1 b2)) hb
  generalize ruleOf k fs 0 = Q at c ⊢
  unfold ansV at c
  have C := hide' c
  have B2 := hide' (bt' b1 b2)
  have H2 := hide' D2
  clear hv b1 b2 D2 z1 c
  generalize fs.length = n at C B2 H2 ⊢
  go_enter Tryd.func12, Tryd.ntmps12
  go_wp2_with fail
  refine C.out.mono ?_
  rintro e w3 ⟨rfl, b3⟩
  have B3 := hide' (bt' B2.out b3)
  have H3 := hide' (duo_below H2.out b3)
  obtain ⟨i0, i1, f0, f1, fz⟩ := H3.out
  clear b3 C
  go_wp2_with fail
  obtain ⟨q0, q1⟩ := duo_store H3.out (.int .i64 Q.1) (.int .i64 Q.2.1)
  have qb := put2_below B3.out (Nat.le_succ _) (.int .i64 Q.1) (.int .i64 Q.2.1)
  unfold put2 at q0 q1 qb
  exact bodyPost_ret (v := ansV Q) (by simp [results, Tryd.results12, go_sem, q0, q1, ansV]) rfl ⟨rfl, qb⟩
theorem cod_kind (m : Int) (ws : List (List UInt8)) : ¬ ((codOf m ws).2.2 = 0 ∧ (codOf m ws).1 = 0) := by
  unfold codOf
  split <;> simp
theorem lens_kind (els : List (List UInt8)) : ¬ ((lensOf els).2.2 = 0 ∧ (lensOf els).1 = 0) := by
  cases els with
  | nil => rw [lens_nil]; simp
  | cons x r =>
    rw [lens_cons]
    split
    · split <;> simp
    · simp
/-- where the rule says none, the body goes on to the close -/
theorem rule_three (k : Int) (fs : FL) : ruleOf k fs 3 = if (ruleOf k fs 0).2.2 = 0 ∧ (ruleOf k fs 0).1 = 0 then (3, (ruleOf k fs 0).2.1, (ruleOf k fs 0).2.2) else ruleOf k fs 0 := by
  by_cases h1 : 0 < (valsOf fs TEb).length
  · by_cases h2 : 0 < (valsOf fs CLb).length
    · rw [rule_both h1 h2, rule_both h1 h2]; simp
    · rw [rule_cod h1 h2, rule_cod h1 h2, if_neg (cod_kind _ _)]
  · by_cases h2 : 0 < (valsOf fs CLb).length
    · rw [rule_len h1 h2, rule_len h1 h2, if_neg (lens_kind _)]
    · rw [rule_none h1 h2, rule_none h1 h2]; simp
theorem duo_set0 {b : Nat} {W : World} {v0 v1 : Value} (h : Duo b W v0 v1) (x : Value) : Duo b (W.setCell ⟨b, 0, none⟩ x) x v1 := by
  obtain ⟨h0, h1, f0, f1, hz⟩ := h
  exact ⟨World.cell?_setCell_same _ _ _ h0, by rw [oth4 (by decide)]; exact h1, by rw [frozen_set4]; exact f0, by rw [frozen_set4]; exact f1, by simpa [World.setCell] using hz⟩
theorem duo_other {b c o : Nat} {W : World} {v0 v1 : Value} (h : Duo b W v0 v1) (hne : b ≠ c) (x : Value) : Duo b (W.setCell ⟨c, o, none⟩ x) v0 v1 := by
  obtain ⟨h0, h1, f0, f1, hz⟩ := h
  have c : ∀ i, (W.setCell ⟨c, o, none⟩ x).cell? ⟨b, i, none⟩ = W.cell? ⟨b, i, none⟩ := fun i => by simp [World.cell?, heap_setCell_other W ⟨c, o, none⟩ b x hne]
  exact ⟨by rw [c]; exact h0, by rw [c]; exact h1, by simpa using f0, by simpa using f1, by simpa using hz⟩
set_option maxRecDepth 20000 in
set_option maxHeartbeats 4000000 in
theorem ofResRef (s k : Int) (r m : List UInt8) (fs : FL) (lv : Value) (w : World) (hv : HoldsF w lv fs) (hb : bulkF fs ≤ 1048576) :
    Calls Tryd.prog 16 #[.agg #[.int .i64 s, .string ⟨r.toArray⟩, .int .i64 k, lv], .string ⟨m.toArray⟩] w fun e w' => e = .returned (ansV (respOf s k fs m)) ∧ Below w.heap.size w w' := by
  obtain ⟨ao, ca, b, o, rfl, _⟩ := holdsF_parts hv
  have b1 := below_alloc' w (.cells #[.int .i64 s, .string ⟨r.toArray⟩, .int .i64 k, .slice ao fs.length ca] 35)
  have b2 := below_alloc' (w.alloc (.cells #[.int .i64 s, .string ⟨r.toArray⟩, .int .i64 k, .slice ao fs.length ca] 35)) (.cells #[.int .i64 0, .int .i64 0] 28)
  have D2 := duo_lit (w.alloc (.cells #[.int .i64 s, .string ⟨r.toArray⟩, .int .i64 k, .slice ao fs.length ca] 35)) (.int .i64 0) (.int .i64 0) 28
  have z1 : (w.alloc (.cells #[.int .i64 s, .string ⟨r.toArray⟩, .int .i64 k, .slice ao fs.length ca] 35)).heap.size = w.heap.size + 1 := by simp
  rw [z1] at D2
  have c := ruleRef k _ fs _ (holdsF_mono hv (bt' b1 b2)) hb
  have cb := hide' (bareRef s m ((w.alloc (.cells #[.int .i64 s, .string ⟨r.toArray⟩, .int .i64 k, .slice ao fs.length ca] 35)).alloc (.cells #[.int .i64 0, .int .i64 0] 28)))
  have r1 := hide' (resp_bare (s := s) (k := k) (fs := fs) (m := m))
  have r2 := resp_rule (s := s) (k := k) (fs := fs) (m := m)
  rw [rule_three] at r2
  generalize bareOf s m = d at cb r1 r2
  generalize respOf s k fs m = Q at r1 r2 ⊢
  have B2 := hide' (bt' b1 b2)
  have H2 := hide' D2
  clear hv b1 b2 D2 z1
  generalize ruleOf k fs 0 = Q' at c r2
  generalize fs.length = n at c cb B2 H2 ⊢
  obtain ⟨x1, x2, x3⟩ := Q'
  unfold ansV at c
  simp only at c r2
  have C := hide' c
  have r2 := hide' r2
  clear c
  go_enter Tryd.func16, Tryd.ntmps16
  go_wp2_with fail
  refine cb.out.mono ?_
  rintro e w' ⟨rfl, ew⟩
  rw [ew]
  clear ew w' cb
  cases d with
  | true =>
    have R := hide' (r1.out rfl)
    clear r1 r2 C
    go_wp2_with fail
    exact bodyPost_ret (v := ansV (0, 0, 0)) (by simp [results, Tryd.results16, go_sem, ansV]) rfl ⟨by rw [R.out], B2.out⟩
  | false =>
    have R0 := r2.out rfl
    clear r1 r2
    go_wp2_with fail
    refine C.out.mono ?_
    rintro e w3 ⟨rfl, b3⟩
    have B3 := hide' (bt' B2.out b3)
    have H3 := hide' (duo_below H2.out b3)
    clear b3 C
    have fin : ∀ (y : Int) (W : World), W = w3.alloc (.cells #[.int .i64 y, .int .i64 x2] 28) → Duo (w.heap.size + 1) W (.int .i64 0) (.int .i64 0) ∧ Below w.heap.size w W := by
      rintro y W rfl
      exact ⟨duo_below H3.out (below_alloc' w3 _), bt' B3.out (below_alloc' w3 _)⟩
    by_cases h3 : x3 = 0
    · subst h3
      by_cases h1 : x1 = 0
      · subst h1
        rw [if_pos ⟨rfl, rfl⟩] at R0
        have R := hide' R0
        obtain ⟨HD, hB⟩ := fin 3 _ rfl
        have HH := hide' HD
        have BB := hide' hB
        obtain ⟨i0, i1, f0, f1, fz⟩ := HD
        clear R0 fin hB
        go_wp2_with fail
        obtain ⟨q0, q1⟩ := duo_store HH.out (.int .i64 3) (.int .i64 x2)
        have qb := put2_below BB.out (Nat.le_succ _) (.int .i64 3) (.int .i64 x2)
        unfold put2 at q0 q1 qb
        exact bodyPost_ret (v := ansV (3, x2, 0)) (by simp [results, Tryd.results16, go_sem, q0, q1, ansV]) rfl ⟨by rw [R.out], qb⟩
      · rw [if_neg (fun h => h1 h.2)] at R0
        have R := hide' R0
        have h1' : (x1 == 0) = false := by simpa using h1
        obtain ⟨HD, hB⟩ := fin x1 _ rfl
        have HH := hide' HD
        have BB := hide' hB
        obtain ⟨i0, i1, f0, f1, fz⟩ := HD
        clear R0 fin hB h1
        go_wp2_with fail
        obtain ⟨q0, q1⟩ := duo_store HH.out (.int .i64 x1) (.int .i64 x2)
        have qb := put2_below BB.out (Nat.le_succ _) (.int .i64 x1) (.int .i64 x2)
        unfold put2 at q0 q1 qb
        exact bodyPost_ret (v := ansV (x1, x2, 0)) (by simp [results, Tryd.results16, go_sem, q0, q1, ansV]) rfl ⟨by rw [R.out], qb⟩
    · rw [if_neg (fun h => h3 h.1)] at R0
      have R := hide' R0
      have h3' : (x3 == 0) = false := by simpa using h3
      obtain ⟨HD, hB⟩ := fin x1 _ rfl
      have HH := hide' HD
      have BB := hide' hB
      obtain ⟨i0, i1, f0, f1, fz⟩ := HD
      clear R0 fin hB h3
      go_wp2_with fail
      obtain ⟨q0, q1⟩ := duo_store HH.out (.int .i64 x1) (.int .i64 x2)
      have qb := put2_below BB.out (Nat.le_succ _) (.int .i64 x1) (.int .i64 x2)
      unfold put2 at q0 q1 qb
      exact bodyPost_ret (v := ansV (x1, x2, x3)) (by simp [results, Tryd.results16, go_sem, q0, q1, ansV]) rfl ⟨by rw [R.out], qb⟩
end Go.Proofs.YtnjfahidcbglpaaDoor
