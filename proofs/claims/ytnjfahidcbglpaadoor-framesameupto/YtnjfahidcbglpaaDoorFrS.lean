/- The contracts of bodiless and OfResponse, and of the document's Bare. -/
import Derived.Test.YtnjfahidcbglpaaDoorFrR
namespace Go.Proofs.YtnjfahidcbglpaaDoor
open Go.RowKit
theorem bare_head {s : Int} {m : List UInt8} (h : m = headB) : bareOf s m = true := decide_eq_true (.inl h)
theorem bare_one {s : Int} {m : List UInt8} (h : 100 ≤ s ∧ s ≤ 199) : bareOf s m = true := decide_eq_true (.inr (.inl h))
theorem bare_204 {m : List UInt8} : bareOf 204 m = true := decide_eq_true (.inr (.inr (.inl rfl)))
theorem bare_304 {m : List UInt8} : bareOf 304 m = true := decide_eq_true (.inr (.inr (.inr (.inl rfl))))
theorem bare_conn {s : Int} {m : List UInt8} (h : m = connB) (h1 : 200 ≤ s) (h2 : s ≤ 299) : bareOf s m = true := decide_eq_true (.inr (.inr (.inr (.inr ⟨h, h1, h2⟩))))
theorem bare_not {s : Int} {m : List UInt8} (h0 : ¬ m = headB) (h1 : ¬ (100 ≤ s ∧ s ≤ 199)) (h2 : ¬ s = 204) (h3 : ¬ s = 304) (h4 : ¬ (m = connB ∧ 200 ≤ s ∧ s ≤ 299)) : bareOf s m = false :=
  decide_eq_false (by rintro (h | h | h | h | h); exact h0 h; exact h1 h; exact h2 h; exact h3 h; exact h4 h)
set_option maxRecDepth 20000 in
set_option maxHeartbeats 4000000 in
theorem bodilessTok (s : Int) (m : List UInt8) (w : World) :
    Calls Tryd.prog 27 #[.int .i64 s, .string ⟨m.toArray⟩] w fun e w' => e = .returned (.bool (bareOf s m)) ∧ w' = w := by
  obtain ⟨q, eq⟩ : ∃ q, q = bareOf s m := ⟨_, rfl⟩
  rw [← eq]
  have EQ := hide' eq
  clear eq
  by_cases h0 : m = headB
  · have R := hide' (EQ.out.trans (bare_head h0))
    subst h0
    unfold headB
    go_enter Tryd.func27, Tryd.ntmps27
    go_wp2_with fail
    go_ret
    exact ⟨by rw [R.out]; rfl, rfl⟩
  · have n0 := ba_eql' _ _ h0
    have n0' : (m == headB) = false := by simpa using h0
    unfold headB at n0 n0'
    by_cases h1 : 100 ≤ s ∧ s ≤ 199
    · obtain ⟨h1a, h1b⟩ := h1
      have a2 : (s == 204) = false := by simp; omega
      have a3 : (s == 304) = false := by simp; omega
      have a4 : decide (200 ≤ s) = false := by simp; omega
      have R := hide' (EQ.out.trans (bare_one ⟨h1a, h1b⟩))
      clear h0
      by_cases h4 : m = connB
      · subst h4
        unfold connB
        clear n0 n0'
        go_enter Tryd.func27, Tryd.ntmps27
        go_wp2_with fail
        go_ret
        exact ⟨by rw [R.out]; rfl, rfl⟩
      · have n4 := ba_eql' _ _ h4
        have n4' : (m == connB) = false := by simpa using h4
        unfold connB at n4 n4'
        clear h4
        go_enter Tryd.func27, Tryd.ntmps27
        go_wp2_with fail
        go_ret
        exact ⟨by rw [R.out]; rfl, rfl⟩
    · by_cases h2 : s = 204
      · subst h2
        have R := hide' (EQ.out.trans bare_204)
        clear h0 h1
        go_enter Tryd.func27, Tryd.ntmps27
        go_wp2_with fail
        go_ret
        exact ⟨by rw [R.out]; rfl, rfl⟩
      · by_cases h3 : s = 304
        · subst h3
          have R := hide' (EQ.out.trans bare_304)
          clear h0 h1 h2
          go_enter Tryd.func27, Tryd.ntmps27
          go_wp2_with fail
          go_ret
          exact ⟨by rw [R.out]; rfl, rfl⟩
        · have a2 : (s == 204) = false := by simpa using h2
          have a3 : (s == 304) = false := by simpa using h3
          by_cases h4 : m = connB
          · by_cases h5 : 200 ≤ s
            · by_cases h6 : s ≤ 299
              · have R := hide' (EQ.out.trans (bare_conn h4 h5 h6))
                have b1 : decide (100 ≤ s) = true := by simp; omega
                have b2 : decide (s ≤ 199) = false := by simp; omega
                clear h0 h1 h2 h3 n0 n0'
                subst h4
                unfold connB
                go_enter Tryd.func27, Tryd.ntmps27
                go_wp2_with fail
                go_ret
                exact ⟨by rw [R.out]; rfl, rfl⟩
              · have R := hide' (EQ.out.trans (bare_not h0 h1 h2 h3 (fun h => h6 h.2.2)))
                have b1 : decide (100 ≤ s) = true := by simp; omega
                have b2 : decide (s ≤ 199) = false := by simp; omega
                have b3 : decide (s ≤ 299) = false := by simpa using h6
                clear h0 h1 h2 h3 n0 n0' h6
                subst h4
                unfold connB
                go_enter Tryd.func27, Tryd.ntmps27
                go_wp2_with fail
                go_ret
                exact ⟨by rw [R.out]; rfl, rfl⟩
            · have R := hide' (EQ.out.trans (bare_not h0 h1 h2 h3 (fun h => h5 h.2.1)))
              have b1 : decide (100 ≤ s) = false := by simp; omega
              have b3 : decide (200 ≤ s) = false := by simpa using h5
              clear h0 h1 h2 h3 n0 n0' h5
              subst h4
              unfold connB
              go_enter Tryd.func27, Tryd.ntmps27
              go_wp2_with fail
              go_ret
              exact ⟨by rw [R.out]; rfl, rfl⟩
          · have n4 := ba_eql' _ _ h4
            have n4' : (m == connB) = false := by simpa using h4
            unfold connB at n4 n4'
            have R := hide' (EQ.out.trans (bare_not h0 h1 h2 h3 (fun h => h4 h.1)))
            by_cases h5 : 100 ≤ s
            · have b2 : decide (s ≤ 199) = false := by simp; omega
              clear h0 h1 h2 h3 h4
              go_enter Tryd.func27, Tryd.ntmps27
              go_wp2_with fail
              go_ret
              exact ⟨by rw [R.out]; rfl, rfl⟩
            · have b1 : decide (100 ≤ s) = false := by simpa using h5
              clear h0 h1 h2 h3 h4 h5
              go_enter Tryd.func27, Tryd.ntmps27
              go_wp2_with fail
              go_ret
              exact ⟨by rw [R.out]; rfl, rfl⟩
set_option maxRecDepth 20000 in
set_option maxHeartbeats 4000000 in
theorem bareRef (s : Int) (m : List UInt8) (w : World) :
    Calls Tryd.prog 28 #[.int .i64 s, .string ⟨m.toArray⟩] w fun e w' => e = .returned (.bool (bareOf s m)) ∧ w' = w := by
  obtain ⟨q, eq⟩ : ∃ q, q = bareOf s m := ⟨_, rfl⟩
  rw [← eq]
  have EQ := hide' eq
  clear eq
  by_cases h0 : m = headB
  · have R := hide' (EQ.out.trans (bare_head h0))
    subst h0
    unfold headB
    go_enter Tryd.func28, Tryd.ntmps28
    go_wp2_with fail
    go_ret
    exact ⟨by rw [R.out]; rfl, rfl⟩
  · have n0 := ba_eql' _ _ h0
    have n0' : (m == headB) = false := by simpa using h0
    unfold headB at n0 n0'
    by_cases h1 : 100 ≤ s ∧ s ≤ 199
    · obtain ⟨h1a, h1b⟩ := h1
      have a2 : (s == 204) = false := by simp; omega
      have a3 : (s == 304) = false := by simp; omega
      have a4 : decide (200 ≤ s) = false := by simp; omega
      have R := hide' (EQ.out.trans (bare_one ⟨h1a, h1b⟩))
      clear h0
      by_cases h4 : m = connB
      · subst h4
        unfold connB
        clear n0 n0'
        go_enter Tryd.func28, Tryd.ntmps28
        go_wp2_with fail
        go_ret
        exact ⟨by rw [R.out]; rfl, rfl⟩
      · have n4 := ba_eql' _ _ h4
        have n4' : (m == connB) = false := by simpa using h4
        unfold connB at n4 n4'
        clear h4
        go_enter Tryd.func28, Tryd.ntmps28
        go_wp2_with fail
        go_ret
        exact ⟨by rw [R.out]; rfl, rfl⟩
    · by_cases h2 : s = 204
      · subst h2
        have R := hide' (EQ.out.trans bare_204)
        clear h0 h1
        go_enter Tryd.func28, Tryd.ntmps28
        go_wp2_with fail
        go_ret
        exact ⟨by rw [R.out]; rfl, rfl⟩
      · by_cases h3 : s = 304
        · subst h3
          have R := hide' (EQ.out.trans bare_304)
          clear h0 h1 h2
          go_enter Tryd.func28, Tryd.ntmps28
          go_wp2_with fail
          go_ret
          exact ⟨by rw [R.out]; rfl, rfl⟩
        · have a2 : (s == 204) = false := by simpa using h2
          have a3 : (s == 304) = false := by simpa using h3
          by_cases h4 : m = connB
          · by_cases h5 : 200 ≤ s
            · by_cases h6 : s ≤ 299
              · have R := hide' (EQ.out.trans (bare_conn h4 h5 h6))
                have b1 : decide (100 ≤ s) = true := by simp; omega
                have b2 : decide (s ≤ 199) = false := by simp; omega
                clear h0 h1 h2 h3 n0 n0'
                subst h4
                unfold connB
                go_enter Tryd.func28, Tryd.ntmps28
                go_wp2_with fail
                go_ret
                exact ⟨by rw [R.out]; rfl, rfl⟩
              · have R := hide' (EQ.out.trans (bare_not h0 h1 h2 h3 (fun h => h6 h.2.2)))
                have b1 : decide (100 ≤ s) = true := by simp; omega
                have b2 : decide (s ≤ 199) = false := by simp; omega
                have b3 : decide (s ≤ 299) = false := by simpa using h6
                clear h0 h1 h2 h3 n0 n0' h6
                subst h4
                unfold connB
                go_enter Tryd.func28, Tryd.ntmps28
                go_wp2_with fail
                go_ret
                exact ⟨by rw [R.out]; rfl, rfl⟩
            · have R := hide' (EQ.out.trans (bare_not h0 h1 h2 h3 (fun h => h5 h.2.1)))
              have b1 : decide (100 ≤ s) = false := by simp; omega
              have b3 : decide (200 ≤ s) = false := by simpa using h5
              clear h0 h1 h2 h3 n0 n0' h5
              subst h4
              unfold connB
              go_enter Tryd.func28, Tryd.ntmps28
              go_wp2_with fail
              go_ret
              exact ⟨by rw [R.out]; rfl, rfl⟩
          · have n4 := ba_eql' _ _ h4
            have n4' : (m == connB) = false := by simpa using h4
            unfold connB at n4 n4'
            have R := hide' (EQ.out.trans (bare_not h0 h1 h2 h3 (fun h => h4 h.1)))
            by_cases h5 : 100 ≤ s
            · have b2 : decide (s ≤ 199) = false := by simp; omega
              clear h0 h1 h2 h3 h4
              go_enter Tryd.func28, Tryd.ntmps28
              go_wp2_with fail
              go_ret
              exact ⟨by rw [R.out]; rfl, rfl⟩
            · have b1 : decide (100 ≤ s) = false := by simpa using h5
              clear h0 h1 h2 h3 h4 h5
              go_enter Tryd.func28, Tryd.ntmps28
              go_wp2_with fail
              go_ret
              exact ⟨by rw [R.out]; rfl, rfl⟩
theorem resp_bare {s k : Int} {fs : FL} {m : List UInt8} (h : bareOf s m = true) : respOf s k fs m = (0, 0, 0) := by unfold respOf; rw [if_pos h]
theorem resp_rule {s k : Int} {fs : FL} {m : List UInt8} (h : bareOf s m = false) : respOf s k fs m = ruleOf k fs 3 := by unfold respOf; rw [if_neg (by rw [h]; decide)]
set_option maxRecDepth 20000 in
set_option maxHeartbeats 4000000 in
theorem ofResTok (s k : Int) (r m : List UInt8) (fs : FL) (lv : Value) (w : World) (hv : HoldsF w lv fs) (hb : bulkF fs ≤ 1048576) (E : Er w) :
    Calls Tryd.prog 15 #[.agg #[.int .i64 s, .string ⟨r.toArray⟩, .int .i64 k, lv], .string ⟨m.toArray⟩] w fun e w' => e = .returned (ansV (respOf s k fs m)) ∧ Below w.heap.size w w' := by
  obtain ⟨ao, ca, b, o, rfl, _⟩ := holdsF_parts hv
  have b1 := below_alloc' w (.cells #[.int .i64 s, .string ⟨r.toArray⟩, .int .i64 k, .slice ao fs.length ca] 35)
  have b2 := below_alloc' (w.alloc (.cells #[.int .i64 s, .string ⟨r.toArray⟩, .int .i64 k, .slice ao fs.length ca] 35)) (.cells #[.int .i64 0, .int .i64 0] 28)
  have D2 := duo_lit (w.alloc (.cells #[.int .i64 s, .string ⟨r.toArray⟩, .int .i64 k, .slice ao fs.length ca] 35)) (.int .i64 0) (.int .i64 0) 28
  have z1 : (w.alloc (.cells #[.int .i64 s, .string ⟨r.toArray⟩, .int .i64 k, .slice ao fs.length ca] 35)).heap.size = w.heap.size + 1 := by simp
  rw [z1] at D2
  have c := byFieldsTok k 3 _ fs _ (holdsF_mono hv (bt' b1 b2)) hb (er_below E (bt' b1 b2))
  have cb := hide' (bodilessTok s m ((w.alloc (.cells #[.int .i64 s, .string ⟨r.toArray⟩, .int .i64 k, .slice ao fs.length ca] 35)).alloc (.cells #[.int .i64 0, .int .i64 0] 28)))
  have r1 := hide' (resp_bare (s := s) (k := k) (fs := fs) (m := m))
  have r2 := hide' (resp_rule (s := s) (k := k) (fs := fs) (m := m))
  generalize bareOf s m = d at cb r1 r2
  generalize respOf s k fs m = Q at r1 r2 ⊢
  have B2 := hide' (bt' b1 b2)
  have H2 := hide' D2
  clear hv b1 b2 D2 E z1
  generalize ruleOf k fs 3 = Q' at c r2
  generalize fs.length = n at c cb B2 H2 ⊢
  unfold ansV at c
  have C := hide' c
  clear c
  go_enter Tryd.func15, Tryd.ntmps15
  go_wp2_with fail
  refine cb.out.mono ?_
  rintro e w' ⟨rfl, ew⟩
  rw [ew]
  clear ew w' cb
  cases d with
  | true =>
    have R := hide' (r1.out rfl)
    clear r1 r2 C
    go_wp2_with fail
    exact bodyPost_ret (v := ansV (0, 0, 0)) (by simp [results, Tryd.results15, go_sem, ansV]) rfl ⟨by rw [R.out], B2.out⟩
  | false =>
    have R := hide' (r2.out rfl)
    clear r1 r2
    go_wp2_with fail
    refine C.out.mono ?_
    rintro e w3 ⟨rfl, b3⟩
    have B3 := hide' (bt' B2.out b3)
    have H3 := hide' (duo_below H2.out b3)
    obtain ⟨i0, i1, f0, f1, fz⟩ := H3.out
    clear b3 C
    go_wp2_with fail
    obtain ⟨q0, q1⟩ := duo_store H3.out (.int .i64 Q'.1) (.int .i64 Q'.2.1)
    have qb := put2_below B3.out (Nat.le_succ _) (.int .i64 Q'.1) (.int .i64 Q'.2.1)
    unfold put2 at q0 q1 qb
    exact bodyPost_ret (v := ansV Q') (by simp [results, Tryd.results15, go_sem, q0, q1, ansV]) rfl ⟨by rw [R.out], qb⟩
end Go.Proofs.YtnjfahidcbglpaaDoor
