/- The contracts of bodiless and OfResponse, and of the document's Bare. The contracts of the document's number and rule. The contract of the document's rule. The contracts of the document's OfRequest and OfResponse. -/
import Derived.Test.YtmikgpmnffdnnabGreatDoorBj
namespace Go.Proofs.YtmikgpmnffdnnabGreatDoor
open Go.RowKit
theorem bare_head {s : Int} {m : List UInt8} (h : m = headB) : bareOf s m = true := decide_eq_true (.inl h)
theorem bare_one {s : Int} {m : List UInt8} (h : 100 ≤ s ∧ s ≤ 199) : bareOf s m = true := decide_eq_true (.inr (.inl h))
theorem bare_204 {m : List UInt8} : bareOf 204 m = true := decide_eq_true (.inr (.inr (.inl rfl)))
theorem bare_304 {m : List UInt8} : bareOf 304 m = true := decide_eq_true (.inr (.inr (.inr (.inl rfl))))
theorem bare_conn {s : Int} {m : List UInt8} (h : m = connB) (h1 : 200 ≤ s) (h2 : s ≤ 299) : bareOf s m = true := decide_eq_true (.inr (.inr (.inr (.inr ⟨h, h1, h2⟩))))
theorem bare_not {s : Int} {m : List UInt8} (h0 : ¬ m = headB) (h1 : ¬ (100 ≤ s ∧ s ≤ 199)) (h2 : ¬ s = 204) (h3 : ¬ s = 304) (h4 : ¬ (m = connB ∧ 200 ≤ s ∧ s ≤ 299)) : bareOf s m = false :=
  decide_eq_false (by rintro (h | h | h | h | h); exact h0 h; exact h1 h; exact h2 h; exact h3 h; exact h4 h)
set_option maxRecDepth 20000 in
set_option maxHeartbeats 4000000 in
theorem bodilessTok (s : Int) (m : List UInt8) (w : World) :
    Calls Tryz.prog 50 #[.int .i64 s, .string ⟨m.toArray⟩] w fun e w' => e = .returned (.bool (bareOf s m)) ∧ w' = w := by
  obtain ⟨q, eq⟩ : ∃ q, q = bareOf s m := ⟨_, rfl⟩
  rw [← eq]
  have EQ := hide' eq
  clear eq
  by_cases h0 : m = headB
  · have R := hide' (EQ.out.trans (bare_head h0))
    subst h0
    unfold headB
    go_enter Tryz.func50, Tryz.ntmps50
    go_wp2_with fail
    go_ret
    exact ⟨by rw [R.out]; rfl, rfl⟩
  · have n0 := ba_eql' _ _ h0
    have n0' : (m == headB) = false := by simpa using h0
    unfold headB at n0 n0'
    by_cases h1 : 100 ≤ s ∧ s ≤ 199
    · obtain ⟨h1a, h1b⟩ := h1
      have a2 : (s == 204) = false := by simp; omega
      have a3 : (s == 304) = false := by simp; omega
      have a4 : decide (200 ≤ s) = false := by simp; omega
      have R := hide' (EQ.out.trans (bare_one ⟨h1a, h1b⟩))
      clear h0
      by_cases h4 : m = connB
      · subst h4
        unfold connB
        clear n0 n0'
        go_enter Tryz.func50, Tryz.ntmps50
        go_wp2_with fail
        go_ret
        exact ⟨by rw [R.out]; rfl, rfl⟩
      · have n4 := ba_eql' _ _ h4
        have n4' : (m == connB) = false := by simpa using h4
        unfold connB at n4 n4'
        clear h4
        go_enter Tryz.func50, Tryz.ntmps50
        go_wp2_with fail
        go_ret
        exact ⟨by rw [R.out]; rfl, rfl⟩
    · by_cases h2 : s = 204
      · subst h2
        have R := hide' (EQ.out.trans bare_204)
        clear h0 h1
        go_enter Tryz.func50, Tryz.ntmps50
        go_wp2_with fail
        go_ret
        exact ⟨by rw [R.out]; rfl, rfl⟩
      · by_cases h3 : s = 304
        · subst h3
          have R := hide' (EQ.out.trans bare_304)
          clear h0 h1 h2
          go_enter Tryz.func50, Tryz.ntmps50
          go_wp2_with fail
          go_ret
          exact ⟨by rw [R.out]; rfl, rfl⟩
        · have a2 : (s == 204) = false := by simpa using h2
          have a3 : (s == 304) = false := by simpa using h3
          by_cases h4 : m = connB
          · by_cases h5 : 200 ≤ s
            · by_cases h6 : s ≤ 299
              · have R := hide' (EQ.out.trans (bare_conn h4 h5 h6))
                have b1 : decide (100 ≤ s) = true := by simp; omega
                have b2 : decide (s ≤ 199) = false := by simp; omega
                clear h0 h1 h2 h3 n0 n0'
                subst h4
                unfold connB
                go_enter Tryz.func50, Tryz.ntmps50
                go_wp2_with fail
                go_ret
                exact ⟨by rw [R.out]; rfl, rfl⟩
              · have R := hide' (EQ.out.trans (bare_not h0 h1 h2 h3 (fun h => h6 h.2.2)))
                have b1 : decide (100 ≤ s) = true := by simp; omega
                have b2 : decide (s ≤ 199) = false := by simp; omega
                have b3 : decide (s ≤ 299) = false := by simpa using h6
                clear h0 h1 h2 h3 n0 n0' h6
                subst h4
                unfold connB
                go_enter Tryz.func50, Tryz.ntmps50
                go_wp2_with fail
                go_ret
                exact ⟨by rw [R.out]; rfl, rfl⟩
            · have R := hide' (EQ.out.trans (bare_not h0 h1 h2 h3 (fun h => h5 h.2.1)))
              have b1 : decide (100 ≤ s) = false := by simp; omega
              have b3 : decide (200 ≤ s) = false := by simpa using h5
              clear h0 h1 h2 h3 n0 n0' h5
              subst h4
              unfold connB
              go_enter Tryz.func50, Tryz.ntmps50
              go_wp2_with fail
              go_ret
              exact ⟨by rw [R.out]; rfl, rfl⟩
          · have n4 := ba_eql' _ _ h4
            have n4' : (m == connB) = false := by simpa using h4
            unfold connB at n4 n4'
            have R := hide' (EQ.out.trans (bare_not h0 h1 h2 h3 (fun h => h4 h.1)))
            by_cases h5 : 100 ≤ s
            · have b2 : decide (s ≤ 199) = false := by simp; omega
              clear h0 h1 h2 h3 h4
              go_enter Tryz.func50, Tryz.ntmps50
              go_wp2_with fail
              go_ret
              exact ⟨by rw [R.out]; rfl, rfl⟩
            · have b1 : decide (100 ≤ s) = false := by simpa using h5
              clear h0 h1 h2 h3 h4 h5
              go_enter Tryz.func50, Tryz.ntmps50
              go_wp2_with fail
              go_ret
              exact ⟨by rw [R.out]; rfl, rfl⟩
set_option maxRecDepth 20000 in
set_option maxHeartbeats 4000000 in
theorem bareRef (s : Int) (m : List UInt8) (w : World) :
    Calls Tryz.prog 48 #[.int .i64 s, .string ⟨m.toArray⟩] w fun e w' => e = .returned (.bool (bareOf s m)) ∧ w' = w := by
  obtain ⟨q, eq⟩ : ∃ q, q = bareOf s m := ⟨_, rfl⟩
  rw [← eq]
  have EQ := hide' eq
  clear eq
  by_cases h0 : m = headB
  · have R := hide' (EQ.out.trans (bare_head h0))
    subst h0
    unfold headB
    go_enter Tryz.func48, Tryz.ntmps48
    go_wp2_with fail
    go_ret
    exact ⟨by rw [R.out]; rfl, rfl⟩
  · have n0 := ba_eql' _ _ h0
    have n0' : (m == headB) = false := by simpa using h0
    unfold headB at n0 n0'
    by_cases h1 : 100 ≤ s ∧ s ≤ 199
    · obtain ⟨h1a, h1b⟩ := h1
      have a2 : (s == 204) = false := by simp; omega
      have a3 : (s == 304) = false := by simp; omega
      have a4 : decide (200 ≤ s) = false := by simp; omega
      have R := hide' (EQ.out.trans (bare_one ⟨h1a, h1b⟩))
      clear h0
      by_cases h4 : m = connB
      · subst h4
        unfold connB
        clear n0 n0'
        go_enter Tryz.func48, Tryz.ntmps48
        go_wp2_with fail
        go_ret
        exact ⟨by rw [R.out]; rfl, rfl⟩
      · have n4 := ba_eql' _ _ h4
        have n4' : (m == connB) = false := by simpa using h4
        unfold connB at n4 n4'
        clear h4
        go_enter Tryz.func48, Tryz.ntmps48
        go_wp2_with fail
        go_ret
        exact ⟨by rw [R.out]; rfl, rfl⟩
    · by_cases h2 : s = 204
      · subst h2
        have R := hide' (EQ.out.trans bare_204)
        clear h0 h1
        go_enter Tryz.func48, Tryz.ntmps48
        go_wp2_with fail
        go_ret
        exact ⟨by rw [R.out]; rfl, rfl⟩
      · by_cases h3 : s = 304
        · subst h3
          have R := hide' (EQ.out.trans bare_304)
          clear h0 h1 h2
          go_enter Tryz.func48, Tryz.ntmps48
          go_wp2_with fail
          go_ret
          exact ⟨by rw [R.out]; rfl, rfl⟩
        · have a2 : (s == 204) = false := by simpa using h2
          have a3 : (s == 304) = false := by simpa using h3
          by_cases h4 : m = connB
          · by_cases h5 : 200 ≤ s
            · by_cases h6 : s ≤ 299
              · have R := hide' (EQ.out.trans (bare_conn h4 h5 h6))
                have b1 : decide (100 ≤ s) = true := by simp; omega
                have b2 : decide (s ≤ 199) = false := by simp; omega
                clear h0 h1 h2 h3 n0 n0'
                subst h4
                unfold connB
                go_enter Tryz.func48, Tryz.ntmps48
                go_wp2_with fail
                go_ret
                exact ⟨by rw [R.out]; rfl, rfl⟩
              · have R := hide' (EQ.out.trans (bare_not h0 h1 h2 h3 (fun h => h6 h.2.2)))
                have b1 : decide (100 ≤ s) = true := by simp; omega
                have b2 : decide (s ≤ 199) = false := by simp; omega
                have b3 : decide (s ≤ 299) = false := by simpa using h6
                clear h0 h1 h2 h3 n0 n0' h6
                subst h4
                unfold connB
                go_enter Tryz.func48, Tryz.ntmps48
                go_wp2_with fail
                go_ret
                exact ⟨by rw [R.out]; rfl, rfl⟩
            · have R := hide' (EQ.out.trans (bare_not h0 h1 h2 h3 (fun h => h5 h.2.1)))
              have b1 : decide (100 ≤ s) = false := by simp; omega
              have b3 : decide (200 ≤ s) = false := by simpa using h5
              clear h0 h1 h2 h3 n0 n0' h5
              subst h4
              unfold connB
              go_enter Tryz.func48, Tryz.ntmps48
              go_wp2_with fail
              go_ret
              exact ⟨by rw [R.out]; rfl, rfl⟩
          · have n4 := ba_eql' _ _ h4
            have n4' : (m == connB) = false := by simpa using h4
            unfold connB at n4 n4'
            have R := hide' (EQ.out.trans (bare_not h0 h1 h2 h3 (fun h => h4 h.1)))
            by_cases h5 : 100 ≤ s
            · have b2 : decide (s ≤ 199) = false := by simp; omega
              clear h0 h1 h2 h3 h4
              go_enter Tryz.func48, Tryz.ntmps48
              go_wp2_with fail
              go_ret
              exact ⟨by rw [R.out]; rfl, rfl⟩
            · have b1 : decide (100 ≤ s) = false := by simpa using h5
              clear h0 h1 h2 h3 h4 h5
              go_enter Tryz.func48, Tryz.ntmps48
              go_wp2_with fail
              go_ret
              exact ⟨by rw [R.out]; rfl, rfl⟩
theorem resp_bare {s k : Int} {fs : FL} {m : List UInt8} (h : bareOf s m = true) : fresOf s k fs m = (0, 0, 0) := by unfold fresOf; rw [if_pos h]
theorem resp_rule {s k : Int} {fs : FL} {m : List UInt8} (h : bareOf s m = false) : fresOf s k fs m = ruleOf k fs 3 := by unfold fresOf; rw [if_neg (by rw [h]; decide)]
set_option maxRecDepth 20000 in
set_option maxHeartbeats 4000000 in
theorem ofResTok (s k : Int) (r m : List UInt8) (fs : FL) (lv : Value) (w : World) (hv : HoldsF w lv fs) (hb : bulkF fs ≤ 1048576) (E : Er w) :
    Calls Tryz.prog 28 #[.agg #[.int .i64 s, .string ⟨r.toArray⟩, .int .i64 k, lv], .string ⟨m.toArray⟩] w fun e w' => e = .returned (ansV (fresOf s k fs m)) ∧ Below w.heap.size w w' := by
  obtain ⟨ao, ca, b, o, rfl, _⟩ := holdsF_parts hv
  have b1 := below_alloc' w (.cells #[.int .i64 s, .string ⟨r.toArray⟩, .int .i64 k, .slice ao fs.length ca] 28)
  have b2 := below_alloc' (w.alloc (.cells #[.int .i64 s, .string ⟨r.toArray⟩, .int .i64 k, .slice ao fs.length ca] 28)) (.cells #[.int .i64 0, .int .i64 0] 48)
  have D2 := duo_lit (w.alloc (.cells #[.int .i64 s, .string ⟨r.toArray⟩, .int .i64 k, .slice ao fs.length ca] 28)) (.int .i64 0) (.int .i64 0) 48
  have z1 : (w.alloc (.cells #[.int .i64 s, .string ⟨r.toArray⟩, .int .i64 k, .slice ao fs.length ca] 28)).heap.size = w.heap.size + 1 := by simp
  rw [z1] at D2
  have c := byFieldsTok k 3 _ fs _ (holdsF_mono hv (bt' b1 b2)) hb (er_below E (bt' b1 b2))
  have cb := hide' (bodilessTok s m ((w.alloc (.cells #[.int .i64 s, .string ⟨r.toArray⟩, .int .i64 k, .slice ao fs.length ca] 28)).alloc (.cells #[.int .i64 0, .int .i64 0] 48)))
  have r1 := hide' (resp_bare (s := s) (k := k) (fs := fs) (m := m))
  have r2 := hide' (resp_rule (s := s) (k := k) (fs := fs) (m := m))
  generalize bareOf s m = d at cb r1 r2
  generalize fresOf s k fs m = Q at r1 r2 ⊢
  have B2 := hide' (bt' b1 b2)
  have H2 := hide' D2
  clear hv b1 b2 D2 E z1
  generalize ruleOf k fs 3 = Q' at c r2
  generalize fs.length = n at c cb B2 H2 ⊢
  unfold ansV at c
  have C := hide' c
  clear c
  go_enter Tryz.func28, Tryz.ntmps28
  go_wp2_with fail
  refine cb.out.mono ?_
  rintro e w' ⟨rfl, ew⟩
  rw [ew]
  clear ew w' cb
  cases d with
  | true =>
    have R := hide' (r1.out rfl)
    clear r1 r2 C
    go_wp2_with fail
    exact bodyPost_ret (v := ansV (0, 0, 0)) (by simp [results, Tryz.results28, go_sem, ansV]) rfl ⟨by rw [R.out], B2.out⟩
  | false =>
    have R := hide' (r2.out rfl)
    clear r1 r2
    go_wp2_with fail
    refine C.out.mono ?_
    rintro e w3 ⟨rfl, b3⟩
    have B3 := hide' (bt' B2.out b3)
    have H3 := hide' (duo_below H2.out b3)
    obtain ⟨i0, i1, f0, f1, fz⟩ := H3.out
    clear b3 C
    go_wp2_with fail
    obtain ⟨q0, q1⟩ := duo_store H3.out (.int .i64 Q'.1) (.int .i64 Q'.2.1)
    have qb := put2_below B3.out (Nat.le_succ _) (.int .i64 Q'.1) (.int .i64 Q'.2.1)
    unfold put2 at q0 q1 qb
    exact bodyPost_ret (v := ansV Q') (by simp [results, Tryz.results28, go_sem, q0, q1, ansV]) rfl ⟨by rw [R.out], qb⟩
end Go.Proofs.YtmikgpmnffdnnabGreatDoor
namespace Go.Proofs.YtmikgpmnffdnnabGreatDoor
open Go.RowKit
theorem numA_snoc (l : List UInt8) (c : UInt8) (acc : Nat) : numA acc (l ++ [c]) = numA acc l * 10 + (c.toNat - 48) := by unfold numA; rw [List.foldl_append]; rfl
theorem numR_short {l : List UInt8} (h : l.length < 1) : numR l = -1 := by
  unfold numR isNum
  rw [decide_eq_false (by omega)]
  rfl
theorem numR_long {l : List UInt8} (h : 18 < l.length) : numR l = -1 := by
  unfold numR isNum
  rw [decide_eq_false (p := l.length ≤ 18) (by omega), Bool.and_false, Bool.false_and]
  rfl
theorem numR_bad {l : List UInt8} {k : Nat} (hk : k < l.length) (h : digF l[k] = false) : numR l = -1 := by
  unfold numR isNum
  have : l.all digF = false := by rw [List.all_eq_false]; exact ⟨l[k], List.getElem_mem _, by simp [h]⟩
  rw [this, Bool.and_false]
  rfl
theorem numR_good {l : List UInt8} (h1 : 1 ≤ l.length) (h2 : l.length ≤ 18) (h3 : l.all digF = true) : numR l = (numF l : Int) := by
  unfold numR isNum
  rw [decide_eq_true h1, decide_eq_true h2, h3]
  rfl
/-- what is gathered of the first k bytes, all digits -/
def NumTo (s : ByteArray) (k : Nat) (a : Int) : Prop := (s.data.toList.take k).all digF = true ∧ a = (numF (s.data.toList.take k) : Int) ∧ 0 ≤ a ∧ a < 10 ^ k
theorem numTo_next {s : ByteArray} {k : Nat} {a : Int} (h : NumTo s k a) (hk : k < s.size) (h0 : 48 ≤ s[k].toNat) (h1 : s[k].toNat ≤ 57) : NumTo s (k + 1) (a * 10 + (s[k].toNat : Int) - 48) := by
  obtain ⟨h2, h3, h4, h5⟩ := h
  refine ⟨?_, ?_, by omega, ?_⟩
  · rw [take_snoc s k hk, List.all_append, h2, List.all_cons, List.all_nil, Bool.and_true, Bool.true_and]
    exact decide_eq_true ⟨h0, h1⟩
  · rw [take_snoc s k hk]
    unfold numF at h3 ⊢
    rw [numA_snoc]
    omega
  · rw [Int.pow_succ]
    omega
theorem pow17 {k : Nat} (h : k ≤ 17) : (10 : Int) ^ k ≤ 100000000000000000 := by
  have h1 : (10 : Nat) ^ k ≤ 10 ^ 17 := Nat.pow_le_pow_right (by decide) h
  have h2 : ((10 ^ k : Nat) : Int) ≤ ((10 ^ 17 : Nat) : Int) := by exact_mod_cast h1
  have h3 : ((10 ^ k : Nat) : Int) = (10 : Int) ^ k := by push_cast; rfl
  rw [← h3]
  exact h2
set_option maxRecDepth 20000 in
set_option maxHeartbeats 2000000 in
theorem numRef (l : List UInt8) (w : World) (hl : l.length ≤ 140737488351232) :
    Calls Tryz.prog 73 #[.string ⟨l.toArray⟩] w fun e w' => e = .returned (.int .i64 (numR l)) ∧ w' = w := by
  have hz : (⟨l.toArray⟩ : ByteArray).size = l.length := size_l l
  have hd : (⟨l.toArray⟩ : ByteArray).data.toList = l := by simp
  obtain ⟨q, eq⟩ : ∃ q, q = numR l := ⟨_, rfl⟩
  rw [← eq]
  have EQ := hide' eq
  clear eq
  obtain ⟨s, es⟩ : ∃ s, s = (⟨l.toArray⟩ : ByteArray) := ⟨_, rfl⟩
  rw [← es] at hz hd ⊢
  have HD := hide' hd
  clear es hd
  by_cases h1 : l.length < 1
  · have R := hide' (EQ.out.trans (numR_short h1))
    have t1 : s.size < 1 := by omega
    have HZ := hide' hz
    clear EQ hz h1
    go_enter Tryz.func73, Tryz.ntmps73
    go_wp2_with fail
    go_ret
    exact ⟨by rw [R.out]; rfl, rfl⟩
  · by_cases h2 : 18 < l.length
    · have R := hide' (EQ.out.trans (numR_long h2))
      have t1 : ¬ s.size < 1 := by omega
      have t2 : 18 < s.size := by omega
      have HZ := hide' hz
      clear EQ hz h1 h2
      go_enter Tryz.func73, Tryz.ntmps73
      go_wp2_with fail
      go_ret
      exact ⟨by rw [R.out]; rfl, rfl⟩
    · have t1 : ¬ s.size < 1 := by omega
      have t2 : s.size ≤ 18 := by omega
      have XG := hide' (numR_good (l := l) (by omega) (by omega))
      have XB := hide' (fun k hk hh => numR_bad (l := l) (k := k) hk hh)
      rw [← EQ.out] at XG XB
      rw [← HD.out] at XG XB
      have HZ := hide' hz
      clear hz h1 h2 EQ HD hl
      go_enter Tryz.func73, Tryz.ntmps73
      go_wp2_with fail
      go_loop [3, 4] (fun av i => ∃ (k : Nat) (a : Int), k ≤ s.size ∧ av = .int .i64 a ∧ i = .int .i64 k ∧ Hid (NumTo s k a)) (fun _ i => s.size - (intOf i).toNat)
      case atStart => exact ⟨0, 0, Nat.zero_le _, rfl, rfl, rfl, rfl, by decide, by decide⟩
      case round =>
        obtain ⟨k, a, hk, rfl, rfl, P⟩ := hrel
        by_cases hlt : k < s.size
        · have hb := byte_lt s[k]
          have p18 := pow17 (show k ≤ 17 by omega)
          obtain ⟨a0, a1⟩ := P.out.2.2
          have a2 : a < 100000000000000000 := by omega
          have XK := hide' (numTo_next P.out hlt)
          have XD := hide' (XB.out k (by simpa using hlt))
          have ek : s.data.toList[k]'(by simpa using hlt) = s[k] := rfl
          rw [ek] at XD
          clear p18 a1 ek
          by_cases d1 : s[k].toNat < 48
          · have R := hide' (XD.out (decide_eq_false (by omega)))
            have c1 : (s[k].toNat : Int) < 48 := by omega
            clear XK XD d1 P
            go_wp2_with fail
            go_ret
            exact ⟨by rw [R.out]; rfl, rfl⟩
          · by_cases d2 : 57 < s[k].toNat
            · have R := hide' (XD.out (decide_eq_false (by omega)))
              have c1 : 57 < (s[k].toNat : Int) := by omega
              have c2 : ¬ (s[k].toNat : Int) < 48 := by omega
              clear XK XD d1 d2 P
              go_wp2_with fail
              go_ret
              exact ⟨by rw [R.out]; rfl, rfl⟩
            · have R := hide' (XK.out (by omega) (by omega))
              have c1 : ¬ 57 < (s[k].toNat : Int) := by omega
              have c2 : ¬ (s[k].toNat : Int) < 48 := by omega
              clear XK XD d1 d2 P
              go_wp2_with fail
              go_round
              case rel => exact ⟨k + 1, a * 10 + (s[k].toNat : Int) - 48, by omega, by first | rfl | go_num | (congr 1; unfold wrap64; omega), by go_num, R⟩
              case measure => simp [intOf]; omega
        · have ek : s.data.toList.take k = s.data.toList := take_all s k (by omega)
          have PA := P.out.1
          have PB := P.out.2.1
          rw [ek] at PA PB
          have R := hide' ((XG.out PA).trans PB.symm)
          clear ek PA PB
          go_wp2_with fail
          go_ret
          exact ⟨by rw [R.out]; rfl, rfl⟩
end Go.Proofs.YtmikgpmnffdnnabGreatDoor
namespace Go.Proofs.YtmikgpmnffdnnabGreatDoor
open Go.RowKit
theorem numR_neg (l : List UInt8) : numR l < 0 ↔ isNum l = false := by
  unfold numR
  cases isNum l with
  | false => simp
  | true => simp only [if_true]; constructor; intro h; omega; intro h; cases h
theorem numR_is {l : List UInt8} (h : isNum l = true) : numR l = (numF l : Int) := by unfold numR; rw [if_pos h]
/-- the elements all tell the first one's number -/
theorem all_num (x : List UInt8) (r : List (List UInt8)) : (isNum x && r.all (fun y => isNum y && decide (numF y = numF x))) = true ↔ ∀ y ∈ x :: r, ¬ numR y < 0 ∧ numR y = numR x := by
  rw [Bool.and_eq_true, List.all_eq_true]
  constructor
  · rintro ⟨h1, h2⟩ y hy
    have hn : isNum y = true ∧ numF y = numF x := by
      rcases List.mem_cons.1 hy with rfl | hy
      · exact ⟨h1, rfl⟩
      · have := h2 y hy
        rw [Bool.and_eq_true, decide_eq_true_eq] at this
        exact this
    refine ⟨fun h => ?_, ?_⟩
    · have := (numR_neg y).1 h
      rw [hn.1] at this; cases this
    · rw [numR_is hn.1, numR_is h1, hn.2]
  · intro h
    have num : ∀ y ∈ x :: r, isNum y = true := by
      intro y hy
      cases e : isNum y with
      | true => rfl
      | false => exact absurd ((numR_neg y).2 e) (h y hy).1
    have h1 := num x (by simp)
    refine ⟨h1, fun y hy => ?_⟩
    have h2 := num y (List.mem_cons_of_mem _ hy)
    have h3 := (h y (List.mem_cons_of_mem _ hy)).2
    rw [numR_is h1, numR_is h2] at h3
    rw [Bool.and_eq_true, decide_eq_true_eq]
    exact ⟨h2, by omega⟩
theorem lens_bad {els : List (List UInt8)} {k : Nat} (hk : k < els.length) (h0 : 0 < els.length) (h : numR els[k] < 0 ∨ ¬ numR els[k] = numR els[0]) : lensOf els = (0, 0, 60) := by
  cases els with
  | nil => simp at hk
  | cons x r =>
    rw [lens_cons, if_neg]
    intro ha
    have := (all_num x r).1 ha _ (List.getElem_mem hk)
    simp only [List.getElem_cons_zero] at h
    rcases h with h | h
    · exact this.1 h
    · exact h this.2
theorem lens_good {els : List (List UInt8)} (h0 : 0 < els.length) (h : ∀ j (hj : j < els.length), 0 ≤ numR els[j] ∧ numR els[j] = numR els[0]) : lensOf els = if (65536 : Int) < numR els[0] then ((0 : Int), (0 : Int), (71 : Int)) else ((1 : Int), numR els[0], (0 : Int)) := by
  cases els with
  | nil => simp at h0
  | cons x r =>
    simp only [List.getElem_cons_zero] at h ⊢
    have ha := (all_num x r).2 (fun y hy => by
      obtain ⟨j, hj, e⟩ := List.getElem_of_mem hy
      rw [← e]; exact ⟨by have := (h j hj).1; omega, (h j hj).2⟩)
    rw [lens_cons, if_pos ha]
    rw [Bool.and_eq_true] at ha
    rw [numR_is ha.1]
    by_cases h6 : 65536 < numF x
    · rw [if_pos h6, if_pos (by omega)]
    · rw [if_neg h6, if_neg (by omega)]
/-- a whole row of texts that a call made, appended -/
theorem appAllS {ops : Array Oper} {rest : List Oper} {o : Oper} {a : Act} {Q : Exit → Act → World → Prop} {wr : World} (hgd : o.guard = none) (s z : Operand)
    (ho : o.op = .call { callee := .builtin .append, args := #[s, z], argTypes := #[66, 66] }) (w0 : World) (v : Value) (ss : List (List UInt8)) (hs : a.eval s = v) (hown : OwnS w0 v ss wr)
    (w1 : World) (u : Value) (qs : List (List UInt8)) (hz : a.eval z = u) (hu : OwnS w1 u qs wr) (hlen : (ss.length + qs.length) * 16 ≤ 140737488355328)
    (h : ∀ v' w', OwnS w0 v' (ss ++ qs) w' → wpList Tryz.prog ops Q rest (a.put o.dst v') w') : wpList Tryz.prog ops Q (o :: rest) a wr := by
  obtain ⟨i0, hi, hz0, hz1, hz2⟩ := info_parts Tryz.info9
  have hsz := hown.2.size
  obtain ⟨hl, h1 | ⟨g, cap, cur, rfl, hg, hh, hr⟩⟩ := hu.1
  · obtain ⟨rfl, hn⟩ := h1
    obtain rfl : qs = [] := List.eq_nil_of_length_eq_zero hn
    refine wpList_append_own_none hgd s z 66 ho w0.heap.size 9 i0 1 Tryz.underlying66 hi v ss.length (ss.map S) hs hown.1 hz ?_
    exact h v wr (by rw [List.append_nil]; exact hown)
  · refine wpList_append_own _ hgd s z 66 ho w0.heap.size 9 i0 (.string ⟨#[]⟩) 1 16 Tryz.underlying66 hi hz0 hz1 hz2 rfl (by decide) v ss.length (ss.map S) hs hown.1 ⟨g, 0, none⟩ qs.length cap (qs.map S) hz (by simp) ?_ ?_ (by unfold maxLen; omega) (by omega) hsz ?_
    · intro j x hj
      have e : (⟨g, 0, none⟩ : Addr).add j = ⟨g, j, none⟩ := by rw [Go.WideShapes.add_plain, Nat.zero_add]
      rw [e]
      obtain ⟨hj1, hj2⟩ := List.getElem?_eq_some_iff.1 hj
      rw [List.length_map] at hj1
      rw [hu.1.cellAt j (by omega)]
      exact hj
    · intro u hu; obtain ⟨x, _, rfl⟩ := List.mem_map.1 hu; rfl
    · intro v' w' h1 h2 _
      refine h v' w' ⟨by rw [List.map_append, List.length_append]; exact h1, ?_⟩
      refine Below.grown hown.2 h2 (by omega) ?_
      intro k hk
      exact (hown.1.lt k hk).1
theorem flat_next (vs : List (List UInt8)) (k : Nat) (h : k < vs.length) : (vs.take (k + 1)).flatMap listOf = (vs.take k).flatMap listOf ++ listOf vs[k] := by
  rw [List.take_succ_eq_append_getElem h, List.flatMap_append]
  simp
theorem flat_len (vs : List (List UInt8)) (k : Nat) : ((vs.take k).flatMap listOf).length ≤ bulkT vs := by
  have h1 := toks_len (vs.take k)
  have h2 := bulkT_take vs k
  unfold toksOf at h1
  rw [List.length_map] at h1
  omega
theorem fit_of {fs : FL} (hb : bulkF fs ≤ 1048576) : Fit fs := fun f hf => by have := bulkF_mem fs f hf; omega
set_option maxRecDepth 20000 in
set_option maxHeartbeats 8000000 in
theorem ruleRef (m : Int) (v : Value) (fs : FL) (w : World) (hv : HoldsF w v fs) (hb : bulkF fs ≤ 1048576) :
    Calls Tryz.prog 45 #[.int .i64 m, v] w fun e w' => e = .returned (ansV (ruleOf m fs 0)) ∧ Below w.heap.size w w' := by
  have hfl := bulkF_len fs
  have b0 := below_alloc' w (.cells #[.int .i64 0, .int .i64 0] 48)
  have H0 := hide' (duo_lit w (.int .i64 0) (.int .i64 0) 48)
  have B0 := hide' b0
  have c1 := hide' (valuesRef v fs teb _ (holdsF_mono hv b0) (fit_of hb) (by decide) (by omega))
  have c2 := hide' (fun W (h : Below w.heap.size w W) => valuesRef v fs clb W (holdsF_mono hv h) (fit_of hb) (by decide) (by omega))
  have c3 := hide' (fun W (h : Below w.heap.size w W) => tokensRef v fs teb W (holdsF_mono hv h) hb (by decide))
  rw [vals_te] at c1 c3
  rw [vals_cl] at c2
  have l3 := hide' (toks_le fs TEb hb)
  have bv := bulk_vals fs CLb
  have r1 := hide' (rule_both (m := m) (s := 0) (fs := fs))
  have r2 := hide' (rule_cod (m := m) (s := 0) (fs := fs))
  have r3 := rule_len (m := m) (s := 0) (fs := fs)
  rw [lens_toks] at r3
  have r4 := hide' (rule_none (m := m) (s := 0) (fs := fs))
  have r3 := hide' r3
  generalize ruleOf m fs 0 = Q at r1 r2 r3 r4 ⊢
  generalize toksOf (valsOf fs TEb) = ws at c3 l3 r2
  have lv1 := vals_len fs TEb
  have lv2 := vals_len fs CLb
  generalize valsOf fs CLb = vs at c2 r1 r2 r3 r4 bv lv2
  generalize valsOf fs TEb = tv at c1 r1 r2 r3 r4 lv1
  have FN := hide' (flat_next vs)
  have FL' := hide' (flat_len vs)
  have MV := hide' (bulkT_mem vs)
  obtain ⟨ao, ca, b, o, rfl, _⟩ := holdsF_parts hv
  clear hv b0
  go_enter Tryz.func45, Tryz.ntmps45
  go_wp2_with fail
  refine c1.out.mono ?_
  rintro e w1 ⟨u1, rfl, ho1⟩
  have B1 := hide' (bt' B0.out ho1.2)
  have H1 := hide' (duo_below H0.out ho1.2)
  obtain ⟨a1, k1, g1, o1, hu1, _⟩ := holds_parts (holds_own ho1)
  subst hu1
  clear ho1 c1 H0 B0
  generalize tv.length = n1 at r1 r2 r3 r4 lv1 ⊢
  go_wp2_with fail
  refine (c2.out _ B1.out).mono ?_
  rintro e w2 ⟨u2, rfl, ho2⟩
  have B2 := hide' (bt' B1.out ho2.2)
  have H2 := hide' (duo_below H1.out ho2.2)
  obtain ⟨a2, k2, g2, o2, hu2, hc2⟩ := holds_parts (holds_own ho2)
  subst hu2
  have C2 := hide' hc2
  clear ho2 c2 H1 B1 hc2
  obtain ⟨n2, en⟩ : ∃ n2, n2 = vs.length := ⟨_, rfl⟩
  have N : Hid (vs.length = n2) := en.symm
  rw [N.out] at r1 r2 r3 r4 lv2 ⊢
  clear en
  by_cases h1 : 0 < n1
  · by_cases h2 : 0 < n2
    · have R := hide' (r1.out h1 h2)
      obtain ⟨i0, i1, f0, f1, fz⟩ := H2.out
      clear c3 r1 r2 r3 r4 l3 C2 FN FL' MV
      go_wp2_with fail
      obtain ⟨q0, q1⟩ := duo_store H2.out (.int .i64 0) (.int .i64 0)
      have qb := put2_below B2.out (Nat.le_refl _) (.int .i64 0) (.int .i64 0)
      unfold put2 at q0 q1 qb
      exact bodyPost_ret (v := ansV (0, 0, 61)) (by simp [results, Tryz.results45, go_sem, q0, q1, ansV]) rfl ⟨by rw [R.out], qb⟩
    · have R := hide' (r2.out h1 h2)
      have e2 : n2 = 0 := by omega
      subst e2
      clear h2 r1 r2 r3 r4 C2 FN FL' MV
      go_wp2_with fail
      refine (c3.out _ B2.out).mono ?_
      rintro e w3 ⟨u3, rfl, ho3⟩
      have B3 := hide' (bt' B2.out ho3.2)
      have H3 := hide' (duo_below H2.out ho3.2)
      obtain ⟨a3, k3, g3, o3, hu3, hc3⟩ := holds_parts (holds_own ho3)
      subst hu3
      have C3 := hide' hc3
      obtain ⟨i0, i1, f0, f1, fz⟩ := H3.out
      clear ho3 hc3 c3
      by_cases hm : m = 0
      · subst hm
        have R' := hide' (R.out.trans (cod_bad1 ws))
        have l3' := l3.out
        clear C3 R l3
        generalize ws.length = n3 at l3' ⊢
        go_wp2_with fail
        obtain ⟨q0, q1⟩ := duo_store H3.out (.int .i64 0) (.int .i64 0)
        have qb := put2_below B3.out (Nat.le_refl _) (.int .i64 0) (.int .i64 0)
        unfold put2 at q0 q1 qb
        exact bodyPost_ret (v := ansV (0, 0, 62)) (by simp [results, Tryz.results45, go_sem, q0, q1, ansV]) rfl ⟨by rw [R'.out], qb⟩
      · have hm1 : (m == 0) = false := by simpa using hm
        by_cases hw1 : ws.length = 1
        · obtain ⟨x, rfl⟩ := one_of hw1
          obtain ⟨rfl, hblt, hcell⟩ := C3.out (by simp)
          have cx := hcell 0 (by simp)
          simp only [List.getElem_cons_zero, Nat.add_zero, S] at cx
          have hlen : [x].length = 1 := rfl
          rw [hlen]
          clear hcell hlen hw1
          by_cases hx : x = chunkedB
          · subst hx
            have R' := hide' (R.out.trans (cod_good hm))
            unfold chunkedB at cx
            clear hm C3 l3 R
            go_wp2_with fail
            obtain ⟨q0, q1⟩ := duo_store H3.out (.int .i64 2) (.int .i64 0)
            have qb := put2_below B3.out (Nat.le_refl _) (.int .i64 2) (.int .i64 0)
            unfold put2 at q0 q1 qb
            exact bodyPost_ret (v := ansV (2, 0, 0)) (by simp [results, Tryz.results45, go_sem, q0, q1, ansV]) rfl ⟨by rw [R'.out], qb⟩
          · have R' := hide' (R.out.trans (cod_bad2 (by simpa using hx)))
            have hne := ba_eql' _ _ hx
            have hne2 : (x == chunkedB) = false := by simpa using hx
            unfold chunkedB at hne hne2
            clear hm hx C3 l3 R
            go_wp2_with fail
            obtain ⟨q0, q1⟩ := duo_store H3.out (.int .i64 0) (.int .i64 0)
            have qb := put2_below B3.out (Nat.le_refl _) (.int .i64 0) (.int .i64 0)
            unfold put2 at q0 q1 qb
            exact bodyPost_ret (v := ansV (0, 0, 62)) (by simp [results, Tryz.results45, go_sem, q0, q1, ansV]) rfl ⟨by rw [R'.out], qb⟩
        · have R' := hide' (R.out.trans (cod_bad2 (fun e => hw1 (by rw [e]; rfl))))
          have t1 : ((ws.length : Int) != 1) = true := by simp; omega
          have l3' := l3.out
          clear hm C3 l3 R
          generalize ws.length = n3 at t1 hw1 l3' ⊢
          clear hw1
          go_wp2_with fail
          obtain ⟨q0, q1⟩ := duo_store H3.out (.int .i64 0) (.int .i64 0)
          have qb := put2_below B3.out (Nat.le_refl _) (.int .i64 0) (.int .i64 0)
          unfold put2 at q0 q1 qb
          exact bodyPost_ret (v := ansV (0, 0, 62)) (by simp [results, Tryz.results45, go_sem, q0, q1, ansV]) rfl ⟨by rw [R'.out], qb⟩
  · have e1 : n1 = 0 := by omega
    by_cases h2 : 0 < n2
    · have R := hide' (r3.out h1 h2)
      have n2z : ((n2 : Int) == 0) = false := by simp; omega
      subst e1
      clear h1 c3 r1 r2 r3 r4 l3
      have O0 := hide' (ownS_empty w2)
      go_wp2_with fail
      go_loopw [9, 10] (fun v i wr => ∃ (va : Value) (k : Nat), va = v ∧ k ≤ n2 ∧ i = .int .i64 k ∧ OwnS w2 va ((vs.take k).flatMap listOf) wr) (fun _ i _ => n2 - (intOf i).toNat)
      case atStart => exact ⟨_, 0, rfl, Nat.zero_le _, rfl, O0.out⟩
      case round =>
        clear O0
        obtain ⟨va, k, rfl, hk, rfl, ho⟩ := hrel
        by_cases hlt : k < n2
        · have G : Hid (k < vs.length) := by unfold Hid; rw [N.out]; exact hlt
          obtain ⟨e2, hblt, hcell⟩ := C2.out (by have := G.out; omega)
          subst e2
          have ck : wr.cell? ⟨g2, o2 + k, none⟩ = some (.string ⟨(vs[k]'G.out).toArray⟩) := by
            rw [ho.2.cell (p := ⟨g2, o2 + k, none⟩) hblt]; exact hcell k G.out
          have hx := MV.out _ (List.getElem_mem G.out)
          have cL := hide' (fun W => listRef ⟨(vs[k]'G.out).toArray⟩ W (by rw [size_l]; omega))
          have tl2 := FL'.out (k + 1)
          have tl1 := FL'.out k
          have R2 := hide' (FN.out k G.out)
          simp only at cL
          rw [R2.out, List.length_append] at tl2
          clear hcell
          generalize vs[k]'G.out = q at ck hx cL tl2 R2
          generalize (vs.take k).flatMap listOf = acc at ho tl1 tl2 R2
          generalize listOf q = el at cL tl2 R2
          go_wp2_with fail
          refine (cL.out _).mono ?_
          rintro e w4 ⟨u4, rfl, ho4⟩
          have HO4 := ownS_mono ho ho4.2
          clear cL ck ho
          go_wp2_with (at_builtin; refine appAllS rfl (.tmp 54) (.tmp 59) rfl w2 _ acc rfl HO4 _ _ el rfl ho4 (by omega) ?_; intro v5 w5 ho5)
          go_roundw
          case rel => exact ⟨_, k + 1, rfl, by omega, by go_num, by rw [R2.out]; exact ho5⟩
          case measure => simp [intOf]; omega
        · have E2 : Hid (vs.take k = vs) := List.take_of_length_le (by rw [N.out]; omega)
          have tl1 := FL'.out k
          rw [E2.out] at ho tl1
          have EM : Hid (∀ x ∈ vs.flatMap listOf, x.length ≤ 1048576) := by
            intro x hx
            obtain ⟨z, hz, hx⟩ := List.mem_flatMap.1 hx
            have h3 := listOf_mem z x hx
            have h4 := MV.out z hz
            omega
          generalize vs.flatMap listOf = els at ho tl1 R EM
          obtain ⟨w3, ew⟩ : ∃ w3, w3 = wr := ⟨_, rfl⟩
          subst ew
          have B3 := hide' (bt' B2.out ho.2)
          have H3 := hide' (duo_below H2.out ho.2)
          obtain ⟨a3, k3, g3, o3, hu3, hc3⟩ := holds_parts (holds_own ho)
          subst hu3
          have C3 := hide' hc3
          clear ho hc3 C2 FN FL' MV E2
          by_cases hz : els.length = 0
          · obtain rfl : els = [] := List.eq_nil_of_length_eq_zero hz
            have R' := hide' (R.out.trans lens_nil)
            obtain ⟨i0, i1, f0, f1, fz⟩ := H3.out
            have hlen : ([] : List (List UInt8)).length = 0 := rfl
            rw [hlen]
            clear C3 R EM hz hlen
            go_wp2_with fail
            obtain ⟨q0, q1⟩ := duo_store H3.out (.int .i64 0) (.int .i64 0)
            have qb := put2_below B3.out (Nat.le_refl _) (.int .i64 0) (.int .i64 0)
            unfold put2 at q0 q1 qb
            exact bodyPost_ret (v := ansV (0, 0, 60)) (by simp [results, Tryz.results45, go_sem, q0, q1, ansV]) rfl ⟨by rw [R'.out], qb⟩
          · have Z : Hid (0 < els.length) := by unfold Hid; omega
            obtain ⟨e3, hblt, hcell⟩ := C3.out Z.out
            subst e3
            have CC := hide' hcell
            have c0 := hcell 0 Z.out
            unfold S at c0
            rw [Nat.add_zero] at c0
            have C0 := hide' c0
            have cZ := hide' (fun W => numRef (els[0]'Z.out) W (by have := EM.out _ (List.getElem_mem Z.out); omega))
            have cE := hide' (fun k (hk : k < els.length) => EM.out _ (List.getElem_mem hk))
            have XB := hide' (fun k (hk : k < els.length) h => R.out.trans (lens_bad hk Z.out h))
            have XG := hide' (fun h => R.out.trans (lens_good Z.out h))
            have hy0 : (els[0]'Z.out).length ≤ 140737488351232 := by have := EM.out _ (List.getElem_mem Z.out); omega
            generalize els[0]'Z.out = y0 at c0 C0 cZ XB XG hy0
            have HY0 := hide' hy0
            clear hy0
            obtain ⟨n3, en⟩ : ∃ n3, n3 = els.length := ⟨_, rfl⟩
            have N3 : Hid (els.length = n3) := en.symm
            rw [N3.out] at tl1 hz ⊢
            have n3z : ((n3 : Int) == 0) = false := by simp; omega
            clear en hcell C3 EM R c0
            go_wp2_with fail
            go_loopw [11] (fun i wr => ∃ k : Nat, k ≤ n3 ∧ i = .int .i64 k ∧ Hid (∀ j (hj : j < els.length), j < k → 0 ≤ numR els[j] ∧ numR els[j] = numR y0) ∧ Hid (Below w3.heap.size w3 wr)) (fun i _ => n3 - (intOf i).toNat)
            case atStart => exact ⟨0, Nat.zero_le _, rfl, fun j hj h => absurd h (by omega), Below.refl _ _⟩
            case round =>
              obtain ⟨k, hk, rfl, HA, HB⟩ := hrel
              by_cases hlt : k < n3
              · have G : Hid (k < els.length) := by unfold Hid; rw [N3.out]; exact hlt
                have ck : wr.cell? ⟨g3, o3 + k, none⟩ = some (.string ⟨(els[k]'G.out).toArray⟩) := by
                  rw [HB.out.cell (p := ⟨g3, o3 + k, none⟩) hblt]; exact CC.out k G.out
                have c0 : wr.cell? ⟨g3, o3, none⟩ = some (.string ⟨y0.toArray⟩) := by
                  rw [HB.out.cell (p := ⟨g3, o3, none⟩) hblt]; exact C0.out
                have hyk := cE.out k G.out
                have XK := hide' (XB.out k G.out)
                have HN : Hid (0 ≤ numR (els[k]'G.out) → numR (els[k]'G.out) = numR y0 → ∀ j (hj : j < els.length), j < k + 1 → 0 ≤ numR els[j] ∧ numR els[j] = numR y0) := by
                  intro h3 h4 j hj hjk
                  by_cases hjk2 : j = k
                  · subst hjk2; exact ⟨h3, h4⟩
                  · exact HA.out j hj (by omega)
                generalize els[k]'G.out = yk at ck hyk XK HN
                have hyk1 : yk.length ≤ 140737488351232 := by omega
                have hy0 := HY0.out
                clear hyk
                have B4 := hide' (bt' B3.out HB.out)
                have H4 := hide' (duo_below H3.out HB.out)
                have z3 : 0 < n3 := by omega
                have z4 : (0 : Int) < (n3 : Int) := by omega
                by_cases ha : numR yk < 0
                · have R' := hide' (XK.out (.inl ha))
                  clear XK HN HA
                  go_wp2_with fail
                  go_quiet ((go_at_call 73; exact Calls.quiet_of_same (numRef _ _ (by assumption))))
                  have B9 := hide' (bt' B4.out (below_drewN wr nq))
                  have H9 := hide' (duo_below H4.out (below_drewN wr nq))
                  generalize wr.drewN nq = w9 at B9 H9 ⊢
                  obtain ⟨i0, i1, f0, f1, fz⟩ := H9.out
                  go_wp2_with fail
                  obtain ⟨q0, q1⟩ := duo_store H9.out (.int .i64 0) (.int .i64 0)
                  have qb := put2_below B9.out (Nat.le_refl _) (.int .i64 0) (.int .i64 0)
                  unfold put2 at q0 q1 qb
                  exact bodyPost_ret (v := ansV (0, 0, 60)) (by simp [results, Tryz.results45, go_sem, q0, q1, ansV]) rfl ⟨by rw [R'.out], qb⟩
                · by_cases haz : numR yk = numR y0
                  · have HM := hide' (HN.out (by omega) haz)
                    have haz1 : (numR yk != numR y0) = false := by simpa using haz
                    have HAZ := hide' haz
                    clear haz
                    clear XK HN HA
                    go_wp2_with fail
                    go_quiet ((go_at_call 73; exact Calls.quiet_of_same (numRef _ _ (by assumption))))
                    have HB9 := hide' (bt' HB.out (below_drewN wr nq))
                    generalize wr.drewN nq = w9 at HB9 ⊢
                    go_wp2_with fail
                    go_roundw
                    case rel => exact ⟨k + 1, by omega, by go_num, HM, HB9⟩
                    case measure => simp [intOf]; omega
                  · have R' := hide' (XK.out (.inr haz))
                    have haz1 : (numR yk != numR y0) = true := by simpa using haz
                    clear XK HN HA haz
                    go_wp2_with fail
                    go_quiet ((go_at_call 73; exact Calls.quiet_of_same (numRef _ _ (by assumption))))
                    have B9 := hide' (bt' B4.out (below_drewN wr nq))
                    have H9 := hide' (duo_below H4.out (below_drewN wr nq))
                    generalize wr.drewN nq = w9 at B9 H9 ⊢
                    obtain ⟨i0, i1, f0, f1, fz⟩ := H9.out
                    go_wp2_with fail
                    obtain ⟨q0, q1⟩ := duo_store H9.out (.int .i64 0) (.int .i64 0)
                    have qb := put2_below B9.out (Nat.le_refl _) (.int .i64 0) (.int .i64 0)
                    unfold put2 at q0 q1 qb
                    exact bodyPost_ret (v := ansV (0, 0, 60)) (by simp [results, Tryz.results45, go_sem, q0, q1, ansV]) rfl ⟨by rw [R'.out], qb⟩
              · have RA := XG.out (fun j hj => ⟨by have h := (HA.out j hj (by have := N3.out; omega)).1; omega, (HA.out j hj (by have := N3.out; omega)).2⟩)
                have c0 : wr.cell? ⟨g3, o3, none⟩ = some (.string ⟨y0.toArray⟩) := by
                  rw [HB.out.cell (p := ⟨g3, o3, none⟩) hblt]; exact C0.out
                have B4 := hide' (bt' B3.out HB.out)
                have H4 := hide' (duo_below H3.out HB.out)
                obtain ⟨i0, i1, f0, f1, fz⟩ := H4.out
                clear XB XG HA HB
                by_cases h6 : (65536 : Int) < numR y0
                · rw [if_pos h6] at RA
                  have R' := hide' RA
                  clear RA
                  go_wp2_with fail
                  refine (cZ.out _).mono ?_
                  rintro e w' ⟨rfl, ew⟩
                  rw [ew]
                  clear ew w'
                  go_wp2_with fail
                  obtain ⟨q0, q1⟩ := duo_store H4.out (.int .i64 0) (.int .i64 0)
                  have qb := put2_below B4.out (Nat.le_refl _) (.int .i64 0) (.int .i64 0)
                  unfold put2 at q0 q1 qb
                  exact bodyPost_ret (v := ansV (0, 0, 71)) (by simp [results, Tryz.results45, go_sem, q0, q1, ansV]) rfl ⟨by rw [R'.out], qb⟩
                · rw [if_neg h6] at RA
                  have R' := hide' RA
                  clear RA
                  go_wp2_with fail
                  refine (cZ.out _).mono ?_
                  rintro e w' ⟨rfl, ew⟩
                  rw [ew]
                  clear ew w'
                  go_wp2_with fail
                  refine (cZ.out _).mono ?_
                  rintro e w' ⟨rfl, ew⟩
                  rw [ew]
                  clear ew w'
                  go_wp2_with fail
                  obtain ⟨q0, q1⟩ := duo_store H4.out (.int .i64 1) (.int .i64 (numR y0))
                  have qb := put2_below B4.out (Nat.le_refl _) (.int .i64 1) (.int .i64 (numR y0))
                  unfold put2 at q0 q1 qb
                  exact bodyPost_ret (v := ansV (1, numR y0, 0)) (by simp [results, Tryz.results45, go_sem, q0, q1, ansV]) rfl ⟨by rw [R'.out], qb⟩
    · have R := hide' (r4.out h1 h2)
      have e2 : n2 = 0 := by omega
      subst e1 e2
      obtain ⟨i0, i1, f0, f1, fz⟩ := H2.out
      clear h1 h2 c3 r1 r2 r3 r4 l3 C2 FN FL' MV
      go_wp2_with fail
      obtain ⟨q0, q1⟩ := duo_store H2.out (.int .i64 0) (.int .i64 0)
      have qb := put2_below B2.out (Nat.le_refl _) (.int .i64 0) (.int .i64 0)
      unfold put2 at q0 q1 qb
      exact bodyPost_ret (v := ansV (0, 0, 0)) (by simp [results, Tryz.results45, go_sem, q0, q1, ansV]) rfl ⟨by rw [R.out], qb⟩
end Go.Proofs.YtmikgpmnffdnnabGreatDoor
namespace Go.Proofs.YtmikgpmnffdnnabGreatDoor
open Go.RowKit
set_option maxRecDepth 20000 in
set_option maxHeartbeats 2000000 in
theorem ofReqRef (mt tg : List UInt8) (k : Int) (fs : FL) (lv : Value) (w : World) (hv : HoldsF w lv fs) (hb : bulkF fs ≤ 1048576) :
    Calls Tryz.prog 23 #[.agg #[.string ⟨mt.toArray⟩, .string ⟨tg.toArray⟩, .int .i64 k, lv]] w fun e w' => e = .returned (ansV (ruleOf k fs 0)) ∧ Below w.heap.size w w' := by
  obtain ⟨ao, ca, b, o, rfl, _⟩ := holdsF_parts hv
  have b1 := below_alloc' w (.cells #[.string ⟨mt.toArray⟩, .string ⟨tg.toArray⟩, .int .i64 k, .slice ao fs.length ca] 26)
  have b2 := below_alloc' (w.alloc (.cells #[.string ⟨mt.toArray⟩, .string ⟨tg.toArray⟩, .int .i64 k, .slice ao fs.length ca] 26)) (.cells #[.int .i64 0, .int .i64 0] 48)
  have D2 := duo_lit (w.alloc (.cells #[.string ⟨mt.toArray⟩, .string ⟨tg.toArray⟩, .int .i64 k, .slice ao fs.length ca] 26)) (.int .i64 0) (.int .i64 0) 48
  have z1 : (w.alloc (.cells #[.string ⟨mt.toArray⟩, .string ⟨tg.toArray⟩, .int .i64 k, .slice ao fs.length ca] 26)).heap.size = w.heap.size + 1 := by simp
  rw [z1] at D2
  have c := ruleRef k _ fs _ (holdsF_mono hv (bt' b1 b2)) hb
  generalize ruleOf k fs 0 = Q at c ⊢
  unfold ansV at c
  have C := hide' c
  have B2 := hide' (bt' b1 b2)
  have H2 := hide' D2
  clear hv b1 b2 D2 z1 c
  generalize fs.length = n at C B2 H2 ⊢
  go_enter Tryz.func23, Tryz.ntmps23
  go_wp2_with fail
  refine C.out.mono ?_
  rintro e w3 ⟨rfl, b3⟩
  have B3 := hide' (bt' B2.out b3)
  have H3 := hide' (duo_below H2.out b3)
  obtain ⟨i0, i1, f0, f1, fz⟩ := H3.out
  clear b3 C
  go_wp2_with fail
  obtain ⟨q0, q1⟩ := duo_store H3.out (.int .i64 Q.1) (.int .i64 Q.2.1)
  have qb := put2_below B3.out (Nat.le_succ _) (.int .i64 Q.1) (.int .i64 Q.2.1)
  unfold put2 at q0 q1 qb
  exact bodyPost_ret (v := ansV Q) (by simp [results, Tryz.results23, go_sem, q0, q1, ansV]) rfl ⟨rfl, qb⟩
theorem cod_kind (m : Int) (ws : List (List UInt8)) : ¬ ((codOf m ws).2.2 = 0 ∧ (codOf m ws).1 = 0) := by
  unfold codOf
  split <;> simp
theorem lens_kind (els : List (List UInt8)) : ¬ ((lensOf els).2.2 = 0 ∧ (lensOf els).1 = 0) := by
  cases els with
  | nil => rw [lens_nil]; simp
  | cons x r =>
    rw [lens_cons]
    split
    · split <;> simp
    · simp
/-- where the rule says none, the body goes on to the close -/
theorem rule_three (k : Int) (fs : FL) : ruleOf k fs 3 = if (ruleOf k fs 0).2.2 = 0 ∧ (ruleOf k fs 0).1 = 0 then (3, (ruleOf k fs 0).2.1, (ruleOf k fs 0).2.2) else ruleOf k fs 0 := by
  by_cases h1 : 0 < (valsOf fs TEb).length
  · by_cases h2 : 0 < (valsOf fs CLb).length
    · rw [rule_both h1 h2, rule_both h1 h2]; simp
    · rw [rule_cod h1 h2, rule_cod h1 h2, if_neg (cod_kind _ _)]
  · by_cases h2 : 0 < (valsOf fs CLb).length
    · rw [rule_len h1 h2, rule_len h1 h2, if_neg (lens_kind _)]
    · rw [rule_none h1 h2, rule_none h1 h2]; simp
theorem duo_set0 {b : Nat} {W : World} {v0 v1 : Value} (h : Duo b W v0 v1) (x : Value) : Duo b (W.setCell ⟨b, 0, none⟩ x) x v1 := by
  obtain ⟨h0, h1, f0, f1, hz⟩ := h
  exact ⟨World.cell?_setCell_same _ _ _ h0, by rw [oth4 (by decide)]; exact h1, by rw [frozen_set4]; exact f0, by rw [frozen_set4]; exact f1, by simpa [World.setCell] using hz⟩
theorem duo_other {b c o : Nat} {W : World} {v0 v1 : Value} (h : Duo b W v0 v1) (hne : b ≠ c) (x : Value) : Duo b (W.setCell ⟨c, o, none⟩ x) v0 v1 := by
  obtain ⟨h0, h1, f0, f1, hz⟩ := h
  have c : ∀ i, (W.setCell ⟨c, o, none⟩ x).cell? ⟨b, i, none⟩ = W.cell? ⟨b, i, none⟩ := fun i => by simp [World.cell?, heap_setCell_other W ⟨c, o, none⟩ b x hne]
  exact ⟨by rw [c]; exact h0, by rw [c]; exact h1, by simpa using f0, by simpa using f1, by simpa using hz⟩
set_option maxRecDepth 20000 in
set_option maxHeartbeats 4000000 in
theorem ofResRef (s k : Int) (r m : List UInt8) (fs : FL) (lv : Value) (w : World) (hv : HoldsF w lv fs) (hb : bulkF fs ≤ 1048576) :
    Calls Tryz.prog 26 #[.agg #[.int .i64 s, .string ⟨r.toArray⟩, .int .i64 k, lv], .string ⟨m.toArray⟩] w fun e w' => e = .returned (ansV (fresOf s k fs m)) ∧ Below w.heap.size w w' := by
  obtain ⟨ao, ca, b, o, rfl, _⟩ := holdsF_parts hv
  have b1 := below_alloc' w (.cells #[.int .i64 s, .string ⟨r.toArray⟩, .int .i64 k, .slice ao fs.length ca] 28)
  have b2 := below_alloc' (w.alloc (.cells #[.int .i64 s, .string ⟨r.toArray⟩, .int .i64 k, .slice ao fs.length ca] 28)) (.cells #[.int .i64 0, .int .i64 0] 48)
  have D2 := duo_lit (w.alloc (.cells #[.int .i64 s, .string ⟨r.toArray⟩, .int .i64 k, .slice ao fs.length ca] 28)) (.int .i64 0) (.int .i64 0) 48
  have z1 : (w.alloc (.cells #[.int .i64 s, .string ⟨r.toArray⟩, .int .i64 k, .slice ao fs.length ca] 28)).heap.size = w.heap.size + 1 := by simp
  rw [z1] at D2
  have c := ruleRef k _ fs _ (holdsF_mono hv (bt' b1 b2)) hb
  have cb := hide' (bareRef s m ((w.alloc (.cells #[.int .i64 s, .string ⟨r.toArray⟩, .int .i64 k, .slice ao fs.length ca] 28)).alloc (.cells #[.int .i64 0, .int .i64 0] 48)))
  have r1 := hide' (resp_bare (s := s) (k := k) (fs := fs) (m := m))
  have r2 := resp_rule (s := s) (k := k) (fs := fs) (m := m)
  rw [rule_three] at r2
  generalize bareOf s m = d at cb r1 r2
  generalize fresOf s k fs m = Q at r1 r2 ⊢
  have B2 := hide' (bt' b1 b2)
  have H2 := hide' D2
  clear hv b1 b2 D2 z1
  generalize ruleOf k fs 0 = Q' at c r2
  generalize fs.length = n at c cb B2 H2 ⊢
  obtain ⟨x1, x2, x3⟩ := Q'
  unfold ansV at c
  simp only at c r2
  have C := hide' c
  have r2 := hide' r2
  clear c
  go_enter Tryz.func26, Tryz.ntmps26
  go_wp2_with fail
  refine cb.out.mono ?_
  rintro e w' ⟨rfl, ew⟩
  rw [ew]
  clear ew w' cb
  cases d with
  | true =>
    have R := hide' (r1.out rfl)
    clear r1 r2 C
    go_wp2_with fail
    exact bodyPost_ret (v := ansV (0, 0, 0)) (by simp [results, Tryz.results26, go_sem, ansV]) rfl ⟨by rw [R.out], B2.out⟩
  | false =>
    have R0 := r2.out rfl
    clear r1 r2
    go_wp2_with fail
    refine C.out.mono ?_
    rintro e w3 ⟨rfl, b3⟩
    have B3 := hide' (bt' B2.out b3)
    have H3 := hide' (duo_below H2.out b3)
    clear b3 C
    have fin : ∀ (y : Int) (W : World), W = w3.alloc (.cells #[.int .i64 y, .int .i64 x2] 48) → Duo (w.heap.size + 1) W (.int .i64 0) (.int .i64 0) ∧ Below w.heap.size w W := by
      rintro y W rfl
      exact ⟨duo_below H3.out (below_alloc' w3 _), bt' B3.out (below_alloc' w3 _)⟩
    by_cases h3 : x3 = 0
    · subst h3
      by_cases h1 : x1 = 0
      · subst h1
        rw [if_pos ⟨rfl, rfl⟩] at R0
        have R := hide' R0
        obtain ⟨HD, hB⟩ := fin 3 _ rfl
        have HH := hide' HD
        have BB := hide' hB
        obtain ⟨i0, i1, f0, f1, fz⟩ := HD
        clear R0 fin hB
        go_wp2_with fail
        obtain ⟨q0, q1⟩ := duo_store HH.out (.int .i64 3) (.int .i64 x2)
        have qb := put2_below BB.out (Nat.le_succ _) (.int .i64 3) (.int .i64 x2)
        unfold put2 at q0 q1 qb
        exact bodyPost_ret (v := ansV (3, x2, 0)) (by simp [results, Tryz.results26, go_sem, q0, q1, ansV]) rfl ⟨by rw [R.out], qb⟩
      · rw [if_neg (fun h => h1 h.2)] at R0
        have R := hide' R0
        have h1' : (x1 == 0) = false := by simpa using h1
        obtain ⟨HD, hB⟩ := fin x1 _ rfl
        have HH := hide' HD
        have BB := hide' hB
        obtain ⟨i0, i1, f0, f1, fz⟩ := HD
        clear R0 fin hB h1
        go_wp2_with fail
        obtain ⟨q0, q1⟩ := duo_store HH.out (.int .i64 x1) (.int .i64 x2)
        have qb := put2_below BB.out (Nat.le_succ _) (.int .i64 x1) (.int .i64 x2)
        unfold put2 at q0 q1 qb
        exact bodyPost_ret (v := ansV (x1, x2, 0)) (by simp [results, Tryz.results26, go_sem, q0, q1, ansV]) rfl ⟨by rw [R.out], qb⟩
    · rw [if_neg (fun h => h3 h.1)] at R0
      have R := hide' R0
      have h3' : (x3 == 0) = false := by simpa using h3
      obtain ⟨HD, hB⟩ := fin x1 _ rfl
      have HH := hide' HD
      have BB := hide' hB
      obtain ⟨i0, i1, f0, f1, fz⟩ := HD
      clear R0 fin hB h3
      go_wp2_with fail
      obtain ⟨q0, q1⟩ := duo_store HH.out (.int .i64 x1) (.int .i64 x2)
      have qb := put2_below BB.out (Nat.le_succ _) (.int .i64 x1) (.int .i64 x2)
      unfold put2 at q0 q1 qb
      exact bodyPost_ret (v := ansV (x1, x2, x3)) (by simp [results, Tryz.results26, go_sem, q0, q1, ansV]) rfl ⟨by rw [R.out], qb⟩
end Go.Proofs.YtmikgpmnffdnnabGreatDoor
