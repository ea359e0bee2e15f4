/- The contracts of slices.Index and slices.Contains over texts, of Last, and of the document's Has and Last. -/
import Derived.Test.YtnjfahidcbglpaaDoorFrP
namespace Go.Proofs.YtnjfahidcbglpaaDoor
open Go.RowKit
set_option maxHeartbeats 1000000 in
theorem indexS (v : Value) (ws : List (List UInt8)) (x : List UInt8) (w : World) (hv : Holds w v ws) (hl : ws.length ≤ 1000000000000000) :
    Calls Tryd.prog 42 #[v, .string ⟨x.toArray⟩] w fun e w' => ∃ i : Int, e = .returned (.int .i64 i) ∧ Hid (decide (0 ≤ i) = decide (x ∈ ws)) ∧ -1 ≤ i ∧ i ≤ 1000000000000000 ∧ w' = w := by
  obtain ⟨ao, ca, b, o, rfl, hc⟩ := holds_parts hv
  have C := hide' hc
  clear hv hc
  obtain ⟨n, en⟩ : ∃ n, n = ws.length := ⟨_, rfl⟩
  have N : Hid (ws.length = n) := en.symm
  rw [N.out] at hl ⊢
  clear en
  go_enter Tryd.func42, Tryd.ntmps42
  go_wp2_with fail
  go_loop [8] (fun i => ∃ k : Nat, k ≤ n ∧ i = .int .i64 k ∧ Hid (∀ j (h : j < ws.length), j < k → ¬ x = ws[j])) (fun i => n - (intOf i).toNat)
  case atStart => exact ⟨0, Nat.zero_le _, rfl, fun j h hj => absurd hj (by omega)⟩
  case round =>
    obtain ⟨k, hk, rfl, A⟩ := hrel
    by_cases hlt : k < n
    · have G : Hid (k < ws.length) := by unfold Hid; rw [N.out]; exact hlt
      obtain ⟨hao, hblt, hcell⟩ := C.out (by have := G.out; omega)
      subst hao
      have ck := hcell k G.out
      unfold S at ck
      clear hcell
      by_cases he : x = ws[k]'G.out
      · have M : Hid (x ∈ ws) := by unfold Hid; rw [he]; exact List.getElem_mem _
        rw [← he] at ck
        clear he
        go_wp2_with fail
        go_ret
        exact ⟨(k : Int), rfl, by have m := M.out; unfold Hid; simp [m], by omega, by omega, rfl⟩
      · have A2 : Hid (∀ j (h : j < ws.length), j < k + 1 → ¬ x = ws[j]) := by
          intro j h hj
          by_cases hjk : j = k
          · subst hjk; exact he
          · exact A.out j h (by omega)
        have hne := ba_eql' _ _ he
        have hne2 : (x == ws[k]'G.out) = false := by simpa using he
        clear he
        generalize ws[k]'G.out = q at ck hne hne2
        go_wp2_with fail
        go_round
        case rel => exact ⟨k + 1, by omega, by go_num, A2⟩
        case measure => simp [intOf]; omega
    · have M : Hid (¬ x ∈ ws) := by
        intro hm
        obtain ⟨j, hj, e⟩ := List.getElem_of_mem hm
        exact A.out j hj (by have := N.out; omega) e.symm
      go_wp2_with fail
      go_ret
      exact ⟨-1, rfl, by have m := M.out; unfold Hid; simp [m], by omega, by omega, rfl⟩
set_option maxHeartbeats 400000 in
theorem containsS (v : Value) (ws : List (List UInt8)) (x : List UInt8) (w : World) (hv : Holds w v ws) (hl : ws.length ≤ 1000000000000000) :
    Calls Tryd.prog 30 #[v, .string ⟨x.toArray⟩] w fun e w' => e = .returned (.bool (decide (x ∈ ws))) ∧ w' = w := by
  have c := hide' (indexS v ws x w hv hl)
  obtain ⟨ao, ca, b, o, rfl, _⟩ := holds_parts hv
  generalize decide (x ∈ ws) = d at c ⊢
  clear hv
  go_enter Tryd.func30, Tryd.ntmps30
  go_wp2_with fail
  refine c.out.mono ?_
  rintro e w' ⟨i, rfl, hd, h1, h2, ew⟩
  rw [ew]
  go_wp2_with fail
  go_ret
  exact ⟨by rw [← hd.out]; rfl, rfl⟩
set_option maxHeartbeats 1000000 in
theorem lastTok (m : Int) (v : Value) (fs : FL) (w : World) (hv : HoldsF w v fs) (hb : bulkF fs ≤ 1048576) :
    Calls Tryd.prog 18 #[.int .i64 m, v] w fun e w' => e = .returned (.bool (lastOf m (toksOf (valsOf fs COb)))) ∧ Below w.heap.size w w' := by
  have cT := hide' (tokensTok v fs COb w hv hb (by decide))
  have tl := toks_le fs COb hb
  generalize toksOf (valsOf fs COb) = ws at cT tl ⊢
  obtain ⟨ao, ca, b, o, rfl, _⟩ := holdsF_parts hv
  unfold lastOf
  have k1 := hide' (fun W (u : Value) (h : Holds W u ws) => containsS u ws closeB W h (by omega))
  have k2 := hide' (fun W (u : Value) (h : Holds W u ws) => containsS u ws keepB W h (by omega))
  generalize decide (closeB ∈ ws) = d1 at k1 ⊢
  generalize decide (keepB ∈ ws) = d2 at k2 ⊢
  clear hv
  go_enter Tryd.func18, Tryd.ntmps18
  go_wp2_with fail
  refine cT.out.mono ?_
  rintro e w1 ⟨u, rfl, ho⟩
  have B1 := hide' ho.2
  have H1 := hide' (holds_own ho)
  obtain ⟨ua, uc, ub, uo, hu, _⟩ := holds_parts H1.out
  subst hu
  have c1 := hide' (k1.out _ _ H1.out)
  have c2 := hide' (k2.out _ _ H1.out)
  clear ho cT H1 k1 k2
  go_wp2_with fail
  refine c1.out.mono ?_
  rintro e w' ⟨rfl, ew⟩
  rw [ew]
  clear ew w' c1
  cases d1 with
  | true =>
    go_wp2_with fail
    go_ret
    exact ⟨rfl, B1.out⟩
  | false =>
    by_cases hm : m = 0
    · subst hm
      go_wp2_with fail
      refine c2.out.mono ?_
      rintro e w' ⟨rfl, ew⟩
      rw [ew]
      clear ew w' c2
      cases d2 with
      | true =>
        go_wp2_with fail
        go_ret
        exact ⟨rfl, B1.out⟩
      | false =>
        go_wp2_with fail
        go_ret
        exact ⟨rfl, B1.out⟩
    · have h1 : (m == 0) = false := by simpa using hm
      have h2 := hide' (decide_eq_false hm)
      clear hm
      go_wp2_with fail
      go_ret
      exact ⟨by rw [h2.out]; rfl, B1.out⟩
set_option maxHeartbeats 1000000 in
theorem hasRef (v : Value) (fs : FL) (nm x : List UInt8) (w : World) (hv : HoldsF w v fs) (hb : bulkF fs ≤ 1048576) (hn : nm.length ≤ 1048576) :
    Calls Tryd.prog 31 #[v, .string ⟨nm.toArray⟩, .string ⟨x.toArray⟩] w fun e w' => e = .returned (.bool (decide (x ∈ toksOf (valsOf fs nm)))) ∧ Below w.heap.size w w' := by
  have cT := hide' (tokensRef v fs nm w hv hb hn)
  have tl := toks_le fs nm hb
  generalize toksOf (valsOf fs nm) = ws at cT tl ⊢
  obtain ⟨ao, ca, b, o, rfl, _⟩ := holdsF_parts hv
  clear hv
  go_enter Tryd.func31, Tryd.ntmps31
  go_wp2_with fail
  refine cT.out.mono ?_
  rintro e w1 ⟨u, rfl, ho⟩
  have B1 := hide' ho.2
  obtain ⟨ua, uc, ub, uo, hu, hc⟩ := holds_parts (holds_own ho)
  subst hu
  have C := hide' hc
  clear ho cT hc
  obtain ⟨n, en⟩ : ∃ n, n = ws.length := ⟨_, rfl⟩
  have N : Hid (ws.length = n) := en.symm
  rw [N.out] at tl ⊢
  clear en
  go_wp2_with fail
  go_loop [8] (fun i => ∃ k : Nat, k ≤ n ∧ i = .int .i64 k ∧ Hid (∀ j (h : j < ws.length), j < k → ¬ ws[j] = x)) (fun i => n - (intOf i).toNat)
  case atStart => exact ⟨0, Nat.zero_le _, rfl, fun j h hj => absurd hj (by omega)⟩
  case round =>
    obtain ⟨k, hk, rfl, A⟩ := hrel
    by_cases hlt : k < n
    · have G : Hid (k < ws.length) := by unfold Hid; rw [N.out]; exact hlt
      obtain ⟨hao, hblt, hcell⟩ := C.out (by have := G.out; omega)
      subst hao
      have ck := hcell k G.out
      unfold S at ck
      clear hcell
      by_cases he : ws[k]'G.out = x
      · have M : Hid (x ∈ ws) := by unfold Hid; rw [← he]; exact List.getElem_mem _
        rw [he] at ck
        clear he
        go_wp2_with fail
        go_ret
        rw [decide_eq_true M.out]
        exact ⟨rfl, B1.out⟩
      · have A2 : Hid (∀ j (h : j < ws.length), j < k + 1 → ¬ ws[j] = x) := by
          intro j h hj
          by_cases hjk : j = k
          · subst hjk; exact he
          · exact A.out j h (by omega)
        have hne := ba_eql' _ _ he
        have hne2 : (ws[k]'G.out == x) = false := by simpa using he
        clear he
        generalize ws[k]'G.out = q at ck hne hne2
        go_wp2_with fail
        go_round
        case rel => exact ⟨k + 1, by omega, by go_num, A2⟩
        case measure => simp [intOf]; omega
    · have M : Hid (¬ x ∈ ws) := by
        intro hm
        obtain ⟨j, hj, e⟩ := List.getElem_of_mem hm
        exact A.out j hj (by have := N.out; omega) e
      go_wp2_with fail
      go_ret
      rw [decide_eq_false M.out]
      exact ⟨rfl, B1.out⟩
set_option maxHeartbeats 1000000 in
theorem lastRef (m : Int) (v : Value) (fs : FL) (w : World) (hv : HoldsF w v fs) (hb : bulkF fs ≤ 1048576) :
    Calls Tryd.prog 20 #[.int .i64 m, v] w fun e w' => e = .returned (.bool (lastOf m (toksOf (valsOf fs COb)))) ∧ Below w.heap.size w w' := by
  have c1 := hide' (fun W (h : Below w.heap.size w W) => hasRef v fs cob closeB W (holdsF_mono hv h) hb (by decide))
  have c2 := hide' (fun W (h : Below w.heap.size w W) => hasRef v fs cob keepB W (holdsF_mono hv h) hb (by decide))
  rw [vals_co] at c1 c2
  generalize toksOf (valsOf fs COb) = ws at c1 c2 ⊢
  obtain ⟨ao, ca, b, o, rfl, _⟩ := holdsF_parts hv
  unfold lastOf
  clear hv
  generalize decide (closeB ∈ ws) = d1 at c1 ⊢
  generalize decide (keepB ∈ ws) = d2 at c2 ⊢
  go_enter Tryd.func20, Tryd.ntmps20
  go_wp2_with fail
  refine (c1.out _ (Below.refl _ _)).mono ?_
  rintro e w1 ⟨rfl, b1⟩
  have B1 := hide' b1
  clear b1
  cases d1 with
  | true =>
    go_wp2_with fail
    go_ret
    exact ⟨rfl, B1.out⟩
  | false =>
    by_cases hm : m = 0
    · subst hm
      go_wp2_with fail
      refine (c2.out _ B1.out).mono ?_
      rintro e w2 ⟨rfl, b2⟩
      have B2 := hide' (bt' B1.out b2)
      clear b2
      cases d2 with
      | true =>
        go_wp2_with fail
        go_ret
        exact ⟨rfl, B2.out⟩
      | false =>
        go_wp2_with fail
        go_ret
        exact ⟨rfl, B2.out⟩
    · have h1 : (m == 0) = false := by simpa using hm
      have h2 := hide' (decide_eq_false hm)
      clear hm
      go_wp2_with fail
      go_ret
      exact ⟨by rw [h2.out]; rfl, B1.out⟩
end Go.Proofs.YtnjfahidcbglpaaDoor
