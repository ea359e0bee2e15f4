/- The contracts of upTo, goodByte, good, and of the check of several names. -/
import Derived.Test.YtijnjgnckipghaaGreatBdA
import Derived.Test.YtijnjgnckipghaaGreatBw1
import Derived.Test.YtijnjgnckipghaaGreatShelf
import Derived.Lib.Bytealg
import Derived.Shelf.Small.Strs
namespace Go.Proofs.YtijnjgnckipghaaGreat
open Go.RowKit
set_option maxHeartbeats 400000 in
theorem upToC (n m : Int) (w : World) : Calls Tryz.prog 70 #[.int .i64 n, .int .i64 m] w fun e w' => e = .returned (.int .i64 (max 0 (min n m))) ∧ w' = w := by
  go_enter Tryz.func70, Tryz.ntmps70
  go_wp2_with fail
  go_ret
  exact ⟨rfl, rfl⟩
def goodI (c : Int) : Bool := decide ((97 ≤ c ∧ c ≤ 122) ∨ (48 ≤ c ∧ c ≤ 57) ∨ c = 46 ∨ c = 45 ∨ c = 95 ∨ c = 47)
theorem goodI_C (c : UInt8) : goodI (c.toNat : Int) = goodC c := by
  unfold goodI goodC
  have e : ∀ n : Nat, n < 256 → ((c = UInt8.ofNat n) ↔ (c.toNat = n)) := by
    intro n hn
    constructor
    · intro h; rw [h]; exact UInt8.toNat_ofNat_of_lt hn
    · intro h; exact UInt8.toNat_inj.1 (by rw [h]; exact (UInt8.toNat_ofNat_of_lt hn).symm)
  have e1 := e 46 (by decide)
  have e2 := e 45 (by decide)
  have e3 := e 95 (by decide)
  have e4 := e 47 (by decide)
  apply decide_eq_decide.2
  have f1 : (c = 46) ↔ c.toNat = 46 := e1
  have f2 : (c = 45) ↔ c.toNat = 45 := e2
  have f3 : (c = 95) ↔ c.toNat = 95 := e3
  have f4 : (c = 47) ↔ c.toNat = 47 := e4
  rw [f1, f2, f3, f4]
  omega
theorem idx_good : ∀ n : Nat, n < 256 → decide (0 ≤ Lib.indexByte [45, 46, 95, 47] n.toUInt8) = decide ((n : Int) = 46 ∨ (n : Int) = 45 ∨ (n : Int) = 95 ∨ (n : Int) = 47) := by decide +kernel
theorem idx_goodI (c : Int) (h0 : 0 ≤ c) (h1 : c ≤ 255) : decide (0 ≤ Lib.indexByte [45, 46, 95, 47] c.toNat.toUInt8) = decide (c = 46 ∨ c = 45 ∨ c = 95 ∨ c = 47) := by
  obtain ⟨n, rfl⟩ := Int.eq_ofNat_of_zero_le h0
  exact idx_good n (by omega)
set_option maxHeartbeats 400000 in
theorem goodByteC (c : Int) (h0 : 0 ≤ c) (h1 : c ≤ 255) (w : World) : Calls Tryz.prog 103 #[.int .u8 c] w fun e w' => e = .returned (.bool (goodI c)) ∧ w' = w := by
  by_cases ha : (48 ≤ c ∧ c ≤ 57) ∨ (97 ≤ c ∧ c ≤ 122)
  · have H : Hid (goodI c = true) := by
      unfold Hid goodI
      rw [decide_eq_true_iff]
      rcases ha with h | h
      · exact .inr (.inl h)
      · exact .inl h
    rcases ha with ⟨ha, hb⟩ | ⟨ha, hb⟩
    all_goals
      go_enter Tryz.func103, Tryz.ntmps103
      go_wp2
      go_ret
      rw [H.out]
      exact ⟨rfl, rfl⟩
  · have H : Hid (decide (0 ≤ Lib.indexByte [45, 46, 95, 47] c.toNat.toUInt8) = goodI c) := by
      unfold Hid goodI
      rw [idx_goodI c h0 h1]
      apply decide_eq_decide.2
      constructor
      · intro h; exact .inr (.inr h)
      · rintro (h | h | h)
        · exact absurd (.inr h) ha
        · exact absurd (.inl h) ha
        · exact h
    have hc : Calls Tryz.prog 110 #[.string ⟨#[45, 46, 95, 47]⟩, .int .u8 c] w (fun e w' => e = .returned (.int .i64 (Lib.indexByte [45, 46, 95, 47] c.toNat.toUInt8)) ∧ w' = w) := Any.strings_IndexByte Tryz.lays137 ⟨#[45, 46, 95, 47]⟩ c w
    generalize Lib.indexByte [45, 46, 95, 47] c.toNat.toUInt8 = r at H hc
    rcases (by omega : c < 48 ∨ (57 < c ∧ c < 97) ∨ 122 < c) with h | h | h
    all_goals
      clear ha
      go_enter Tryz.func103, Tryz.ntmps103
      go_wp2_with (go_at_call 110; refine hc.mono ?_; rintro e w' ⟨rfl, rfl⟩)
      go_ret
      rw [← H.out]
      have d1 : 48 ≤ c → decide (c ≤ 57) = false := fun h => by rw [decide_eq_false_iff_not]; omega
      have d2 : 97 ≤ c → decide (c ≤ 122) = false := fun h => by rw [decide_eq_false_iff_not]; omega
      first
        | exact ⟨rfl, rfl⟩
        | (rw [d1 (by omega)]; exact ⟨rfl, rfl⟩)
        | (rw [d1 (by omega), d2 (by omega)]; exact ⟨rfl, rfl⟩)
theorem good_bad (s : ByteArray) (k : Nat) (h : k < s.size) (hc : goodI (s[k].toNat : Int) = false) : goodN s.data.toList = false := by
  unfold goodN
  have : s.data.toList.all goodC = false := by
    rw [List.all_eq_false]
    exact ⟨s.data.toList[k]'(by simpa using h), List.getElem_mem _, by
      have e : s.data.toList[k]'(by simpa using h) = s[k] := rfl
      rw [e, ← goodI_C, hc]; decide⟩
  rw [this, Bool.false_and]
theorem good_step (s : ByteArray) (k : Nat) (h : k < s.size) (hc : goodI (s[k].toNat : Int) = true) (ha : (s.data.toList.take k).all goodC = true) : (s.data.toList.take (k + 1)).all goodC = true := by
  rw [take_snoc s k h, List.all_append, ha]
  simp only [List.all_cons, List.all_nil, Bool.and_true, Bool.true_and]
  rw [← goodI_C]; exact hc
theorem good_end (s : ByteArray) (k : Nat) (h : s.size ≤ k) (ha : (s.data.toList.take k).all goodC = true) : goodN s.data.toList = (decide (1 ≤ s.size) && decide (s.size ≤ 64)) := by
  rw [take_all s k h] at ha
  unfold goodN
  rw [ha, Bool.true_and]
  simp
set_option maxRecDepth 20000 in
set_option maxHeartbeats 1000000 in
theorem goodNameC (s : ByteArray) (w : World) (hs : s.size ≤ 140737488351232) : Calls Tryz.prog 88 #[.string s] w fun e w' => e = .returned (.bool (goodN s.data.toList)) ∧ w' = w := by
  go_enter Tryz.func88, Tryz.ntmps88
  go_wp2_with fail
  go_loop [3, 6] (fun _ i => ∃ k : Nat, k ≤ s.size ∧ i = .int .i64 k ∧ Hid ((s.data.toList.take k).all goodC = true)) (fun _ i => s.size - (intOf i).toNat)
  case atStart => exact ⟨0, by omega, rfl, by unfold Hid; simp⟩
  case round =>
    obtain ⟨k, hk, rfl, ha⟩ := hrel
    by_cases hlt : k < s.size
    · have hb := byte_lt s[k]
      cases ht : goodI (s[k].toNat : Int) with
      | true =>
        have A := hide' (good_step s k hlt ht ha.out)
        go_wp2_with (go_at_call 103; refine (goodByteC _ (by omega) (by omega) _).mono ?_; rintro e w' ⟨rfl, rfl⟩)
        go_round
        case rel => exact ⟨k + 1, by omega, by go_num, A⟩
        case measure => simp [intOf]; omega
      | false =>
        have F := hide' (good_bad s k hlt ht)
        go_wp2_with (go_at_call 103; refine (goodByteC _ (by omega) (by omega) _).mono ?_; rintro e w' ⟨rfl, rfl⟩)
        go_ret
        rw [F.out]
        exact ⟨rfl, rfl⟩
    · have F := hide' (good_end s k (by omega) ha.out)
      by_cases h0 : s.size = 0
      · have e0 : s = ⟨#[]⟩ := by
          cases s with
          | mk d => have : d.size = 0 := h0; rw [Array.eq_empty_of_size_eq_zero this]
        have F2 : Hid (goodN s.data.toList = false) := by unfold Hid; rw [F.out, h0]; rfl
        subst e0
        clear F h0
        go_wp2_with fail
        go_ret
        rw [F2.out]
        exact ⟨rfl, rfl⟩
      · have F2 : Hid (goodN s.data.toList = decide ((s.size : Int) ≤ 64)) := by
          unfold Hid; rw [F.out]
          have : decide (1 ≤ s.size) = true := by rw [decide_eq_true_iff]; omega
          rw [this, Bool.true_and]
          apply decide_eq_decide.2
          omega
        have hne : (s.toList == ([] : List UInt8)) = false := by
          rw [Lib.toList_data]
          have : s.data.toList ≠ [] := fun e => h0 (by have := congrArg List.length e; simpa using this)
          simpa using this
        clear F h0
        go_wp2_with fail
        go_ret
        rw [F2.out]
        exact ⟨rfl, rfl⟩
set_option maxHeartbeats 400000 in
theorem badName (s : ByteArray) (w : World) (hs : s.size ≤ 140737488351232) : Calls Tryz.prog 100 #[.string s] w fun e w' => e = .returned (.bool (!goodN s.data.toList)) ∧ w' = w := by
  go_enter Tryz.func100, Tryz.ntmps100
  go_wp2_with (go_at_call 88; refine (goodNameC s _ hs).mono ?_; rintro e w' ⟨rfl, rfl⟩)
  go_ret
  exact ⟨rfl, rfl⟩
theorem badName' (l : Nm) (w : World) (hs : l.length ≤ 140737488351232) : Calls Tryz.prog 100 #[.string ⟨l.toArray⟩] w fun e w' => e = .returned (.bool (!goodN l)) ∧ w' = w := by
  have := badName ⟨l.toArray⟩ w (by rw [size_l]; exact hs)
  simpa using this
set_option maxRecDepth 20000 in
set_option maxHeartbeats 1000000 in
theorem idxFunc (v : Value) (ns : List Nm) (w : World) (hv : Holds w v ns) (hl : ∀ n ∈ ns, n.length ≤ 140737488351232) (hn : ns.length ≤ 1000000) :
    Calls Tryz.prog 109 #[v, .func (.func 100) #[] #[]] w fun e w' => ∃ r : Int, e = .returned (.int .i64 r) ∧ decide (0 ≤ r) = ns.any (fun n => !goodN n) ∧ w' = w := by
  obtain ⟨ao, ca, rfl, hca⟩ := hv
  by_cases hz : ns = []
  · subst hz
    clear hca hl hn
    go_enter Tryz.func109, Tryz.ntmps109
    go_wp2_with fail
    go_rounds 1
    go_ret
    exact ⟨-1, rfl, rfl, rfl⟩
  · obtain ⟨b1, o1, rfl, hlt1, c1⟩ := hca hz
    have C1 : Hid _ := c1
    obtain ⟨n, hN⟩ : ∃ n, n = ns.length := ⟨_, rfl⟩
    have N1 : Hid (ns.length = n) := hN.symm
    have ln : n ≤ 1000000 := by omega
    rw [N1.out]
    clear hca c1 hz hn hN
    go_enter Tryz.func109, Tryz.ntmps109
    go_wp2_with fail
    go_loop [5, 8] (fun _ i => ∃ k : Nat, k ≤ n ∧ i = .int .i64 k ∧ Hid ((ns.take k).any (fun n => !goodN n) = false)) (fun _ i => n - (intOf i).toNat)
    case atStart => exact ⟨0, by omega, rfl, rfl⟩
    case round =>
      obtain ⟨k, hk, rfl, hE⟩ := hrel
      by_cases hlt : k < n
      · have x1 := C1.out k (by rw [N1.out]; exact hlt)
        unfold S at x1
        have G1 : Hid (k < ns.length) := by unfold Hid; rw [N1.out]; exact hlt
        have cb := badName' (ns[k]'G1.out) w (hl _ (List.getElem_mem _))
        cases hg : goodN (ns[k]'G1.out) with
        | true =>
          have E : Hid ((ns.take (k + 1)).any (fun n => !goodN n) = false) := by
            unfold Hid; rw [List.take_succ_eq_append_getElem G1.out, List.any_append, hE.out]; simp [hg]
          rw [hg] at cb
          generalize (ns[k]'G1.out).toArray = y at x1 cb
          have CB := hide' cb
          clear cb hg
          go_wp2_with (go_at_call 100; refine CB.out.mono ?_; rintro e w' ⟨rfl, rfl⟩)
          go_round
          case rel => exact ⟨k + 1, by omega, by go_num, E⟩
          case measure => simp [intOf]; omega
        | false =>
          have F : Hid (ns.any (fun n => !goodN n) = true) := by
            unfold Hid; rw [List.any_eq_true]; exact ⟨_, List.getElem_mem G1.out, by rw [hg]; rfl⟩
          rw [hg] at cb
          generalize (ns[k]'G1.out).toArray = y at x1 cb
          have CB := hide' cb
          clear cb hg
          go_wp2_with (go_at_call 100; refine CB.out.mono ?_; rintro e w' ⟨rfl, rfl⟩)
          go_ret
          exact ⟨(k : Int), rfl, by rw [F.out, decide_eq_true_iff]; omega, rfl⟩
      · have F : Hid (ns.any (fun n => !goodN n) = false) := by
          have := hE.out
          rwa [List.take_of_length_le (by rw [N1.out]; omega)] at this
        go_wp2_with fail
        go_ret
        exact ⟨-1, rfl, by rw [F.out]; rfl, rfl⟩
set_option maxHeartbeats 400000 in
theorem anyBad (v : Value) (ns : List Nm) (w : World) (hv : Holds w v ns) (hl : ∀ n ∈ ns, n.length ≤ 140737488351232) (hn : ns.length ≤ 1000000) :
    Calls Tryz.prog 99 #[v, .func (.func 100) #[] #[]] w fun e w' => e = .returned (.bool (ns.any (fun n => !goodN n))) ∧ w' = w := by
  have C := hide' (idxFunc v ns w hv hl hn)
  clear hv
  go_enter Tryz.func99, Tryz.ntmps99
  go_wp2_with (go_at_call 109; refine C.out.mono ?_; rintro e w' ⟨r, rfl, h, rfl⟩; have H := hide' h; clear h)
  go_ret
  exact ⟨by rw [← H.out]; rfl, rfl⟩
end Go.Proofs.YtijnjgnckipghaaGreat
