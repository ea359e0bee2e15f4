/- The contracts of addressBytes, hexDigit and writtenPlainly. -/
import Derived.Test.YtaijnphodjdedaaDoorUaL
import Derived.Test.YtaijnphodjdedaaDoorUaB
namespace Go.Proofs.YtaijnphodjdedaaDoor
open Go.RowKit
def allAddr (l : List UInt8) : Bool := l.all addrB
set_option maxHeartbeats 1000000 in
theorem addressCode (s : ByteArray) (hs : s.size ≤ 4096) (w : World) :
    Calls Tryd.prog 12 #[.string s] w fun e w' => e = .returned (.bool (allAddr s.data.toList)) ∧ w' = w := by
  go_enter Tryd.func12, Tryd.ntmps12
  go_wp2_with fail
  go_loop [3, 6] (fun _ i => ∃ k : Nat, k ≤ s.size ∧ i = .int .i64 k ∧ Hid ((s.data.toList.take k).all addrB = true)) (fun _ i => s.size - (intOf i).toNat)
  case atStart => exact ⟨0, Nat.zero_le _, rfl, rfl⟩
  case round =>
    obtain ⟨k, hk, rfl, H⟩ := hrel
    by_cases hlt : k < s.size
    · have hb := byte_lt s[k]
      cases hc : addrB s[k] with
      | true =>
        have H2 : Hid ((s.data.toList.take (k + 1)).all addrB = true) := all_take addrB s k hlt H.out hc
        obtain ⟨c0, c1, c2⟩ := of_decide_eq_true hc
        have q1 : decide ((s[k].toNat : Int) ≤ 32) = false := decide_eq_false (by omega)
        have q2 : decide ((127 : Int) ≤ (s[k].toNat : Int)) = false := decide_eq_false (by omega)
        have q3 : ((s[k].toNat : Int) == 35) = false := by simpa using c2
        clear hc H c0 c1 c2
        go_wp2_with fail
        go_round
        case rel => exact ⟨k + 1, by omega, by go_num, H2⟩
        case measure => simp [intOf]; omega
      | false =>
        have R : Hid (allAddr s.data.toList = false) := all_bad addrB s k hlt hc
        have hc2 : (s[k].toNat : Int) ≤ 32 ∨ (32 < (s[k].toNat : Int) ∧ 127 ≤ (s[k].toNat : Int)) ∨ (32 < (s[k].toNat : Int) ∧ (s[k].toNat : Int) < 127 ∧ (s[k].toNat : Int) = 35) := by
          have := of_decide_eq_false hc
          omega
        clear hc H
        rcases hc2 with c0 | ⟨c0, c1⟩ | ⟨c0, c1, c2⟩
        · go_wp2_with fail
          go_ret
          rw [R.out]
          exact ⟨rfl, rfl⟩
        · go_wp2_with fail
          go_ret
          rw [R.out]
          exact ⟨rfl, rfl⟩
        · have q1 : decide ((s[k].toNat : Int) ≤ 32) = false := decide_eq_false (by omega)
          have q2 : decide ((127 : Int) ≤ (s[k].toNat : Int)) = false := decide_eq_false (by omega)
          have q3 : ((s[k].toNat : Int) == 35) = true := by simpa using c2
          clear c0 c1 c2
          go_wp2_with fail
          go_ret
          rw [R.out]
          exact ⟨rfl, rfl⟩
    · have HA : Hid (allAddr s.data.toList = true) := all_end addrB s k (by omega) H.out
      clear H
      go_wp2_with fail
      go_ret
      rw [HA.out]
      exact ⟨rfl, rfl⟩
theorem hexRegions (c : Int) : (c < 48 ∧ hexI c = -1) ∨ (48 ≤ c ∧ c ≤ 57 ∧ hexI c = c - 48) ∨ (57 < c ∧ c < 65 ∧ hexI c = -1) ∨ (65 ≤ c ∧ c ≤ 70 ∧ hexI c = c - 55) ∨ (70 < c ∧ c < 97 ∧ hexI c = -1) ∨ (97 ≤ c ∧ c ≤ 102 ∧ hexI c = c - 87) ∨ (102 < c ∧ hexI c = -1) := by
  unfold hexI
  split
  · omega
  · split
    · omega
    · split <;> omega
set_option maxHeartbeats 1000000 in
theorem hexCode (c : Int) (h0 : 0 ≤ c) (h1 : c ≤ 255) (w : World) :
    Calls Tryd.prog 31 #[.int .u8 c] w fun e w' => e = .returned (.int .i64 (hexI c)) ∧ w' = w := by
  rcases hexRegions c with ⟨h, H⟩ | ⟨h, h', H⟩ | ⟨h, h', H⟩ | ⟨h, h', H⟩ | ⟨h, h', H⟩ | ⟨h, h', H⟩ | ⟨h, H⟩
  all_goals
    replace H := hide H
    first | have q1 : decide (c ≤ 57) = true := decide_eq_true (by omega) | have q1 : decide (c ≤ 57) = false := decide_eq_false (by omega)
    first | have q2 : decide (c ≤ 70) = true := decide_eq_true (by omega) | have q2 : decide (c ≤ 70) = false := decide_eq_false (by omega)
    first | have q3 : decide (c ≤ 102) = true := decide_eq_true (by omega) | have q3 : decide (c ≤ 102) = false := decide_eq_false (by omega)
    go_enter Tryd.func31, Tryd.ntmps31
    go_wp2_with fail
    go_ret
    rw [H.out]
    first | exact ⟨rfl, rfl⟩ | exact ⟨congrArg (fun x => Ending.returned (Value.int IntKind.i64 x)) (by omega), rfl⟩
theorem plain_cases (c : Int) : (plainI c = true ∧ (alnumI c = true ∨ (alnumI c = false ∧ c = 45) ∨ (alnumI c = false ∧ c ≠ 45 ∧ c = 46) ∨ (alnumI c = false ∧ c ≠ 45 ∧ c ≠ 46 ∧ c = 95) ∨ (alnumI c = false ∧ c ≠ 45 ∧ c ≠ 46 ∧ c ≠ 95 ∧ c = 126))) ∨ (plainI c = false ∧ alnumI c = false ∧ c ≠ 45 ∧ c ≠ 46 ∧ c ≠ 95 ∧ c ≠ 126) := by
  unfold plainI
  cases h : alnumI c
  · by_cases h1 : c = 45
    · left; simp [h1]
    · by_cases h2 : c = 46
      · left; simp [h2]
      · by_cases h3 : c = 95
        · left; simp [h3]
        · by_cases h4 : c = 126
          · left; simp [h4]
          · right; simp [h1, h2, h3, h4]
  · left; simp
set_option maxRecDepth 20000 in
set_option maxHeartbeats 1000000 in
theorem plainlyCode (c : Int) (h0 : 0 ≤ c) (h1 : c ≤ 255) (w : World) :
    Calls Tryd.prog 32 #[.int .u8 c] w fun e w' => e = .returned (.bool (plainI c)) ∧ w' = w := by
  have k := letterCode c h0 h1 w
  rcases plain_cases c with ⟨P, ha | ⟨ha, h2⟩ | ⟨ha, h2, h3⟩ | ⟨ha, h2, h3, h4⟩ | ⟨ha, h2, h3, h4, h5⟩⟩ | ⟨P, ha, h2, h3, h4, h5⟩
  all_goals
    rw [ha] at k
    replace k := hide k
    replace P := hide P
    first | have q1 : (c == 45) = true := by (simp; omega) | have q1 : (c == 45) = false := by (simp; omega) | skip
    first | have q2 : (c == 46) = true := by (simp; omega) | have q2 : (c == 46) = false := by (simp; omega) | skip
    first | have q3 : (c == 95) = true := by (simp; omega) | have q3 : (c == 95) = false := by (simp; omega) | skip
    first | have q4 : (c == 126) = true := by (simp; omega) | have q4 : (c == 126) = false := by (simp; omega) | skip
    clear ha
    try clear h2
    try clear h3
    try clear h4
    try clear h5
    go_enter Tryd.func32, Tryd.ntmps32
    go_wp2_with fail
    refine k.out.mono ?_
    rintro e w1 ⟨rfl, rfl⟩
    go_wp2_with fail
    go_ret
    rw [P.out]
    exact ⟨rfl, rfl⟩
end Go.Proofs.YtaijnphodjdedaaDoor
