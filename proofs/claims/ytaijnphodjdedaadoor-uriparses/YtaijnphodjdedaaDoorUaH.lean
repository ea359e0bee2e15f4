/- The contracts of isHost and readPort. -/
import Derived.Test.YtaijnphodjdedaaDoorUaL
import Derived.Test.YtaijnphodjdedaaDoorUaB
namespace Go.Proofs.YtaijnphodjdedaaDoor
open Go.RowKit
set_option maxHeartbeats 1000000 in
theorem isHostCode (s : ByteArray) (hs : s.size ≤ 4096) (w : World) :
    Calls Tryd.prog 16 #[.string s] w fun e w' => e = .returned (.bool (isHost s.data.toList)) ∧ w' = w := by
  go_enter Tryd.func16, Tryd.ntmps16
  go_wp2_with fail
  go_loop [3, 6] (fun _ i => ∃ k : Nat, k ≤ s.size ∧ i = .int .i64 k ∧ Hid ((s.data.toList.take k).all hostB = true)) (fun _ i => s.size - (intOf i).toNat)
  case atStart => exact ⟨0, Nat.zero_le _, rfl, rfl⟩
  case round =>
    obtain ⟨k, hk, rfl, H⟩ := hrel
    by_cases hlt : k < s.size
    · have hb := byte_lt s[k]
      have c := letterCode (s[k].toNat : Int) hb.1 hb.2 w
      rcases host_cases (s[k].toNat : Int) with ⟨hh, hc⟩ | ⟨hh, ha, h1, h2⟩
      · have H2 : Hid ((s.data.toList.take (k + 1)).all hostB = true) := all_take hostB s k hlt H.out hh
        rcases hc with ha | ⟨ha, h1⟩ | ⟨ha, h1, h2⟩
        · rw [ha] at c
          replace c := hide c
          clear ha hh H
          go_wp2_with fail
          refine c.out.mono ?_
          rintro e w1 ⟨rfl, rfl⟩
          go_wp2_with fail
          go_round
          case rel => exact ⟨k + 1, by omega, by go_num, H2⟩
          case measure => simp [intOf]; omega
        · rw [ha] at c
          have q1 : ((s[k].toNat : Int) != 45) = false := by simpa using h1
          replace c := hide c
          clear ha hh H h1
          go_wp2_with fail
          refine c.out.mono ?_
          rintro e w1 ⟨rfl, rfl⟩
          go_wp2_with fail
          go_round
          case rel => exact ⟨k + 1, by omega, by go_num, H2⟩
          case measure => simp [intOf]; omega
        · rw [ha] at c
          have q1 : ((s[k].toNat : Int) != 45) = true := by simpa using h1
          have q2 : ((s[k].toNat : Int) != 46) = false := by simpa using h2
          replace c := hide c
          clear ha hh H h1 h2
          go_wp2_with fail
          refine c.out.mono ?_
          rintro e w1 ⟨rfl, rfl⟩
          go_wp2_with fail
          go_round
          case rel => exact ⟨k + 1, by omega, by go_num, H2⟩
          case measure => simp [intOf]; omega
      · have R : Hid (isHost s.data.toList = false) := host_bad _ (all_bad hostB s k hlt hh)
        rw [ha] at c
        have q1 : ((s[k].toNat : Int) != 45) = true := by simpa using h1
        have q2 : ((s[k].toNat : Int) != 46) = true := by simpa using h2
        replace c := hide c
        clear ha hh H h1 h2
        go_wp2_with fail
        refine c.out.mono ?_
        rintro e w1 ⟨rfl, rfl⟩
        go_wp2_with fail
        go_ret
        rw [R.out]
        exact ⟨rfl, rfl⟩
    · have HA : Hid (s.data.toList.all hostB = true) := all_end hostB s k (by omega) H.out
      clear H
      rcases (by omega : s.size < 1 ∨ (1 ≤ s.size ∧ s.size ≤ 255) ∨ (1 ≤ s.size ∧ 255 < s.size)) with h | ⟨h, h'⟩ | ⟨h, h'⟩
      · have R : Hid (isHost s.data.toList = false) := host_no s (.inl h)
        have q1 : decide ((1 : Int) ≤ (s.size : Int)) = false := decide_eq_false (by omega)
        go_wp2_with fail
        go_ret
        rw [R.out]
        exact ⟨rfl, rfl⟩
      · have R : Hid (isHost s.data.toList = true) := host_yes s HA.out h h'
        have q1 : decide ((1 : Int) ≤ (s.size : Int)) = true := decide_eq_true (by omega)
        have q2 : decide ((s.size : Int) ≤ 255) = true := decide_eq_true (by omega)
        go_wp2_with fail
        go_ret
        rw [R.out]
        exact ⟨rfl, rfl⟩
      · have R : Hid (isHost s.data.toList = false) := host_no s (.inr h')
        have q1 : decide ((1 : Int) ≤ (s.size : Int)) = true := decide_eq_true (by omega)
        have q2 : decide ((s.size : Int) ≤ 255) = false := decide_eq_false (by omega)
        go_wp2_with fail
        go_ret
        rw [R.out]
        exact ⟨rfl, rfl⟩
set_option maxHeartbeats 1000000 in
theorem readPortCode (s : ByteArray) (hs : s.size ≤ 4096) (w : World) :
    Calls Tryd.prog 17 #[.string s] w fun e w' => e = .returned (.int .i64 (portOf s.data.toList)) ∧ w' = w := by
  by_cases h5 : 5 < s.size
  · have R : Hid (portOf s.data.toList = 0) := port_long s h5
    have h5' : (5 : Int) < s.size := by omega
    go_enter Tryd.func17, Tryd.ntmps17
    go_wp2_with fail
    go_ret
    rw [R.out]
    exact ⟨rfl, rfl⟩
  · have h5' : (s.size : Int) ≤ 5 := by omega
    go_enter Tryd.func17, Tryd.ntmps17
    go_wp2_with fail
    go_loop [3, 4, 10] (fun nv _ iv => ∃ (k : Nat) (n : Int), k ≤ s.size ∧ iv = .int .i64 k ∧ nv = .int .i64 n ∧ Hid (n = numOf (s.data.toList.take k)) ∧ Hid ((s.data.toList.take k).all digB = true)) (fun _ _ iv => s.size - (intOf iv).toNat)
    case atStart => exact ⟨0, 0, by omega, rfl, rfl, rfl, rfl⟩
    case round =>
      obtain ⟨k, n, hk, rfl, rfl, hn, hd⟩ := hrel
      have bn : 0 ≤ n ∧ n ≤ 100000 := by
        have := num_bd5 s k (by omega) hk hd.out
        rwa [← hn.out] at this
      by_cases hlt : k < s.size
      · have hb := byte_lt s[k]
        cases hc : digB s[k] with
        | true =>
          obtain ⟨c0, c1⟩ := of_decide_eq_true hc
          have N : Hid (n * 10 + ((s[k].toNat : Int) - 48) = numOf (s.data.toList.take (k + 1))) := by unfold Hid; rw [take_snoc s k hlt, num_snoc1, ← hn.out]
          have D : Hid ((s.data.toList.take (k + 1)).all digB = true) := all_take digB s k hlt hd.out hc
          clear hc hn hd
          go_wp2_with fail
          go_round
          case rel => exact ⟨k + 1, n * 10 + ((s[k].toNat : Int) - 48), by omega, by go_num, rfl, N, D⟩
          case measure => simp [intOf]; omega
        | false =>
          have R : Hid (portOf s.data.toList = 0) := port_bad s (all_bad digB s k hlt hc)
          have hc2 : (s[k].toNat : Int) < 48 ∨ (48 ≤ (s[k].toNat : Int) ∧ 57 < (s[k].toNat : Int)) := by
            have := of_decide_eq_false hc
            omega
          clear hc hn hd
          rcases hc2 with c0 | ⟨c0, c1⟩
          all_goals
            go_wp2_with fail
            go_ret
            rw [R.out]
            exact ⟨rfl, rfl⟩
      · have E : Hid (s.data.toList.take k = s.data.toList) := take_all s k (by omega)
        have hn2 : Hid (n = numOf s.data.toList) := by have := hn.out; rwa [E.out] at this
        have hd2 : Hid (s.data.toList.all digB = true) := by have := hd.out; rwa [E.out] at this
        clear hn hd E
        by_cases hg : 65535 < n
        · have R : Hid (portOf s.data.toList = 0) := port_great s (by rw [← hn2.out]; exact hg)
          go_wp2_with fail
          go_ret
          rw [R.out]
          exact ⟨rfl, rfl⟩
        · have R : Hid (portOf s.data.toList = n) := by unfold Hid; rw [port_yes s (by omega) hd2.out (by rw [← hn2.out]; omega), hn2.out]
          have hg' : n ≤ 65535 := by omega
          clear hg
          go_wp2_with fail
          go_ret
          rw [R.out]
          exact ⟨rfl, rfl⟩
end Go.Proofs.YtaijnphodjdedaaDoor
