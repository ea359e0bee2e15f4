/- The contracts of Seconds and of the document's Seconds. -/
import Derived.Test.YtlhhcpbfjjhbfabDoorBk
import Derived.Lib.Strings
namespace Go.Proofs.YtlhhcpbfjjhbfabDoor
open Go.RowKit
theorem kn_full (s : ByteArray) (h : 0 < s.size) : s.toList.isEmpty = false := by
  rw [Lib.toList_data]
  cases e : s.data.toList with
  | nil => have : s.data.toList.length = s.size := by simp
           rw [e] at this; simp at this; omega
  | cons x r => rfl
theorem kn_none (s : ByteArray) (h : ¬ 0 < s.size) : s = ⟨#[]⟩ := by
  cases s with
  | mk d =>
    have : d.size = 0 := by have : (⟨d⟩ : ByteArray).size = d.size := rfl
                            omega
    rw [Array.eq_empty_of_size_eq_zero this]
theorem kn_at (s : ByteArray) (k : Nat) (h : k < s.size) (hc : digK s[k] = false) : secs s.data.toList = -1 :=
  secs_bad _ k (by simpa using h) hc
theorem all_snoc (s : ByteArray) (k : Nat) (h : k < s.size) (ha : (s.data.toList.take k).all digK = true) (hc : digK s[k] = true) : (s.data.toList.take (k + 1)).all digK = true := by
  rw [take_snoc s k h, List.all_append, ha]; simp [hc]
theorem secF_next (s : ByteArray) (k : Nat) (h : k < s.size) : secF (s.data.toList.take (k + 1)) = min (secF (s.data.toList.take k) * 10 + ((s[k].toNat : Int) - 48)) 2147483648 := by
  rw [take_snoc s k h, secF_snoc]; rfl
set_option maxHeartbeats 1000000 in
theorem secondsTok (s : ByteArray) (w : World) (hs : s.size ≤ 140737488351232) :
    Calls Tryd.prog 42 #[.string s] w fun e w' => e = .returned (.int .i64 (secs s.data.toList)) ∧ w' = w := by
  by_cases he : 0 < s.size
  · have hE := kn_full s he
    have NE : Hid (s.data.toList ≠ []) := by intro e; have : s.data.toList.length = s.size := by simp
                                             rw [e] at this; simp at this; omega
    go_enter Tryd.func42, Tryd.ntmps42
    go_wp2_with fail
    go_loop [3, 9] (fun nv iv => ∃ (k : Nat) (n : Int), k ≤ s.size ∧ iv = .int .i64 k ∧ nv = .int .i64 n ∧ 0 ≤ n ∧ n ≤ 2147483648 ∧ Hid (n = secF (s.data.toList.take k)) ∧ Hid ((s.data.toList.take k).all digK = true)) (fun _ iv => s.size - (intOf iv).toNat)
    case atStart => exact ⟨0, 0, by omega, rfl, rfl, by omega, by omega, rfl, rfl⟩
    case round =>
      obtain ⟨k, n, hk, rfl, rfl, n0, n1, hn, hd⟩ := hrel
      by_cases hlt : k < s.size
      · have hb := byte_lt s[k]
        cases hc : digK s[k] with
        | true =>
          obtain ⟨c0, c1⟩ : 48 ≤ (s[k].toNat : Int) ∧ (s[k].toNat : Int) ≤ 57 := by simpa [digK] using hc
          have D := hide' (all_snoc s k hlt hd.out hc)
          have Y : Hid (min (n * 10 + ((s[k].toNat : Int) - 48)) 2147483648 = secF (s.data.toList.take (k + 1))) := by unfold Hid; rw [secF_next s k hlt, ← hn.out]
          clear hc hn hd
          go_wp2_with fail
          go_round
          case rel => exact ⟨k + 1, _, by omega, by go_num, rfl, by first | omega | (split <;> omega), by first | omega | (split <;> omega), by unfold Hid; first | (rw [← Y.out]; done) | (rw [← Y.out]; omega) | (rw [← Y.out]; split <;> omega), D⟩
          case measure => simp [intOf]; omega
        | false =>
          have F := hide' (kn_at s k hlt hc)
          have hc2 : (s[k].toNat : Int) < 48 ∨ (48 ≤ (s[k].toNat : Int) ∧ 57 < (s[k].toNat : Int)) := by
            have : ¬ (48 ≤ (s[k].toNat : Int) ∧ (s[k].toNat : Int) ≤ 57) := by simpa [digK] using hc
            omega
          clear hc hn hd
          rcases hc2 with c0 | ⟨c0, c1⟩
          all_goals
            go_wp2_with fail
            go_ret
            rw [F.out]
            exact ⟨rfl, rfl⟩
      · have F : Hid (secs s.data.toList = n) := by
          have h1 := hd.out
          rw [take_all s k (by omega)] at h1
          unfold Hid
          rw [secs_ok _ NE.out h1, hn.out, take_all s k (by omega)]
        clear hn hd
        go_wp2_with fail
        go_ret
        rw [F.out]
        exact ⟨rfl, rfl⟩
  · obtain rfl := kn_none s he
    have F : Hid (secs (⟨#[]⟩ : ByteArray).data.toList = -1) := secs_nil
    clear hs he
    go_enter Tryd.func42, Tryd.ntmps42
    go_wp2_with fail
    go_ret
    rw [F.out]
    exact ⟨rfl, rfl⟩
end Go.Proofs.YtlhhcpbfjjhbfabDoor
