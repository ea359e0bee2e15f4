/- The contract of the document's Token. -/
import Derived.Test.YtbbaajlabpjnlaaDoorTkB
import Derived.Test.YtbbaajlabpjnlaaDoorTkT
namespace Go.Proofs.YtbbaajlabpjnlaaDoor
open Go.RowKit
set_option maxHeartbeats 1000000 in
theorem tokenRef (s : ByteArray) (w : World) (hs : s.size ≤ 140737488351232) :
    Calls Tryd.prog 20 #[.string s] w fun e w' => e = .returned (.bool (isTok s.data.toList)) ∧ w' = w := by
  by_cases h0 : s.size = 0
  · obtain rfl := empty_of s h0
    clear h0 hs
    go_enter Tryd.func20, Tryd.ntmps20
    go_wp2
    go_rounds 1
    go_ret
    exact ⟨rfl, rfl⟩
  · have hp : 0 < s.size := by omega
    have hne := ne_empty s hp
    clear h0
    go_enter Tryd.func20, Tryd.ntmps20
    go_wp2
    go_loop [3] (fun i => ∃ k : Nat, k ≤ s.size ∧ i = .int .i64 k ∧ Hid (allK s k)) (fun i => s.size - (intOf i).toNat)
    case atStart => exact ⟨0, by omega, rfl, fun j _ hj => by omega⟩
    case round =>
      obtain ⟨k, hk, rfl, ha⟩ := hrel
      by_cases hlt : k < s.size
      · have hb := byte_lt s[k]
        cases ht : tokI (s[k].toNat : Int) with
        | true =>
          have A : Hid (allK s (k + 1)) := allK_succ ha.out hlt ht
          go_wp2_with (go_at_call 38; refine (tokByteRef _ (by omega) (by omega) _).mono ?_; rintro e w' ⟨rfl, rfl⟩)
          go_round
          case rel => exact ⟨k + 1, by omega, by go_num, A⟩
          case measure => simp [intOf]; omega
        | false =>
          have F : Hid (isTok s.data.toList = false) := isTok_bad s k hlt ht
          go_wp2_with (go_at_call 38; refine (tokByteRef _ (by omega) (by omega) _).mono ?_; rintro e w' ⟨rfl, rfl⟩)
          go_ret
          rw [F.out]
          exact ⟨rfl, rfl⟩
      · have F : Hid (isTok s.data.toList = true) := isTok_good s hp (fun j hj => ha.out j hj (by omega))
        go_wp2
        go_ret
        rw [F.out]
        exact ⟨rfl, rfl⟩
end Go.Proofs.YtbbaajlabpjnlaaDoor
