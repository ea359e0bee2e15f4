/- The contract of the document's Lower. -/
import Derived.Test.YtaijnphodjdedaaDoorOwnB
import Derived.Test.YtaijnphodjdedaaDoorUrP
namespace Go.Proofs.YtaijnphodjdedaaDoor
open Go.RowKit
set_option maxHeartbeats 1000000 in
theorem lowerRef (s : ByteArray) (w : World) (hs : s.size ≤ 140737488351232) :
    Calls Tryd.prog 20 #[.string s] w fun e w' => e = .returned (.string ⟨(lows s.data.toList).toArray⟩) ∧ Below w.heap.size w w' := by
  go_enter Tryd.func20, Tryd.ntmps20
  go_wp2
  go_loopw [3, 4] (fun v i wr => ∃ k : Nat, k ≤ s.size ∧ i = .int .i64 k ∧ Own w v (lows (s.data.toList.take k)) wr) (fun _ i _ => s.size - (intOf i).toNat)
  case atStart => exact ⟨0, Nat.zero_le _, rfl, own_empty w⟩
  case round =>
    obtain ⟨k, hk, rfl, hown⟩ := hrel
    by_cases hlt : k < s.size
    · have hb := byte_lt s[k]
      have hl2 : (lows (s.data.toList.take k)).length ≤ k := by rw [lows_len]; exact List.length_take_le _ _
      have R : Hid (lows (s.data.toList.take (k + 1)) = lows (s.data.toList.take k) ++ [low s[k]]) := by unfold Hid; rw [take_snoc s k hlt, lows_snoc]
      by_cases hu : 65 ≤ (s[k].toNat : Int) ∧ (s[k].toNat : Int) ≤ 90
      · obtain ⟨u1, u2⟩ := hu
        have L : Hid (((low s[k]).toNat : Int) = (s[k].toNat : Int) + 32) := low_up _ u1 u2
        go_wp2_with (at_builtin; refine app1 rfl (.tmp 24) (.tmp 26) rfl w _ _ rfl hown (low s[k]) (by rw [L.out]) rfl (by omega) ?_; intro v2 w2 hown2)
        go_roundw
        case rel => exact ⟨k + 1, by omega, by go_num, by rw [R.out]; exact hown2⟩
        case measure => simp [intOf]; omega
      · have L : Hid (low s[k] = s[k]) := low_same _ hu
        rcases (by omega : (s[k].toNat : Int) < 65 ∨ 90 < (s[k].toNat : Int)) with h | h
        all_goals
          clear hu
          go_wp2_with (at_builtin; refine app1 rfl (.tmp 24) (.tmp 26) rfl w _ _ rfl hown (low s[k]) (by rw [L.out]) rfl (by omega) ?_; intro v2 w2 hown2)
          go_roundw
          case rel => exact ⟨k + 1, by omega, by go_num, by rw [R.out]; exact hown2⟩
          case measure => simp [intOf]; omega
    · have R : Hid (s.data.toList.take k = s.data.toList) := take_all s k (by omega)
      have hcv := own_conv hown
      go_wp2
      go_ret
      rw [R.out]
      exact ⟨rfl, hown.2⟩
end Go.Proofs.YtaijnphodjdedaaDoor
