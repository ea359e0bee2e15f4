/- The contracts of textByte and of the document's Text. -/
import Derived.Test.YtemmghmacbofaaaDoorOwnB
namespace Go.Proofs.YtemmghmacbofaaaDoor
open Go.RowKit
set_option maxHeartbeats 400000 in
theorem textTok (c : Int) (h0 : 0 ≤ c) (h1 : c ≤ 255) (w : World) :
    Calls Tryd.prog 51 #[.int .u8 c] w fun e w' => e = .returned (.bool (txtI c)) ∧ w' = w := by
  by_cases a1 : c = 9
  · subst a1
    have H : Hid (txtI 9 = true) := rfl
    go_enter Tryd.func51, Tryd.ntmps51
    go_wp2
    go_ret
    rw [H.out]
    exact ⟨rfl, rfl⟩
  · by_cases a2 : 32 ≤ c
    · by_cases a3 : c = 127
      · subst a3
        have H : Hid (txtI 127 = false) := rfl
        go_enter Tryd.func51, Tryd.ntmps51
        go_wp2
        go_ret
        rw [H.out]
        exact ⟨rfl, rfl⟩
      · have b1 : (c == 9) = false := by simpa using a1
        have b2 : (c != 127) = true := by simpa using a3
        have H : Hid (txtI c = true) := by unfold Hid txtI; simp; omega
        go_enter Tryd.func51, Tryd.ntmps51
        go_wp2
        go_ret
        rw [H.out]
        exact ⟨rfl, rfl⟩
    · have b1 : (c == 9) = false := by simpa using a1
      have b2 : decide (32 ≤ c) = false := by simpa using a2
      have H : Hid (txtI c = false) := by unfold Hid txtI; simp; omega
      go_enter Tryd.func51, Tryd.ntmps51
      go_wp2
      go_ret
      rw [H.out]
      exact ⟨rfl, rfl⟩
set_option maxHeartbeats 400000 in
theorem textRef (c : Int) (h0 : 0 ≤ c) (h1 : c ≤ 255) (w : World) :
    Calls Tryd.prog 47 #[.int .u8 c] w fun e w' => e = .returned (.bool (txtI c)) ∧ w' = w := by
  by_cases a1 : c = 9
  · subst a1
    have H : Hid (txtI 9 = true) := rfl
    go_enter Tryd.func47, Tryd.ntmps47
    go_wp2
    go_ret
    rw [H.out]
    exact ⟨rfl, rfl⟩
  · by_cases a2 : 32 ≤ c
    · by_cases a3 : c = 127
      · subst a3
        have H : Hid (txtI 127 = false) := rfl
        go_enter Tryd.func47, Tryd.ntmps47
        go_wp2
        go_ret
        rw [H.out]
        exact ⟨rfl, rfl⟩
      · have b1 : (c == 9) = false := by simpa using a1
        have b2 : (c != 127) = true := by simpa using a3
        have H : Hid (txtI c = true) := by unfold Hid txtI; simp; omega
        go_enter Tryd.func47, Tryd.ntmps47
        go_wp2
        go_ret
        rw [H.out]
        exact ⟨rfl, rfl⟩
    · have b1 : (c == 9) = false := by simpa using a1
      have b2 : decide (32 ≤ c) = false := by simpa using a2
      have H : Hid (txtI c = false) := by unfold Hid txtI; simp; omega
      go_enter Tryd.func47, Tryd.ntmps47
      go_wp2
      go_ret
      rw [H.out]
      exact ⟨rfl, rfl⟩
end Go.Proofs.YtemmghmacbofaaaDoor
