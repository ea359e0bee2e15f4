/- The contracts of digit, visible, textByte, every, goodTarget, isVersion, minorOf. -/
import Derived.Test.YtbbaajlabpjnlaaDoorHdB
import Derived.Test.YtbbaajlabpjnlaaDoorShelfF
namespace Go.Proofs.YtbbaajlabpjnlaaDoor
open Go.RowKit
theorem digTok (c : Int) (h0 : 0 ≤ c) (h1 : c ≤ 255) (w : World) :
    Calls Tryd.prog 52 #[.int .u8 c] w fun e w' => e = .returned (.bool (digI c)) ∧ w' = w := by
  by_cases a1 : 48 ≤ c
  · by_cases a2 : c ≤ 57
    · have H : Hid (digI c = true) := by unfold Hid digI; simp; omega
      go_enter Tryd.func52, Tryd.ntmps52
      go_wp2
      go_ret
      rw [H.out]
      exact ⟨rfl, rfl⟩
    · have b2 : decide (c ≤ 57) = false := by simpa using a2
      have H : Hid (digI c = false) := by unfold Hid digI; simp; omega
      go_enter Tryd.func52, Tryd.ntmps52
      go_wp2
      go_ret
      rw [H.out]
      exact ⟨rfl, rfl⟩
  · have b2 : decide (48 ≤ c) = false := by simpa using a1
    have H : Hid (digI c = false) := by unfold Hid digI; simp; omega
    go_enter Tryd.func52, Tryd.ntmps52
    go_wp2
    go_ret
    rw [H.out]
    exact ⟨rfl, rfl⟩
theorem visTok (c : Int) (h0 : 0 ≤ c) (h1 : c ≤ 255) (w : World) :
    Calls Tryd.prog 50 #[.int .u8 c] w fun e w' => e = .returned (.bool (visI c)) ∧ w' = w := by
  by_cases a1 : 33 ≤ c
  · by_cases a2 : c ≤ 126
    · have H : Hid (visI c = true) := by unfold Hid visI; simp; omega
      go_enter Tryd.func50, Tryd.ntmps50
      go_wp2
      go_ret
      rw [H.out]
      exact ⟨rfl, rfl⟩
    · have b2 : decide (c ≤ 126) = false := by simpa using a2
      have H : Hid (visI c = false) := by unfold Hid visI; simp; omega
      go_enter Tryd.func50, Tryd.ntmps50
      go_wp2
      go_ret
      rw [H.out]
      exact ⟨rfl, rfl⟩
  · have b2 : decide (33 ≤ c) = false := by simpa using a1
    have H : Hid (visI c = false) := by unfold Hid visI; simp; omega
    go_enter Tryd.func50, Tryd.ntmps50
    go_wp2
    go_ret
    rw [H.out]
    exact ⟨rfl, rfl⟩
theorem ev_step (g : UInt8 → Bool) (s : ByteArray) (k : Nat) (h : k < s.size) (hc : g s[k] = true) (ha : (s.data.toList.take k).all g = true) : (s.data.toList.take (k + 1)).all g = true := by
  rw [take_snoc s k h, List.all_append, ha]; simp [hc]
theorem ev_bad (g : UInt8 → Bool) (s : ByteArray) (k : Nat) (h : k < s.size) (hc : g s[k] = false) : s.data.toList.all g = false := by
  rw [List.all_eq_false]
  exact ⟨s[k], by rw [show s[k] = s.data.toList[k]'(by simpa using h) from rfl]; exact List.getElem_mem _, by simp [hc]⟩
theorem ev_end (g : UInt8 → Bool) (s : ByteArray) (k : Nat) (h : s.size ≤ k) (ha : (s.data.toList.take k).all g = true) : s.data.toList.all g = true := by
  rw [take_all s k h] at ha; exact ha
set_option maxHeartbeats 1000000 in
theorem everyVis (s : ByteArray) (w : World) (hs : s.size ≤ 140737488351232) :
    Calls Tryd.prog 49 #[.string s, .func (.func 50) #[] #[]] w fun e w' => e = .returned (.bool (s.data.toList.all vis)) ∧ w' = w := by
  obtain ⟨r, hr⟩ : ∃ r, r = s.data.toList.all vis := ⟨_, rfl⟩
  rw [← hr]
  have HR := hide' hr
  clear hr
  go_enter Tryd.func49, Tryd.ntmps49
  go_wp2_with fail
  go_loop [8] (fun i => ∃ k : Nat, k ≤ s.size ∧ i = .int .i64 k ∧ Hid ((s.data.toList.take k).all vis = true)) (fun i => s.size - (intOf i).toNat)
  case atStart => exact ⟨0, by omega, rfl, by unfold Hid; simp⟩
  case round =>
    obtain ⟨k, hk, rfl, ha⟩ := hrel
    by_cases hlt : k < s.size
    · have hb := byte_lt s[k]
      cases ht : visI (s[k].toNat : Int) with
      | true =>
        have A := hide' (ev_step vis s k hlt ht ha.out)
        go_wp2_with (go_at_call 50; refine (visTok _ (by omega) (by omega) _).mono ?_; rintro e w' ⟨rfl, rfl⟩)
        go_round
        case rel => exact ⟨k + 1, by omega, by go_num, A⟩
        case measure => simp [intOf]; omega
      | false =>
        have F := hide' (ev_bad vis s k hlt ht)
        go_wp2_with (go_at_call 50; refine (visTok _ (by omega) (by omega) _).mono ?_; rintro e w' ⟨rfl, rfl⟩)
        go_ret
        rw [HR.out, F.out]
        exact ⟨rfl, rfl⟩
    · have F := hide' (ev_end vis s k (by omega) ha.out)
      go_wp2_with fail
      go_ret
      rw [HR.out, F.out]
      exact ⟨rfl, rfl⟩
set_option maxHeartbeats 400000 in
theorem goodTargetTok (s : ByteArray) (w : World) (hs : s.size ≤ 140737488351232) :
    Calls Tryd.prog 33 #[.string s] w fun e w' => e = .returned (.bool (goodT s.data.toList)) ∧ w' = w := by
  by_cases h0 : s.size = 0
  · obtain rfl := empty_of s h0
    clear h0 hs
    go_enter Tryd.func33, Tryd.ntmps33
    go_wp2
    go_ret
    exact ⟨rfl, rfl⟩
  · have hne := ne_empty s (by omega)
    have F : Hid (goodT s.data.toList = s.data.toList.all vis) := by
      unfold Hid goodT
      rw [Lib.toList_data] at hne
      rw [hne]; rfl
    rw [F.out]
    have c := hide' (everyVis s w hs)
    generalize s.data.toList.all vis = r at c ⊢
    clear F h0
    go_enter Tryd.func33, Tryd.ntmps33
    go_wp2_with (go_at_call 49; refine c.out.mono ?_; rintro e w' ⟨rfl, rfl⟩)
    go_ret
    exact ⟨rfl, rfl⟩
theorem ba_ne (s : ByteArray) (l : List UInt8) (h : ¬ s.data.toList = l) : (s.toList == l) = false ∧ (s.toList == (⟨l.toArray⟩ : ByteArray).toList) = false := by
  rw [Lib.toList_data, Lib.toList_data]; exact ⟨by simpa using h, by simpa using h⟩
theorem ba_mk {s : ByteArray} {l : List UInt8} (h : s.data.toList = l) : s = ⟨l.toArray⟩ := by cases s; simp at h; simp [← h]
set_option maxHeartbeats 400000 in
theorem minorTok (s : ByteArray) (w : World) :
    Calls Tryd.prog 35 #[.string s] w fun e w' => e = .returned (.tuple #[.int .i64 (minOf s.data.toList).1, .int .i64 (minOf s.data.toList).2]) ∧ w' = w := by
  by_cases h0 : s.data.toList = V10
  · obtain rfl := ba_mk h0
    have R : Hid (minOf (⟨V10.toArray⟩ : ByteArray).data.toList = (0, 0)) := by unfold Hid; decide
    rw [R.out]
    unfold V10
    clear h0 R
    go_enter Tryd.func35, Tryd.ntmps35
    go_wp2
    go_ret2
    exact ⟨rfl, rfl⟩
  · have n0 := ba_ne s V10 h0
    unfold V10 at n0
    obtain ⟨n1, n2⟩ := n0
    by_cases h1 : s.data.toList = V11
    · obtain rfl := ba_mk h1
      have R : Hid (minOf (⟨V11.toArray⟩ : ByteArray).data.toList = (1, 0)) := by unfold Hid; decide
      rw [R.out]
      unfold V11
      clear h0 h1 R n1 n2
      go_enter Tryd.func35, Tryd.ntmps35
      go_wp2
      go_ret2
      exact ⟨rfl, rfl⟩
    · have n3 := ba_ne s V11 h1
      unfold V11 at n3
      obtain ⟨n3, n4⟩ := n3
      have R : Hid (minOf s.data.toList = (0, 52)) := by unfold Hid minOf; rw [if_neg h0, if_neg h1]
      rw [R.out]
      clear h0 h1 R
      go_enter Tryd.func35, Tryd.ntmps35
      go_wp2
      go_ret2
      exact ⟨rfl, rfl⟩
end Go.Proofs.YtbbaajlabpjnlaaDoor
