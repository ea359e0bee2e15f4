/- The contracts of Trim and of the document's Trim. -/
import Derived.Test.YtmibgcbolnpffabDoorTrim
namespace Go.Proofs.YtmibgcbolnpffabDoor
open Go.RowKit
set_option maxRecDepth 20000
theorem size_trimT (s : ByteArray) : (⟨(trimT s.data.toList).toArray⟩ : ByteArray).size ≤ s.size := by
  have := trimT_len s.data.toList
  have e : s.data.toList.length = s.size := by simp
  rw [e] at this
  show (trimT s.data.toList).toArray.size ≤ s.size
  rw [List.size_toArray]
  exact this
theorem cut_is (s : ByteArray) (f t : Nat) (hft : f ≤ t) (ht : t ≤ s.size) (w : World) :
    Sem.run Tryd.prog (Instr.slice 9 (.string s) (some (.int .i64 f)) (some (.int .i64 t)) none) w = .ok (.string ⟨((s.data.toList.drop f).take (t - f)).toArray⟩) w := by
  rw [run_slice_string (h := Tryd.underlying9)]
  · congr 2
    have : (s.extract f t).data.toList = (s.data.toList.drop f).take (t - f) := by simp [ByteArray.data_extract, List.extract_eq_take_drop]
    simp only [Int.toNat_natCast]
    rw [← this]
  · omega
  · omega
  · omega
set_option maxHeartbeats 1000000 in
theorem trimRef (s : ByteArray) (w : World) (hs : s.size ≤ 140737488351232) :
    Calls Tryd.prog 44 #[.string s] w fun e w' => e = .returned (.string ⟨(trimT s.data.toList).toArray⟩) ∧ w' = w := by
  go_enter Tryd.func44, Tryd.ntmps44
  go_wp2
  go_loop [3] (fun i => ∃ k : Nat, k ≤ s.size ∧ i = .int .i64 k ∧ Hid (left s k)) (fun i => s.size - (intOf i).toNat)
  case atStart => exact ⟨0, by omega, rfl, fun j _ hj => by omega⟩
  case round =>
    obtain ⟨k, hk, rfl, hl⟩ := hrel
    by_cases hc : ∃ h : k < s.size, blankI (s[k].toNat : Int) = true
    · obtain ⟨hlt, hb⟩ := hc
      have N : Hid (left s (k + 1)) := fun j hj hjk => by
        by_cases e : j = k
        · subst e; exact hb
        · exact hl.out j hj (by omega)
      rcases (of_decide_eq_true hb : (s[k].toNat : Int) = 32 ∨ (s[k].toNat : Int) = 9) with h | h
      · have b1 : ((s[k].toNat : Int) == 32) = true := by simp [h]
        clear h hb
        go_wp2
        go_round
        case rel => exact ⟨k + 1, by omega, by go_num, N⟩
        case measure => simp [intOf]; omega
      · have b1 : ((s[k].toNat : Int) == 32) = false := by simp [h]
        have b2 : ((s[k].toNat : Int) == 9) = true := by simp [h]
        clear h hb
        go_wp2
        go_round
        case rel => exact ⟨k + 1, by omega, by go_num, N⟩
        case measure => simp [intOf]; omega
    · have hf : Hid (∀ h : k < s.size, blankI (s[k].toNat : Int) = false) := fun h => by
        cases e : blankI (s[k].toNat : Int) with
        | false => rfl
        | true => exact absurd ⟨h, e⟩ hc
      clear hc
      by_cases hlt : k < s.size
      · have hb := hf.out hlt
        have b1 : ((s[k].toNat : Int) == 32) = false := by unfold blankI at hb; simp at hb; simp; omega
        have b2 : ((s[k].toNat : Int) == 9) = false := by unfold blankI at hb; simp at hb; simp; omega
        clear hb
        go_wp2
        clear b1 b2
        go_loop [4] (fun i => ∃ t : Nat, k ≤ t ∧ t ≤ s.size ∧ i = .int .i64 t ∧ Hid (right s t)) (fun i => (intOf i).toNat)
        case atStart => exact ⟨s.size, by omega, by omega, rfl, fun j hj h => by omega⟩
        case round =>
          obtain ⟨t, hkt, hts, rfl, hr⟩ := hrel
          by_cases hc : ∃ h : k < t, blankI (s[t - 1].toNat : Int) = true
          · obtain ⟨h, hb⟩ := hc
            have N : Hid (right s (t - 1)) := fun j hj hjk => by
              by_cases e : j = t - 1
              · subst e; exact hb
              · exact hr.out j hj (by omega)
            rcases (of_decide_eq_true hb : (s[t - 1].toNat : Int) = 32 ∨ (s[t - 1].toNat : Int) = 9) with h2 | h2
            · have b1 : ((s[t - 1].toNat : Int) == 32) = true := by simp [h2]
              clear h2 hb
              go_wp2
              go_round
              case rel => exact ⟨t - 1, by omega, by omega, by go_num, N⟩
              case measure => simp [intOf]; omega
            · have b1 : ((s[t - 1].toNat : Int) == 32) = false := by simp [h2]
              have b2 : ((s[t - 1].toNat : Int) == 9) = true := by simp [h2]
              clear h2 hb
              go_wp2
              go_round
              case rel => exact ⟨t - 1, by omega, by omega, by go_num, N⟩
              case measure => simp [intOf]; omega
          · have hn : Hid (∀ (_ : k < t) (h : t - 1 < s.size), blankI (s[t - 1].toNat : Int) = false) := fun h h' => by
              cases e : blankI (s[t - 1].toNat : Int) with
              | false => rfl
              | true => exact absurd ⟨h, e⟩ hc
            clear hc
            have F : Hid (trimT s.data.toList = (s.data.toList.drop k).take (t - k)) := trim_is s k t hkt hts hl.out hf.out hr.out hn.out
            have hcut := cut_is s k t hkt hts w
            by_cases hkt2 : k < t
            · have hb := hn.out hkt2 (by omega)
              have b1 : ((s[t - 1].toNat : Int) == 32) = false := by unfold blankI at hb; simp at hb; simp; omega
              have b2 : ((s[t - 1].toNat : Int) == 9) = false := by unfold blankI at hb; simp at hb; simp; omega
              clear hb
              go_wp2
              go_ret
              rw [F.out]
              exact ⟨rfl, rfl⟩
            · go_wp2
              go_ret
              rw [F.out]
              exact ⟨rfl, rfl⟩
      · go_wp2
        go_loop [4] (fun i => i = .int .i64 s.size) (fun i => (intOf i).toNat)
        case atStart => rfl
        case round =>
          obtain rfl := hrel
          have F : Hid (trimT s.data.toList = (s.data.toList.drop k).take (s.size - k)) := trim_is s k s.size hk (Nat.le_refl _) hl.out hf.out (fun j hj h => by omega) (fun h h' => by omega)
          have hcut := cut_is s k s.size hk (Nat.le_refl _) w
          go_wp2
          go_ret
          rw [F.out]
          exact ⟨rfl, rfl⟩
end Go.Proofs.YtmibgcbolnpffabDoor
