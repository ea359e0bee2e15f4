/- The document's blank, visible, version, end and split. -/
import Derived.Test.YtbbaajlabpjnlabGreatDoorBd
namespace Go.Proofs.YtbbaajlabpjnlabGreatDoor
open Go.RowKit
theorem bl_take (s : ByteArray) (f k : Nat) (hf : f ≤ k) (h : k < s.size) (ha : ((s.data.toList.drop f).take (k - f)).all noBl = true) (hc : noBl s[k] = true) : ((s.data.toList.drop f).take (k + 1 - f)).all noBl = true := by
  have hk : k - f < (s.data.toList.drop f).length := by rw [List.length_drop]; simp; omega
  rw [show k + 1 - f = (k - f) + 1 by omega, List.take_succ_eq_append_getElem hk, List.all_append, ha, Bool.true_and]
  have e : (s.data.toList.drop f)[k - f] = s[k] := by
    rw [List.getElem_drop]
    show s.data.toList[f + (k - f)]'_ = s.data[k]
    have : f + (k - f) = k := by omega
    simp only [this]
    rfl
  rw [e]; simp [hc]
theorem word_at (l : List UInt8) (k : Nat) (hk : k ≤ l.length) (ha : (l.take k).all noBl = true) (he : k = l.length ∨ ∃ h : k < l.length, noBl l[k] = false) : (word l).length = k := by
  have e : l = l.take k ++ l.drop k := (List.take_append_drop k l).symm
  have h1 : ∀ c r, l.drop k = c :: r → noBl c = false := by
    intro c r hr
    rcases he with he | ⟨h, hb⟩
    · rw [he, List.drop_length] at hr; cases hr
    · rw [List.drop_eq_getElem_cons h] at hr
      simp only [List.cons.injEq] at hr
      rw [← hr.1]; exact hb
  have := (while_app noBl (l.take k) (l.drop k) (fun c hc => List.all_eq_true.1 ha c hc) h1).1
  rw [← e] at this
  unfold word
  rw [this, List.length_take]; omega
set_option maxRecDepth 20000 in
set_option maxHeartbeats 1000000 in
theorem blankRef (s : ByteArray) (f : Nat) (hf : f ≤ s.size) (hs : s.size ≤ 140737488351232) (w : World) :
    Calls Tryz.prog 20 #[.string s, .int .i64 (f : Int)] w fun e w' => e = .returned (.int .i64 ((f + (word (s.data.toList.drop f)).length : Nat) : Int)) ∧ w' = w := by
  obtain ⟨r, hr⟩ : ∃ r, r = f + (word (s.data.toList.drop f)).length := ⟨_, rfl⟩
  rw [← hr]
  have HR := hide' hr
  clear hr
  have hdl : (s.data.toList.drop f).length = s.size - f := by rw [List.length_drop]; simp
  have HD := hide' hdl
  clear hdl
  go_enter Tryz.func20, Tryz.ntmps20
  go_wp2_with fail
  go_loop [1] (fun i => ∃ k : Nat, f ≤ k ∧ k ≤ s.size ∧ i = .int .i64 k ∧ Hid (((s.data.toList.drop f).take (k - f)).all noBl = true)) (fun i => s.size - (intOf i).toNat)
  case atStart => exact ⟨f, Nat.le_refl _, hf, rfl, by unfold Hid; simp⟩
  case round =>
    obtain ⟨k, hfk, hk, rfl, ha⟩ := hrel
    by_cases hlt : k < s.size
    · by_cases hc : s[k] = 32
      · have F : Hid (r = k) := by
          unfold Hid
          rw [HR.out, word_at _ (k - f) (by rw [HD.out]; omega) ha.out (.inr ⟨by rw [HD.out]; omega, by
            rw [noBl_iff, List.getElem_drop]
            have e : f + (k - f) = k := by omega
            simp only [e]
            exact hc⟩)]
          omega
        have n1 : ((s[k].toNat : Int) != 32) = false := by rw [hc]; decide
        have n2 : (s[k].toNat != 32) = false := by rw [hc]; decide
        clear hc
        go_wp2_with fail
        go_ret
        rw [F.out]
        exact ⟨rfl, rfl⟩
      · have A := hide' (bl_take s f k hfk hlt ha.out (by cases h : noBl s[k] with | true => rfl | false => exact absurd ((noBl_iff _).1 h) hc))
        have n1 : ((s[k].toNat : Int) != 32) = true := by
          simp; intro e; exact hc (UInt8.toNat_inj.1 (by show s[k].toNat = 32; omega))
        have n2 : (s[k].toNat != 32) = true := by
          simp; intro e; exact hc (UInt8.toNat_inj.1 (by show s[k].toNat = 32; omega))
        clear hc
        go_wp2_with fail
        go_round
        case rel => exact ⟨k + 1, by omega, by omega, by go_num, A⟩
        case measure => simp [intOf]; omega
    · have F : Hid (r = k) := by
        unfold Hid
        rw [HR.out, word_at _ (k - f) (by rw [HD.out]; omega) ha.out (.inl (by rw [HD.out]; omega))]
        omega
      go_wp2_with fail
      go_ret
      rw [F.out]
      exact ⟨rfl, rfl⟩
theorem goodT_bad (s : ByteArray) (k : Nat) (h : k < s.size) (hc : vis s[k] = false) : goodT s.data.toList = false := by
  unfold goodT; rw [ev_bad vis s k h hc, Bool.and_false]
set_option maxRecDepth 20000 in
set_option maxHeartbeats 1000000 in
theorem visibleRef (s : ByteArray) (hs : s.size ≤ 140737488351232) (w : World) :
    Calls Tryz.prog 22 #[.string s] w fun e w' => e = .returned (.bool (goodT s.data.toList)) ∧ w' = w := by
  by_cases h0 : s.size = 0
  · obtain rfl := empty_of s h0
    clear h0 hs
    go_enter Tryz.func22, Tryz.ntmps22
    go_wp2
    go_rounds 1
    go_ret
    exact ⟨rfl, rfl⟩
  · have hne := ne_empty s (by omega)
    have G : Hid (goodT s.data.toList = s.data.toList.all vis) := by
      unfold Hid goodT
      rw [Lib.toList_data] at hne
      rw [hne]; rfl
    obtain ⟨r, hr⟩ : ∃ r, r = goodT s.data.toList := ⟨_, rfl⟩
    rw [← hr]
    have HR := hide' hr
    clear hr h0
    go_enter Tryz.func22, Tryz.ntmps22
    go_wp2_with fail
    go_loop [3] (fun i => ∃ k : Nat, k ≤ s.size ∧ i = .int .i64 k ∧ Hid ((s.data.toList.take k).all vis = true)) (fun i => s.size - (intOf i).toNat)
    case atStart => exact ⟨0, by omega, rfl, by unfold Hid; simp⟩
    case round =>
      obtain ⟨k, hk, rfl, ha⟩ := hrel
      by_cases hlt : k < s.size
      · have hb := byte_lt s[k]
        by_cases a1 : (s[k].toNat : Int) < 33
        · have F : Hid (r = false) := by unfold Hid; rw [HR.out]; exact goodT_bad s k hlt (by unfold vis visI; simp; omega)
          have t1 : decide ((s[k].toNat : Int) < 33) = true := by simpa using a1
          go_wp2_with fail
          go_ret
          rw [F.out]
          exact ⟨rfl, rfl⟩
        · have t1 : decide ((s[k].toNat : Int) < 33) = false := by simpa using a1
          by_cases a2 : (126 : Int) < (s[k].toNat : Int)
          · have F : Hid (r = false) := by unfold Hid; rw [HR.out]; exact goodT_bad s k hlt (by unfold vis visI; simp; omega)
            have t2 : decide ((126 : Int) < (s[k].toNat : Int)) = true := by simpa using a2
            go_wp2_with fail
            go_ret
            rw [F.out]
            exact ⟨rfl, rfl⟩
          · have t2 : decide ((126 : Int) < (s[k].toNat : Int)) = false := by simpa using a2
            have A := hide' (ev_step vis s k hlt (by unfold vis visI; simp; omega) ha.out)
            go_wp2_with fail
            go_round
            case rel => exact ⟨k + 1, by omega, by go_num, A⟩
            case measure => simp [intOf]; omega
      · have F : Hid (r = true) := by unfold Hid; rw [HR.out, G.out]; exact ev_end vis s k (by omega) ha.out
        go_wp2_with fail
        go_ret
        rw [F.out]
        exact ⟨rfl, rfl⟩
end Go.Proofs.YtbbaajlabpjnlabGreatDoor
