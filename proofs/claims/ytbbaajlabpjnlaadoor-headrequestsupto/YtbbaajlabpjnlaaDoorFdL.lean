/- The contracts of goodValue and good, and of the document's Value. -/
import Derived.Test.YtbbaajlabpjnlaaDoorTxtF
import Derived.Test.YtbbaajlabpjnlaaDoorTrimR
import Derived.Test.YtbbaajlabpjnlaaDoorTkR
import Derived.Test.YtbbaajlabpjnlaaDoorFdW
namespace Go.Proofs.YtbbaajlabpjnlaaDoor
open Go.RowKit
def goodV (l : List UInt8) : Bool := l.all txt && decide (trimT l = l)
def goodF (f : List UInt8 × List UInt8) : Bool := isTok f.1 && goodV f.2
theorem all_bad (s : ByteArray) (k : Nat) (h : k < s.size) (hc : txt s[k] = false) : goodV s.data.toList = false := by
  unfold goodV
  rw [all_false s.data.toList k (by simpa using h) hc, Bool.false_and]
theorem all_step (s : ByteArray) (k : Nat) (h : k < s.size) (hc : txt s[k] = true) (ha : (s.data.toList.take k).all txt = true) : (s.data.toList.take (k + 1)).all txt = true := by
  rw [take_snoc s k h, List.all_append, ha]; simp [hc]
theorem all_end (s : ByteArray) (k : Nat) (h : s.size ≤ k) (ha : (s.data.toList.take k).all txt = true) : goodV s.data.toList = decide (trimT s.data.toList = s.data.toList) := by
  rw [take_all s k h] at ha
  unfold goodV; rw [ha, Bool.true_and]
theorem trim_eq (s : ByteArray) (h : trimT s.data.toList = s.data.toList) : (⟨(trimT s.data.toList).toArray⟩ : ByteArray) = s := by rw [h]
theorem trim_ne (s : ByteArray) (h : ¬ trimT s.data.toList = s.data.toList) : ((⟨(trimT s.data.toList).toArray⟩ : ByteArray).toList == s.toList) = false := by
  rw [Lib.toList_data, Lib.toList_data]; simpa using h
theorem trim_ne2 (s : ByteArray) (h : ¬ trimT s.data.toList = s.data.toList) : (trimT s.data.toList == s.toList) = false := by
  rw [Lib.toList_data]; simpa using h
set_option maxRecDepth 20000 in
set_option maxHeartbeats 1000000 in
theorem goodValueTok (s : ByteArray) (w : World) (hs : s.size ≤ 140737488351232) :
    Calls Tryd.prog 76 #[.string s] w fun e w' => e = .returned (.bool (goodV s.data.toList)) ∧ Below w.heap.size w w' := by
  have cT := hide' (trimTok s w hs)
  go_enter Tryd.func76, Tryd.ntmps76
  go_wp2_with fail
  go_loop [6] (fun i => ∃ k : Nat, k ≤ s.size ∧ i = .int .i64 k ∧ Hid ((s.data.toList.take k).all txt = true)) (fun i => s.size - (intOf i).toNat)
  case atStart => exact ⟨0, by omega, rfl, by unfold Hid; simp⟩
  case round =>
    obtain ⟨k, hk, rfl, ha⟩ := hrel
    by_cases hlt : k < s.size
    · have hb := byte_lt s[k]
      cases ht : txtI (s[k].toNat : Int) with
      | true =>
        have A := hide' (all_step s k hlt ht ha.out)
        go_wp2_with (go_at_call 85; refine (textFld _ (by omega) (by omega) _).mono ?_; rintro e w' ⟨rfl, rfl⟩)
        go_round
        case rel => exact ⟨k + 1, by omega, by go_num, A⟩
        case measure => simp [intOf]; omega
      | false =>
        have F := hide' (all_bad s k hlt ht)
        go_wp2_with (go_at_call 85; refine (textFld _ (by omega) (by omega) _).mono ?_; rintro e w' ⟨rfl, rfl⟩)
        go_ret
        rw [F.out]
        exact ⟨rfl, Below.refl _ _⟩
    · have F := hide' (all_end s k (by omega) ha.out)
      by_cases he : trimT s.data.toList = s.data.toList
      · rw [decide_eq_true he] at F
        rw [trim_eq s he] at cT
        clear he
        go_wp2_with fail
        refine cT.out.mono ?_
        rintro e w1 ⟨rfl, b1⟩
        have B1 := hide' b1
        clear b1
        go_wp2_with fail
        go_ret
        rw [F.out]
        exact ⟨rfl, B1.out⟩
      · rw [decide_eq_false he] at F
        have n1 := trim_ne s he
        have n2 := trim_ne2 s he
        clear he
        generalize trimT s.data.toList = t at cT n1 n2
        go_wp2_with fail
        refine cT.out.mono ?_
        rintro e w1 ⟨rfl, b1⟩
        have B1 := hide' b1
        clear b1
        go_wp2_with fail
        go_ret
        rw [F.out]
        exact ⟨rfl, B1.out⟩
set_option maxRecDepth 20000 in
set_option maxHeartbeats 1000000 in
theorem valueRef (s : ByteArray) (w : World) (hs : s.size ≤ 140737488351232) :
    Calls Tryd.prog 58 #[.string s] w fun e w' => e = .returned (.bool (goodV s.data.toList)) ∧ w' = w := by
  have cT := hide' (trimRef s w hs)
  go_enter Tryd.func58, Tryd.ntmps58
  go_wp2_with fail
  go_loop [3] (fun i => ∃ k : Nat, k ≤ s.size ∧ i = .int .i64 k ∧ Hid ((s.data.toList.take k).all txt = true)) (fun i => s.size - (intOf i).toNat)
  case atStart => exact ⟨0, by omega, rfl, by unfold Hid; simp⟩
  case round =>
    obtain ⟨k, hk, rfl, ha⟩ := hrel
    by_cases hlt : k < s.size
    · have hb := byte_lt s[k]
      cases ht : txtI (s[k].toNat : Int) with
      | true =>
        have A := hide' (all_step s k hlt ht ha.out)
        go_wp2_with (go_at_call 77; refine (textRef _ (by omega) (by omega) _).mono ?_; rintro e w' ⟨rfl, rfl⟩)
        go_round
        case rel => exact ⟨k + 1, by omega, by go_num, A⟩
        case measure => simp [intOf]; omega
      | false =>
        have F := hide' (all_bad s k hlt ht)
        go_wp2_with (go_at_call 77; refine (textRef _ (by omega) (by omega) _).mono ?_; rintro e w' ⟨rfl, rfl⟩)
        go_ret
        rw [F.out]
        exact ⟨rfl, rfl⟩
    · have F := hide' (all_end s k (by omega) ha.out)
      by_cases he : trimT s.data.toList = s.data.toList
      · rw [decide_eq_true he] at F
        rw [trim_eq s he] at cT
        clear he
        go_wp2_with fail
        refine cT.out.mono ?_
        rintro e w1 ⟨rfl, rfl⟩
        go_wp2_with fail
        go_ret
        rw [F.out]
        exact ⟨rfl, rfl⟩
      · rw [decide_eq_false he] at F
        have n1 := trim_ne s he
        have n2 := trim_ne2 s he
        clear he
        generalize trimT s.data.toList = t at cT n1 n2
        go_wp2_with fail
        refine cT.out.mono ?_
        rintro e w1 ⟨rfl, rfl⟩
        go_wp2_with fail
        go_ret
        rw [F.out]
        exact ⟨rfl, rfl⟩
set_option maxRecDepth 20000 in
set_option maxHeartbeats 1000000 in
theorem goodTok (x y : ByteArray) (w : World) (hx : x.size ≤ 140737488351232) (hy : y.size ≤ 140737488351232) :
    Calls Tryd.prog 56 #[.agg #[.string x, .string y]] w fun e w' => e = .returned (.bool (goodF (x.data.toList, y.data.toList))) ∧ Below w.heap.size w w' := by
  have c1 := fun W => tokenTok x W hx
  have c2 := hide' (fun W => goodValueTok y W hy)
  have F : Hid (goodF (x.data.toList, y.data.toList) = (isTok x.data.toList && goodV y.data.toList)) := rfl
  rw [F.out]
  clear F
  cases h1 : isTok x.data.toList with
  | false =>
    rw [h1] at c1
    have C1 := hide' c1
    clear c1 c2 h1
    rw [Bool.false_and]
    go_enter Tryd.func56, Tryd.ntmps56
    go_wp2_with (go_at_call 32; refine (C1.out _).mono ?_; rintro e w' ⟨rfl, rfl⟩)
    go_ret
    exact ⟨rfl, below_alloc' _ _⟩
  | true =>
    rw [h1] at c1
    have C1 := hide' c1
    clear c1 h1
    rw [Bool.true_and]
    generalize goodV y.data.toList = gb at c2 ⊢
    go_enter Tryd.func56, Tryd.ntmps56
    go_wp2_with (first | (go_at_call 32; refine (C1.out _).mono ?_; rintro e w' ⟨rfl, rfl⟩) | (go_at_call 76; refine (c2.out _).mono ?_; rintro e w2 ⟨rfl, b2⟩))
    go_ret
    exact ⟨rfl, (below_alloc' w _).trans (b2.mono (by simp))⟩
end Go.Proofs.YtbbaajlabpjnlaaDoor
