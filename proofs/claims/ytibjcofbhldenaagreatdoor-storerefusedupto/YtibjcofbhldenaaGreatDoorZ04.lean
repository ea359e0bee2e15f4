/- The contract of the document's Byte, and those of Token and of the document's Token. The contract of the document's Token. The contracts of appendNumber and of the document's Number. The contracts of goodValue and good, and of the document's Value. -/
import Derived.Deep.OwnRows
import Derived.Test.YtibjcofbhldenaaGreatDoorZ02
import Derived.Test.YtibjcofbhldenaaGreatDoorZ01
namespace Go.Proofs.YtibjcofbhldenaaGreatDoor
open Go.RowKit
end Go.Proofs.YtibjcofbhldenaaGreatDoor
namespace Go.Proofs.YtibjcofbhldenaaGreatDoor
open Go.RowKit
end Go.Proofs.YtibjcofbhldenaaGreatDoor
namespace Go.Proofs.YtibjcofbhldenaaGreatDoor
open Go.RowKit
theorem be_byte (n k m : Nat) (hm : m = 256 ^ k) : ((n / m % 256 : Nat) : Int) = ((UInt8.ofNat (n / 256 ^ k)).toNat : Int) := by
  subst hm
  rw [ofNat_mod]
set_option maxRecDepth 20000 in
set_option maxHeartbeats 1000000 in
theorem appendNumberC (v : Value) (bs : List UInt8) (w0 w : World) (n size : Nat) (hO : Own w0 v bs w) (hs : size ≤ 4) (hl : bs.length ≤ 1000000) :
    Calls Tryz.prog 140 #[v, .int .i64 (n : Int), .int .i64 (size : Int)] w fun e w' => ∃ u, e = .returned u ∧ Own w0 u (bs ++ beN size n) w' := by
  have HO := hide' hO
  obtain ⟨L, hL⟩ : ∃ L, L = bs ++ beN size n := ⟨_, rfl⟩
  have EL := hide' hL
  rw [← hL]
  clear hO hL
  go_enter Tryz.func140, Tryz.ntmps140
  go_wp2
  go_loopw [0, 7] (fun v i wr => ∃ (k : Nat) (pre : List UInt8), k ≤ 4 ∧ i = .int .i64 ((k : Int) - 1) ∧ Hid (pre ++ beN k n = L) ∧ Hid (pre.length + k ≤ 1000010) ∧ Hid (Own w0 v pre wr)) (fun _ i _ => (intOf i + 1).toNat)
  case atStart => exact ⟨size, bs, hs, by first | rfl | go_num, EL.out.symm, by unfold Hid; omega, HO⟩
  case round =>
    obtain ⟨k, pre, hk, rfl, hE, hP, hO⟩ := hrel
    match k, hk with
    | 0, _ =>
      have hO' := hO.out
      have e := hE.out
      rw [beN, List.append_nil] at e
      have E := hide' e
      clear e
      go_wp2
      go_ret
      exact ⟨_, rfl, by rw [← E.out]; exact hO'⟩
    | 1, _ =>
      have hb := hide' (be_byte n 0 1 (by decide))
      have ht : Hid ((pre ++ [UInt8.ofNat (n / 256 ^ 0)]) ++ beN 0 n = L) := by
        unfold Hid; rw [List.append_assoc]; exact hE.out
      have hle : Hid (pre.length + 1 ≤ 140737488355328) := by unfold Hid; have := hP.out; omega
      generalize UInt8.ofNat (n / 256 ^ 0) = c at hb ht
      go_wp2_with (at_builtin; refine app1 rfl (.tmp 14) (.tmp 20) rfl w0 _ _ rfl hO.out c (by have := hb.out; omega) rfl hle.out ?_; intro v2 w2 hown2)
      go_roundw
      case rel => exact ⟨0, pre ++ [c], by omega, by first | rfl | go_num, ht, by unfold Hid; have := hP.out; rw [List.length_append, List.length_singleton]; omega, hown2⟩
      case measure => simp [intOf]
    | 2, _ =>
      have hb := hide' (be_byte n 1 256 (by decide))
      have ht : Hid ((pre ++ [UInt8.ofNat (n / 256 ^ 1)]) ++ beN 1 n = L) := by
        unfold Hid; rw [List.append_assoc]; exact hE.out
      have hle : Hid (pre.length + 1 ≤ 140737488355328) := by unfold Hid; have := hP.out; omega
      generalize UInt8.ofNat (n / 256 ^ 1) = c at hb ht
      go_wp2_with (at_builtin; refine app1 rfl (.tmp 14) (.tmp 20) rfl w0 _ _ rfl hO.out c (by have := hb.out; omega) rfl hle.out ?_; intro v2 w2 hown2)
      go_roundw
      case rel => exact ⟨1, pre ++ [c], by omega, by first | rfl | go_num, ht, by unfold Hid; have := hP.out; rw [List.length_append, List.length_singleton]; omega, hown2⟩
      case measure => simp [intOf]
    | 3, _ =>
      have hb := hide' (be_byte n 2 65536 (by decide))
      have ht : Hid ((pre ++ [UInt8.ofNat (n / 256 ^ 2)]) ++ beN 2 n = L) := by
        unfold Hid; rw [List.append_assoc]; exact hE.out
      have hle : Hid (pre.length + 1 ≤ 140737488355328) := by unfold Hid; have := hP.out; omega
      generalize UInt8.ofNat (n / 256 ^ 2) = c at hb ht
      go_wp2_with (at_builtin; refine app1 rfl (.tmp 14) (.tmp 20) rfl w0 _ _ rfl hO.out c (by have := hb.out; omega) rfl hle.out ?_; intro v2 w2 hown2)
      go_roundw
      case rel => exact ⟨2, pre ++ [c], by omega, by first | rfl | go_num, ht, by unfold Hid; have := hP.out; rw [List.length_append, List.length_singleton]; omega, hown2⟩
      case measure => simp [intOf]
    | 4, _ =>
      have hb := hide' (be_byte n 3 16777216 (by decide))
      have ht : Hid ((pre ++ [UInt8.ofNat (n / 256 ^ 3)]) ++ beN 3 n = L) := by
        unfold Hid; rw [List.append_assoc]; exact hE.out
      have hle : Hid (pre.length + 1 ≤ 140737488355328) := by unfold Hid; have := hP.out; omega
      generalize UInt8.ofNat (n / 256 ^ 3) = c at hb ht
      go_wp2_with (at_builtin; refine app1 rfl (.tmp 14) (.tmp 20) rfl w0 _ _ rfl hO.out c (by have := hb.out; omega) rfl hle.out ?_; intro v2 w2 hown2)
      go_roundw
      case rel => exact ⟨3, pre ++ [c], by omega, by first | rfl | go_num, ht, by unfold Hid; have := hP.out; rw [List.length_append, List.length_singleton]; omega, hown2⟩
      case measure => simp [intOf]
end Go.Proofs.YtibjcofbhldenaaGreatDoor
namespace Go.Proofs.YtibjcofbhldenaaGreatDoor
open Go.RowKit
def goodV (l : List UInt8) : Bool := l.all txt && decide (trimT l = l)
def goodF (f : List UInt8 × List UInt8) : Bool := isTok f.1 && goodV f.2
theorem all_bad (s : ByteArray) (k : Nat) (h : k < s.size) (hc : txt s[k] = false) : goodV s.data.toList = false := by
  unfold goodV
  rw [all_false s.data.toList k (by simpa using h) hc, Bool.false_and]
theorem all_step (s : ByteArray) (k : Nat) (h : k < s.size) (hc : txt s[k] = true) (ha : (s.data.toList.take k).all txt = true) : (s.data.toList.take (k + 1)).all txt = true := by
  rw [take_snoc s k h, List.all_append, ha]; simp [hc]
theorem all_end (s : ByteArray) (k : Nat) (h : s.size ≤ k) (ha : (s.data.toList.take k).all txt = true) : goodV s.data.toList = decide (trimT s.data.toList = s.data.toList) := by
  rw [take_all s k h] at ha
  unfold goodV; rw [ha, Bool.true_and]
theorem trim_eq (s : ByteArray) (h : trimT s.data.toList = s.data.toList) : (⟨(trimT s.data.toList).toArray⟩ : ByteArray) = s := by rw [h]
theorem trim_ne (s : ByteArray) (h : ¬ trimT s.data.toList = s.data.toList) : ((⟨(trimT s.data.toList).toArray⟩ : ByteArray).toList == s.toList) = false := by
  rw [Lib.toList_data, Lib.toList_data]; simpa using h
theorem trim_ne2 (s : ByteArray) (h : ¬ trimT s.data.toList = s.data.toList) : (trimT s.data.toList == s.toList) = false := by
  rw [Lib.toList_data]; simpa using h
set_option maxRecDepth 20000 in
set_option maxHeartbeats 1000000 in
theorem goodValueTok (s : ByteArray) (w : World) (hs : s.size ≤ 140737488351232) :
    Calls Tryz.prog 226 #[.string s] w fun e w' => e = .returned (.bool (goodV s.data.toList)) ∧ Below w.heap.size w w' := by
  have cT := hide' (trimTok s w hs)
  go_enter Tryz.func226, Tryz.ntmps226
  go_wp2_with fail
  go_loop [6] (fun i => ∃ k : Nat, k ≤ s.size ∧ i = .int .i64 k ∧ Hid ((s.data.toList.take k).all txt = true)) (fun i => s.size - (intOf i).toNat)
  case atStart => exact ⟨0, by omega, rfl, by unfold Hid; simp⟩
  case round =>
    obtain ⟨k, hk, rfl, ha⟩ := hrel
    by_cases hlt : k < s.size
    · have hb := byte_lt s[k]
      cases ht : txtI (s[k].toNat : Int) with
      | true =>
        have A := hide' (all_step s k hlt ht ha.out)
        go_wp2_with (go_at_call 248; refine (textFld _ (by omega) (by omega) _).mono ?_; rintro e w' ⟨rfl, rfl⟩)
        go_round
        case rel => exact ⟨k + 1, by omega, by go_num, A⟩
        case measure => simp [intOf]; omega
      | false =>
        have F := hide' (all_bad s k hlt ht)
        go_wp2_with (go_at_call 248; refine (textFld _ (by omega) (by omega) _).mono ?_; rintro e w' ⟨rfl, rfl⟩)
        go_ret
        rw [F.out]
        exact ⟨rfl, Below.refl _ _⟩
    · have F := hide' (all_end s k (by omega) ha.out)
      by_cases he : trimT s.data.toList = s.data.toList
      · rw [decide_eq_true he] at F
        rw [trim_eq s he] at cT
        clear he
        go_wp2_with fail
        refine cT.out.mono ?_
        rintro e w1 ⟨rfl, b1⟩
        have B1 := hide' b1
        clear b1
        go_wp2_with fail
        go_ret
        rw [F.out]
        exact ⟨rfl, B1.out⟩
      · rw [decide_eq_false he] at F
        have n1 := trim_ne s he
        have n2 := trim_ne2 s he
        clear he
        generalize trimT s.data.toList = t at cT n1 n2
        go_wp2_with fail
        refine cT.out.mono ?_
        rintro e w1 ⟨rfl, b1⟩
        have B1 := hide' b1
        clear b1
        go_wp2_with fail
        go_ret
        rw [F.out]
        exact ⟨rfl, B1.out⟩
set_option maxRecDepth 20000 in
set_option maxHeartbeats 1000000 in
theorem goodTok (x y : ByteArray) (w : World) (hx : x.size ≤ 140737488351232) (hy : y.size ≤ 140737488351232) :
    Calls Tryz.prog 201 #[.agg #[.string x, .string y]] w fun e w' => e = .returned (.bool (goodF (x.data.toList, y.data.toList))) ∧ Below w.heap.size w w' := by
  have c1 := fun W => tokenTok x W hx
  have c2 := hide' (fun W => goodValueTok y W hy)
  have F : Hid (goodF (x.data.toList, y.data.toList) = (isTok x.data.toList && goodV y.data.toList)) := rfl
  rw [F.out]
  clear F
  cases h1 : isTok x.data.toList with
  | false =>
    rw [h1] at c1
    have C1 := hide' c1
    clear c1 c2 h1
    rw [Bool.false_and]
    go_enter Tryz.func201, Tryz.ntmps201
    go_wp2_with (go_at_call 225; refine (C1.out _).mono ?_; rintro e w' ⟨rfl, rfl⟩)
    go_ret
    exact ⟨rfl, below_alloc' _ _⟩
  | true =>
    rw [h1] at c1
    have C1 := hide' c1
    clear c1 h1
    rw [Bool.true_and]
    generalize goodV y.data.toList = gb at c2 ⊢
    go_enter Tryz.func201, Tryz.ntmps201
    go_wp2_with (first | (go_at_call 225; refine (C1.out _).mono ?_; rintro e w' ⟨rfl, rfl⟩) | (go_at_call 226; refine (c2.out _).mono ?_; rintro e w2 ⟨rfl, b2⟩))
    go_ret
    exact ⟨rfl, (below_alloc' w _).trans (b2.mono (by simp))⟩
end Go.Proofs.YtibjcofbhldenaaGreatDoor
