/- The walk of ControlCase. -/
import Derived.Test.YtemmghmacbofaaaDoorLawKnC
import Derived.Test.YtemmghmacbofaaaDoorCpB
namespace Go.Proofs.YtemmghmacbofaaaDoor
open Go.RowKit
theorem up_yes (c : UInt8) (h1 : 97 ≤ (c.toNat : Int)) (h2 : (c.toNat : Int) ≤ 122) : ((upB c).toNat : Int) = (c.toNat : Int) - 32 := by
  unfold upB
  rw [if_pos ⟨h1, h2⟩, UInt8.toNat_sub]
  have : (32 : UInt8).toNat = 32 := rfl
  rw [this]
  omega
theorem up_no (c : UInt8) (h : ¬ (97 ≤ (c.toNat : Int) ∧ (c.toNat : Int) ≤ 122)) : upB c = c := by unfold upB; rw [if_neg h]
theorem ups_snoc (l : List UInt8) (c : UInt8) : ups (l ++ [c]) = ups l ++ [upB c] := by simp [ups]
theorem ups_len (l : List UInt8) : (ups l).length = l.length := by simp [ups]
theorem case_vals (o u : List UInt8) : valsOf [(88 :: 45 :: o, nsb), ([99, 97, 99, 104, 101, 45, 67, 79, 78, 84, 82, 79, 76], u)] ccb = [u] := by
  have h1 : ¬ lows (88 :: 45 :: o) = lows ccb := by
    intro h
    have := congrArg List.head? h
    simp [lows, ccb] at this
    exact absurd this (by decide)
  have h2 : lows [99, 97, 99, 104, 101, 45, 67, 79, 78, 84, 82, 79, 76] = lows ccb := by decide
  simp [valsOf, h1, h2]
theorem case_l (o : ByteArray) : (⟨#[88, 45]⟩ ++ o : ByteArray).data.toList = 88 :: 45 :: o.data.toList := by simp [ByteArray.data_append]
set_option maxHeartbeats 4000000 in
theorem caseW (s o : ByteArray) (w : World) (hs : s.size + o.size ≤ 1048576) :
    Calls Tryd.prog 5 #[.string s, .string o] w fun e w' => e = .returned (.bool true) ∧ Below w.heap.size w w' := by
  have cA := hide' (aliveK w)
  have ls : s.data.toList.length = s.size := by simp
  have lo : o.data.toList.length = o.size := by simp
  have hul := ups_len s.data.toList
  obtain ⟨b0, b1, b2, b3, b4, b5, n6, n7, n8, n9, hE⟩ := ctl_shape (dirsOf [s.data.toList]) false
  have c1 := hide' (fun u W (hu : HoldsF W u [(ccb, s.data.toList)]) => by
    have h := ctlOne u _ W hu (by omega)
    rw [hE] at h
    exact h)
  have c2 := hide' (fun (W : World) (H : Nat) (hH : W.heap.size = H) => by
    have h := ctlTwo (.slice (some ⟨W.heap.size, 0, none⟩) 2 2) (88 :: 45 :: o.data.toList) nsb [99, 97, 99, 104, 101, 45, 67, 79, 78, 84, 82, 79, 76] (ups s.data.toList) [ups s.data.toList] (W.alloc (.cells #[.string (⟨#[88, 45]⟩ ++ o), .string ⟨nsb.toArray⟩, .string ⟨#[99, 97, 99, 104, 101, 45, 67, 79, 78, 84, 82, 79, 76]⟩, .string ⟨(ups s.data.toList).toArray⟩] 34))
      (by have h := litB2 W (⟨#[88, 45]⟩ ++ o) ⟨nsb.toArray⟩ ⟨#[99, 97, 99, 104, 101, 45, 67, 79, 78, 84, 82, 79, 76]⟩ ⟨(ups s.data.toList).toArray⟩
          rw [case_l] at h
          exact h) (by simp only [List.length_cons, List.length_nil, hul, ls, lo, nsb]; omega) (case_vals _ _) (by simp) (by simp only [bulkT, hul, ls]; omega)
    rw [ctl_up, hE, hH] at h
    exact h)
  clear hE ls lo hul
  go_enter Tryd.func5, Tryd.ntmps5
  go_wp2_with fail
  refine cA.out.mono ?_
  rintro e w1 ⟨rfl, bw⟩
  have B1 := hide' bw
  clear bw cA
  go_wp2_with fail
  go_loopw [5, 6] (fun v i wr => ∃ (vo : Value) (k : Nat), vo = v ∧ k ≤ s.size ∧ i = .int .i64 k ∧ Own w1 vo (ups (s.data.toList.take k)) wr) (fun _ i _ => s.size - (intOf i).toNat)
  case atStart => exact ⟨_, 0, rfl, Nat.zero_le _, rfl, own_empty w1⟩
  case round =>
    obtain ⟨vo, k, rfl, hk, rfl, hown⟩ := hrel
    by_cases hlt : k < s.size
    · have hb := byte_lt s[k]
      have hl2 : (ups (s.data.toList.take k)).length ≤ k := by rw [ups_len]; exact List.length_take_le _ _
      have R : Hid (ups (s.data.toList.take (k + 1)) = ups (s.data.toList.take k) ++ [upB s[k]]) := by unfold Hid; rw [take_snoc s k hlt, ups_snoc]
      by_cases hu : 97 ≤ (s[k].toNat : Int) ∧ (s[k].toNat : Int) ≤ 122
      · obtain ⟨u1, u2⟩ := hu
        have L : Hid (((upB s[k]).toNat : Int) = (s[k].toNat : Int) - 32) := up_yes _ u1 u2
        go_wp2_with (at_builtin; refine app1 rfl (.tmp 30) (.tmp 32) rfl w1 _ _ rfl hown (upB s[k]) (by rw [L.out]) rfl (by omega) ?_; intro v2 w2 hown2)
        go_roundw
        case rel => exact ⟨_, k + 1, rfl, by omega, by go_num, by rw [R.out]; exact hown2⟩
        case measure => simp [intOf]; omega
      · have L : Hid (upB s[k] = s[k]) := up_no _ hu
        rcases (by omega : (s[k].toNat : Int) < 97 ∨ 122 < (s[k].toNat : Int)) with h | h
        all_goals
          clear hu
          go_wp2_with (at_builtin; refine app1 rfl (.tmp 30) (.tmp 32) rfl w1 _ _ rfl hown (upB s[k]) (by rw [L.out]) rfl (by omega) ?_; intro v2 w2 hown2)
          go_roundw
          case rel => exact ⟨_, k + 1, rfl, by omega, by go_num, by rw [R.out]; exact hown2⟩
          case measure => simp [intOf]; omega
    · have R : Hid (s.data.toList.take k = s.data.toList) := take_all s k (by omega)
      rw [R.out] at hown
      have O1 := hide' hown
      have B2 := hide' (B1.out.trans (hown.2.mono B1.out.size))
      have cO := hide' (oneB s wr)
      clear hown R B1
      go_wp2_with fail
      refine cO.out.mono ?_
      rintro e w2 ⟨u, rfl, hu, bw⟩
      have B3 := hide' (B2.out.trans (bw.mono B2.out.size))
      have O2 := hide' (own_mono O1.out bw)
      have c3 := hide' (c1.out u w2 hu)
      obtain ⟨ao, ca, _, _, he, -⟩ := holdsF_parts hu
      replace he : u = .slice ao 1 ca := he
      rw [he] at c3 ⊢
      clear hu bw he B2 c1 cO O1
      go_wp2_with fail
      refine c3.out.mono ?_
      rintro e w3 ⟨rfl, bw⟩
      have B4 := hide' (B3.out.trans (bw.mono B3.out.size))
      have O3 := hide' (own_mono (own_mono O2.out bw) (below_alloc' w3 (.cells #[.bool b0, .bool b1, .bool b2, .bool b3, .bool b4, .bool b5, .int .i64 n6, .int .i64 n7, .int .i64 n8, .int .i64 n9] 26)))
      clear bw B3 c3 O2
      have hcv := own_conv O3.out
      have BK := hide' (cells_lit w3 #[.bool b0, .bool b1, .bool b2, .bool b3, .bool b4, .bool b5, .int .i64 n6, .int .i64 n7, .int .i64 n8, .int .i64 n9] 26)
      clear O3
      go_wp2_with fail
      refine (c2.out _ _ (by simp)).mono ?_
      rintro e w4 ⟨rfl, bw⟩
      have hz3 : w3.heap.size + 2 ≤ w4.heap.size := by have := bw.size; simp at this; omega
      have B5 := hide' (((B4.out.alloc B4.out.size (.cells #[.bool b0, .bool b1, .bool b2, .bool b3, .bool b4, .bool b5, .int .i64 n6, .int .i64 n7, .int .i64 n8, .int .i64 n9] 26)).alloc (by have := B4.out.size; simp; omega) _).trans (bw.mono (by have := B4.out.size; simp; omega)))
      have BK2 := cells_below (cells_below (cells_below BK.out (below_alloc' _ _)) bw) (below_alloc' w4 (.cells #[.bool b0, .bool b1, .bool b2, .bool b3, .bool b4, .bool b5, .int .i64 n6, .int .i64 n7, .int .i64 n8, .int .i64 n9] 26))
      obtain ⟨⟨d0, d1, d2, d3, d4, d5, d6, d7, d8, d9⟩, -⟩ := cells10K BK2
      clear bw B4 c2 BK BK2 hcv
      go_wp2_with fail
      go_ret
      exact ⟨rfl, B5.out.alloc B5.out.size _⟩
end Go.Proofs.YtemmghmacbofaaaDoor
