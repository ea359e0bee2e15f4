/- The walk of the law DateNext. -/
import Derived.Test.YtpdmcgpppccefaaDoorDaS
import Derived.Deep.QuietTactic
import Derived.BigQuiet
namespace Go.Proofs.YtpdmcgpppccefaaDoor
open Go.RowKit
theorem showL_len (n r y d : Int) {m : Int} (m0 : 1 ≤ m) (m1 : m ≤ 12) : (showL n r y m d).length = 29 := by
  have a := wkL_len n
  have b := moL_len m0 m1
  simp [showL, hmsL, D2, D4, b]
  omega
theorem showL_head (n r y m d : Int) : (showL n r y m d).take 3 = (wkL n).take 3 := by
  have a := wkL_len n
  unfold showL
  simp only [List.append_assoc]
  rw [List.take_append_of_le_length (by simp; omega), List.take_take]
  rfl
theorem showL_tail (n r y d : Int) {m : Int} (m0 : 1 ≤ m) (m1 : m ≤ 12) : (showL n r y m d).drop 16 = [32] ++ hmsL r ++ [32, 71, 77, 84] := by
  have a := wkL_len n
  have b := moL_len m0 m1
  have c : ((wkL n).take 3 ++ [44, 32] ++ D2 d ++ [32] ++ moL m ++ [32] ++ D4 y).length = 16 := by simp [D2, D4, b]; omega
  unfold showL
  rw [List.append_assoc, List.append_assoc, List.drop_append_of_le_length (by omega), List.drop_of_length_le (by omega)]
  simp
theorem wk_next (n : Int) : (wkL n).take 3 ≠ (wkL (n + 1)).take 3 := by
  unfold wkL
  rcases seven n with h | h | h | h | h | h | h
  · rw [h, show (n + 1) % 7 = 1 by omega]; decide
  · rw [h, show (n + 1) % 7 = 2 by omega]; decide
  · rw [h, show (n + 1) % 7 = 3 by omega]; decide
  · rw [h, show (n + 1) % 7 = 4 by omega]; decide
  · rw [h, show (n + 1) % 7 = 5 by omega]; decide
  · rw [h, show (n + 1) % 7 = 6 by omega]; decide
  · rw [h, show (n + 1) % 7 = 0 by omega]; decide
theorem below_drawn {B : Nat} {a w : World} (h : Below B a w) (n : Nat) : Below B a (w.drewN n) := by
  induction n with
  | zero => exact h
  | succ n ih => exact ih.drew
theorem ne_list {a b : ByteArray} (h : ¬ a = b) : (a.toList == b.toList) = false := by
  rw [Lib.toList_data, Lib.toList_data]
  simp only [beq_eq_false_iff_ne, ne_eq]
  intro e
  exact h (ByteArray.ext (Array.ext' e))
theorem ext3 (l : List UInt8) : (⟨l.toArray⟩ : ByteArray).extract 0 3 = ⟨(l.take 3).toArray⟩ := by
  apply ba_of
  rw [extract_list]; simp
theorem ext16 (l : List UInt8) (h : l.length = 29) : (⟨l.toArray⟩ : ByteArray).extract 16 29 = ⟨(l.drop 16).toArray⟩ := by
  apply ba_of
  rw [extract_list, toList_mk, List.take_of_length_le (by simp; omega)]
end Go.Proofs.YtpdmcgpppccefaaDoor
namespace Go.Proofs.YtpdmcgpppccefaaDoor.dateNext
open Go.RowKit
set_option maxHeartbeats 4000000 in
theorem walk (t : Int) (w : World) (V : Vars w) :
    Calls Tryd.prog 8 #[.int .i64 t] w fun e w' => e = .returned (.bool true) ∧ Below w.heap.size w w' := by
  have cA := hide (alive w V)
  by_cases t0 : t < 0
  · clear V
    go_enter Tryd.func8, Tryd.ntmps8
    go_wp2_with fail
    refine cA.out.mono ?_
    rintro e w1 ⟨rfl, b1⟩
    replace b1 := hide b1
    go_wp2_with fail
    go_ret
    exact ⟨rfl, b1.out⟩
  · replace t0 : 0 ≤ t := by omega
    by_cases t1 : 253402214399 < t
    · clear V
      go_enter Tryd.func8, Tryd.ntmps8
      go_wp2_with fail
      refine cA.out.mono ?_
      rintro e w1 ⟨rfl, b1⟩
      replace b1 := hide b1
      go_wp2_with fail
      go_ret
      exact ⟨rfl, b1.out⟩
    · replace t1 : t ≤ 253402214399 := by omega
      obtain ⟨y, m, d, hv, hd⟩ := dateOf (t := t) t0 (by omega)
      obtain ⟨y2, m2, d2, hv2, hd2⟩ := dateOf (t := t + 86400) (by omega) (by omega)
      obtain ⟨y3, m3, d3, hv3, hd3⟩ := dateOf (t := t % 604800) (by omega) (by omega)
      have c1 := hide (fun W V => showCode t y m d t0 (by omega) hv hd W V)
      have c2 := hide (fun W V => showCode (t + 86400) y2 m2 d2 (by omega) (by omega) hv2 hd2 W V)
      have c3 := hide (fun W V => showCode (t % 604800) y3 m3 d3 (by omega) (by omega) hv3 hd3 W V)
      have l1 := showL_len (t / 86400) (t % 86400) y d hv.m0 hv.m1
      have l2 := showL_len ((t + 86400) / 86400) ((t + 86400) % 86400) y2 d2 hv2.m0 hv2.m1
      have l3 := showL_len (t % 604800 / 86400) (t % 604800 % 86400) y3 d3 hv3.m0 hv3.m1
      have e1 : (⟨(showL (t / 86400) (t % 86400) y m d).toArray⟩ : ByteArray).extract 0 3 = (⟨(showL (t % 604800 / 86400) (t % 604800 % 86400) y3 m3 d3).toArray⟩ : ByteArray).extract 0 3 := by
        rw [ext3, ext3, showL_head, showL_head]
        have : wkL (t % 604800 / 86400) = wkL (t / 86400) := by unfold wkL; rw [show t % 604800 / 86400 % 7 = t / 86400 % 7 by omega]
        rw [this]
      have e2 : (⟨(showL (t / 86400) (t % 86400) y m d).toArray⟩ : ByteArray).extract 16 29 = (⟨(showL ((t + 86400) / 86400) ((t + 86400) % 86400) y2 m2 d2).toArray⟩ : ByteArray).extract 16 29 := by
        rw [ext16 _ l1, ext16 _ l2, showL_tail _ _ _ _ hv.m0 hv.m1, showL_tail _ _ _ _ hv2.m0 hv2.m1, show (t + 86400) % 86400 = t % 86400 by omega]
      have e3 : ¬ (⟨(showL (t % 604800 / 86400) (t % 604800 % 86400) y3 m3 d3).toArray⟩ : ByteArray).extract 0 3 = (⟨(showL ((t + 86400) / 86400) ((t + 86400) % 86400) y2 m2 d2).toArray⟩ : ByteArray).extract 0 3 := by
        rw [← e1, ext3, ext3, showL_head, showL_head, show (t + 86400) / 86400 = t / 86400 + 1 by omega]
        intro h
        refine wk_next (t / 86400) ?_
        simpa using h
      obtain ⟨a, ha⟩ : ∃ x : ByteArray, x = ⟨(showL (t / 86400) (t % 86400) y m d).toArray⟩ := ⟨_, rfl⟩
      obtain ⟨b, hb⟩ : ∃ x : ByteArray, x = ⟨(showL ((t + 86400) / 86400) ((t + 86400) % 86400) y2 m2 d2).toArray⟩ := ⟨_, rfl⟩
      obtain ⟨c, hc⟩ : ∃ x : ByteArray, x = ⟨(showL (t % 604800 / 86400) (t % 604800 % 86400) y3 m3 d3).toArray⟩ := ⟨_, rfl⟩
      have za : a.size = 29 := by rw [ha]; exact l1
      have zb : b.size = 29 := by rw [hb]; exact l2
      have zc : c.size = 29 := by rw [hc]; exact l3
      rw [← ha] at c1 e1 e2
      rw [← hb] at c2 e2 e3
      rw [← hc] at c3 e1 e3
      clear l1 l2 l3 ha hb hc hv hv2 hv3 hd hd2 hd3
      have E1 := hide e1
      have E2 := hide e2
      have E3 := hide e3
      clear e1 e2 e3
      replace V := hide V
      go_enter Tryd.func8, Tryd.ntmps8
      go_wp2_with fail
      refine cA.out.mono ?_
      rintro e w1 ⟨rfl, b1⟩
      replace b1 := hide b1
      go_wp2_with fail
      refine (c1.out _ (V.out.below b1.out)).mono ?_
      rintro e w2 ⟨rfl, b2⟩
      have B2 : Hid (Below w.heap.size w w2) := b1.out.trans (b2.mono b1.out.size)
      clear b2
      go_wp2_with fail
      refine (c2.out _ (V.out.below B2.out)).mono ?_
      rintro e w3 ⟨rfl, b3⟩
      have B3 : Hid (Below w.heap.size w w3) := B2.out.trans (b3.mono B2.out.size)
      clear b3
      go_wp2_with fail
      refine (c3.out _ (V.out.below B3.out)).mono ?_
      rintro e w4 ⟨rfl, b4⟩
      have B4 : Hid (Below w.heap.size w w4) := B3.out.trans (b4.mono B3.out.size)
      clear b4
      go_wp2_with fail
      have q1 := E1.out
      have q2 := E2.out
      have q3 := ne_list E3.out
      go_quiet (fail)
      go_wp2_with fail
      go_ret
      exact ⟨rfl, below_drawn B4.out _⟩
end Go.Proofs.YtpdmcgpppccefaaDoor.dateNext
