/- The law's alive. -/
import Derived.Test.YtikkmnclcbanfaaLrW
namespace Go.Proofs.Ytikkmnclcbanfaa
open Go.RowKit Go.Maps Go.WideMaps
theorem al1 : putT 10 ([] : IL) ⟨[97], 1, 4⟩ = [⟨[97], 1, 4⟩] := rfl
theorem al2 : putT 10 ([⟨[97], 1, 4⟩] : IL) ⟨[98], 2, 4⟩ = [⟨[98], 2, 4⟩, ⟨[97], 1, 4⟩] := rfl
theorem al3 : getT ([⟨[98], 2, 4⟩, ⟨[97], 1, 4⟩] : IL) [97] = [⟨[97], 1, 4⟩, ⟨[98], 2, 4⟩] := rfl
theorem al4 : putT 10 ([⟨[97], 1, 4⟩, ⟨[98], 2, 4⟩] : IL) ⟨[99], 3, 4⟩ = [⟨[99], 3, 4⟩, ⟨[97], 1, 4⟩] := rfl
theorem al5 : putG 10 ([⟨[97], 1, 4⟩, ⟨[98], 2, 4⟩] : IL) ⟨[99], 3, 4⟩ = [[98]] := rfl
theorem al6 : peekI ([⟨[98], 2, 4⟩, ⟨[97], 1, 4⟩] : IL) [97] = .tuple #[.int .i64 1, .bool true] := rfl
theorem holds_lit2 (w : World) (x y : List UInt8) : Holds (w.alloc (.cells #[S x, S y] 9)) (.slice (some ⟨w.heap.size, 0, none⟩) 2 2) [x, y] := by
  refine ⟨_, 2, rfl, fun _ => ⟨w.heap.size, 0, rfl, by simp, fun j hj => ?_⟩⟩
  match j, hj with
  | 0, _ => simp
  | 1, _ => simp
set_option maxRecDepth 20000 in
set_option maxHeartbeats 4000000 in
theorem aliveC (w : World) : Calls Try.prog 8 #[] w fun e w' => e = .returned (.bool true) ∧ Below w.heap.size w w' := by
  have C0 := hide' (newQ w w 10 (Below.refl _ _) [] (fun k hk => by cases hk))
  have e0 : min (max (10 : Int) 0) 1073741824 = 10 := by decide
  rw [e0] at C0
  clear e0
  go_enter Try.func8, Try.ntmps8
  go_wp2_with fail
  refine C0.out.mono ?_
  rintro e w1 ⟨g, rfl, t1, _⟩
  have C1 := hide' (putQ t1 (by omega) ⟨[97], 1, 4⟩ ⟨#[97]⟩ rfl (by decide))
  rw [al1] at C1
  clear t1 C0
  go_wp2_with fail
  refine C1.out.mono ?_
  rintro e w2 ⟨gv2, rfl, _, t2, _⟩
  have C2 := hide' (putQ (tbq_sub t2 (q' := []) (fun k hk => by cases hk)) (by omega) ⟨[98], 2, 4⟩ ⟨#[98]⟩ rfl (by decide))
  rw [al2] at C2
  clear t2 C1
  go_wp2_with fail
  refine C2.out.mono ?_
  rintro e w3 ⟨gv3, rfl, _, t3, _⟩
  have C3 := hide' (getQ (tbq_sub t3 (q' := []) (fun k hk => by cases hk)) ⟨#[97]⟩ (by decide))
  rw [show (⟨#[97]⟩ : ByteArray).data.toList = [97] from rfl, al3, al6] at C3
  clear t3 C2
  go_wp2_with fail
  refine C3.out.mono ?_
  rintro e w4 ⟨rfl, t4, _⟩
  have C4 := hide' (putQ t4 (by omega) ⟨[99], 3, 4⟩ ⟨#[99]⟩ rfl (by decide))
  rw [al4, al5] at C4
  clear t4 C3
  go_wp2_with fail
  refine C4.out.mono ?_
  rintro e w5 ⟨gv5, rfl, g5, t5, _⟩
  have T5 := hide' (tbq_sub t5 (q' := []) (fun k hk => by cases hk))
  obtain ⟨a5, c5, e5⟩ := ownT_len g5
  subst e5
  have G5 := hide' g5
  have bA := below_alloc' w5 (.cells #[.string ⟨#[98]⟩] 9)
  have CS := hide' (sameTexts (.slice a5 [[(98 : UInt8)]].length c5) (.slice (some ⟨w5.heap.size, 0, none⟩) 1 1) [[98]] [[98]] (w5.alloc (.cells #[.string ⟨#[98]⟩] 9)) (holds_mono (holds_ownT g5) bA) (holds_lit1 w5 [98]) (by simp) (by simp))
  rw [show decide ([[(98 : UInt8)]] = [[98]]) = true from rfl] at CS
  have BA := hide' bA
  clear t5 C4 g5 bA
  go_wp2_with fail
  refine CS.out.mono ?_
  rintro e w6 ⟨rfl, n6, ew6⟩
  have B6 : Hid (Below w5.heap.size w5 w6) := by rw [ew6]; exact BA.out.trans ((below_drewN _ _).mono (by simp))
  have T6 := hide' (tbq_below T5.out B6.out)
  have CK := hide' (keysQ T6.out (by omega))
  clear ew6 CS
  go_wp2_with fail
  refine CK.out.mono ?_
  rintro e w7 ⟨kv, rfl, o7⟩
  have T7 := hide' (tbq_below T6.out o7.2)
  have bB := below_alloc' w7 (.cells #[.string ⟨#[99]⟩, .string ⟨#[97]⟩] 9)
  have CS2 := hide' (sameTexts kv (.slice (some ⟨w7.heap.size, 0, none⟩) 2 2) (keysT ([⟨[99], 3, 4⟩, ⟨[97], 1, 4⟩] : IL)) [[99], [97]] (w7.alloc (.cells #[.string ⟨#[99]⟩, .string ⟨#[97]⟩] 9)) (holds_mono (holds_own o7) bB) (holds_lit2 w7 [99] [97]) (by simp [keysT]) (by simp))
  rw [show decide (keysT ([⟨[99], 3, 4⟩, ⟨[97], 1, 4⟩] : IL) = [[99], [97]]) = true from rfl] at CS2
  have BB := hide' bB
  clear o7 CK bB
  go_wp2_with fail
  refine CS2.out.mono ?_
  rintro e w8 ⟨rfl, n8, ew8⟩
  have B8 : Hid (Below w7.heap.size w7 w8) := by rw [ew8]; exact BB.out.trans ((below_drewN _ _).mono (by simp))
  have T8 := hide' (tbq_below T7.out B8.out)
  have CU := hide' (usedQ T8.out)
  rw [show usedT ([⟨[99], 3, 4⟩, ⟨[97], 1, 4⟩] : IL) = 8 from rfl] at CU
  clear ew8 CS2
  go_wp2_with fail
  refine CU.out.mono ?_
  rintro e w9 ⟨rfl, ew⟩
  rw [ew]
  clear ew w9
  go_wp2_with fail
  go_ret
  exact ⟨rfl, tbq_bel T8.out⟩
end Go.Proofs.Ytikkmnclcbanfaa
