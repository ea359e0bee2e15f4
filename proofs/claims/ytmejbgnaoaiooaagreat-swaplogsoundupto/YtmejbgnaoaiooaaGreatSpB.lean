/- The contract of Spare; a part of what is owned. -/
import Derived.Test.YtmejbgnaoaiooaaGreatBw4
namespace Go.Proofs.YtmejbgnaoaiooaaGreat
open Go.RowKit
def mks : List UInt8 := [201, 202, 203, 204, 205, 206, 207, 208]
theorem mks_at : ∀ k (h : k < mks.length), ((mks[k]).toNat : Int) = 201 + (k : Int) := by
  intro k h
  have : ∀ j : Fin 8, ((mks[j.val]'(show j.val < mks.length from j.isLt)).toNat : Int) = 201 + (j.val : Int) := by decide
  exact this ⟨k, h⟩
set_option maxHeartbeats 1000000 in
theorem spareC (v : Value) (bs : List UInt8) (w : World) (hv : HoldsB w v bs) (hl : bs.length ≤ 140737488355000) :
    Calls Tryz.prog 9 #[v] w fun e w' => ∃ u, e = .returned u ∧ Own w u (bs ++ mks) w' := by
  have c0 := hide' (copyB v bs w hv (by omega))
  clear hv
  go_enter Tryz.func9, Tryz.ntmps9
  go_wp2_with fail
  refine c0.out.mono ?_
  rintro e w1 ⟨u, rfl, ho⟩
  have HO := hide' ho
  clear ho c0
  go_wp2
  go_loopw [3, 4] (fun v i wr => ∃ k : Nat, k ≤ 8 ∧ i = .int .i64 k ∧ Hid (Own w v (bs ++ mks.take k) wr)) (fun _ i _ => 8 - (intOf i).toNat)
  case atStart => exact ⟨0, by omega, rfl, by unfold Hid; rw [List.take_zero, List.append_nil]; exact HO.out⟩
  case round =>
    obtain ⟨k, hk, rfl, hO⟩ := hrel
    by_cases hlt : k < 8
    · have hm : Hid (((mks[k]'hlt).toNat : Int) = 201 + (k : Int)) := mks_at k hlt
      have ht : Hid (bs ++ mks.take (k + 1) = (bs ++ mks.take k) ++ [mks[k]'hlt]) := by
        unfold Hid; rw [List.take_succ_eq_append_getElem hlt, List.append_assoc]
      have hle : Hid ((bs ++ mks.take k).length + 1 ≤ 140737488355328) := by
        unfold Hid; rw [List.length_append, List.length_take]; have : mks.length = 8 := rfl; omega
      generalize mks[k]'hlt = c at hm ht
      go_wp2_with (at_builtin; refine app1 rfl (.tmp 11) (.tmp 15) rfl w _ _ rfl hO.out c (by rw [hm.out]) rfl hle.out ?_; intro v2 w2 hown2)
      go_roundw
      case rel => exact ⟨k + 1, by omega, by go_num, by unfold Hid; rw [ht.out]; exact hown2⟩
      case measure => simp [intOf]; omega
    · obtain rfl : k = 8 := by omega
      go_wp2
      go_ret
      exact ⟨_, rfl, hO.out⟩
end Go.Proofs.YtmejbgnaoaiooaaGreat
