/- The contract of the document's Quote: it returns what quoteOf says. -/
import Derived.Test.YtegdbieieacalaaQb
namespace Go.Proofs.Ytegdbieieacalaa
open Go.RowKit
set_option maxHeartbeats 1000000 in
theorem quote7 (s : ByteArray) (w : World) (hs : s.size ≤ 1048576) :
    Calls Try.prog 7 #[.string s] w fun e w' => e = .returned (.tuple #[.string ⟨(quoteOf s.data.toList).1.toArray⟩, .int .i64 (quoteOf s.data.toList).2]) ∧ Below w.heap.size w w' := by
  go_enter Try.func7, Try.ntmps7
  go_wp2
  go_loopw [4, 5] (fun v i wr => ∃ k : Nat, k ≤ s.size ∧ i = .int .i64 k ∧ Hid (allT s k) ∧ Own w v (34 :: escs (s.data.toList.take k)) wr) (fun _ i _ => s.size - (intOf i).toNat)
  case atStart => exact ⟨0, Nat.zero_le _, rfl, fun j _ h => by omega, own_lit w 34 34 rfl⟩
  case round =>
    obtain ⟨k, hk, rfl, hall, hown⟩ := hrel
    by_cases hlt : k < s.size
    · have hb := byte_lt s[k]
      have hl := escs_len (s.data.toList.take k)
      have hl2 : (s.data.toList.take k).length ≤ k := List.length_take_le _ _
      cases ht : txtI (s[k].toNat : Int) with
      | false =>
        have F : Hid (quoteOf s.data.toList = ([], 11)) := quote_bad s k hlt ht
        go_wp2_with (go_at_call 10; refine (text10 _ (by omega) (by omega) _).mono ?_; rintro e w' ⟨rfl, rfl⟩)
        go_ret2
        rw [F.out]
        exact ⟨rfl, hown.2⟩
      | true =>
        have A : Hid (allT s (k + 1)) := allT_succ hall.out hlt ht
        by_cases h34 : (s[k].toNat : Int) = 34 ∨ (s[k].toNat : Int) = 92
        · have R : Hid (34 :: escs (s.data.toList.take (k + 1)) = ((34 :: escs (s.data.toList.take k)) ++ [92]) ++ [s[k]]) := by
            unfold Hid; rw [take_snoc s k hlt, escs_snoc]; unfold esc; rw [if_pos h34]; simp
          rcases h34 with h34 | h92
          · have e1 : ((s[k].toNat : Int) == 34) = true := by simp; omega
            clear h34
            go_wp2_with (first
              | (go_at_call 10; refine (text10 _ (by omega) (by omega) _).mono ?_; rintro e w' ⟨rfl, rfl⟩)
              | (at_builtin; refine app1 rfl (.tmp 28) (.tmp 29) rfl w _ _ rfl hown 92 rfl rfl (by simp; omega) ?_; intro v1 w1 hown1)
              | (at_builtin; refine app1 rfl (.tmp 31) (.tmp 35) rfl w _ _ rfl hown1 s[k] rfl rfl (by simp; omega) ?_; intro v2 w2 hown2))
            go_roundw
            case rel => exact ⟨k + 1, by omega, by go_num, A, by rw [R.out]; exact hown2⟩
            case measure => simp [intOf]; omega
          · have e1 : ((s[k].toNat : Int) == 34) = false := by simp; omega
            have e2 : ((s[k].toNat : Int) == 92) = true := by simp; omega
            clear h92
            go_wp2_with (first
              | (go_at_call 10; refine (text10 _ (by omega) (by omega) _).mono ?_; rintro e w' ⟨rfl, rfl⟩)
              | (at_builtin; refine app1 rfl (.tmp 28) (.tmp 29) rfl w _ _ rfl hown 92 rfl rfl (by simp; omega) ?_; intro v1 w1 hown1)
              | (at_builtin; refine app1 rfl (.tmp 31) (.tmp 35) rfl w _ _ rfl hown1 s[k] rfl rfl (by simp; omega) ?_; intro v2 w2 hown2))
            go_roundw
            case rel => exact ⟨k + 1, by omega, by go_num, A, by rw [R.out]; exact hown2⟩
            case measure => simp [intOf]; omega
        · have e1 : ((s[k].toNat : Int) == 34) = false := by simp; omega
          have e2 : ((s[k].toNat : Int) == 92) = false := by simp; omega
          have R : Hid (34 :: escs (s.data.toList.take (k + 1)) = (34 :: escs (s.data.toList.take k)) ++ [s[k]]) := by
            unfold Hid; rw [take_snoc s k hlt, escs_snoc]; unfold esc; rw [if_neg h34]; simp
          clear h34
          go_wp2_with (first
            | (go_at_call 10; refine (text10 _ (by omega) (by omega) _).mono ?_; rintro e w' ⟨rfl, rfl⟩)
            | (at_builtin; refine app1 rfl (.tmp 31) (.tmp 35) rfl w _ _ rfl hown s[k] rfl rfl (by simp; omega) ?_; intro v2 w2 hown2))
          go_roundw
          case rel => exact ⟨k + 1, by omega, by go_num, A, by rw [R.out]; exact hown2⟩
          case measure => simp [intOf]; omega
    · have F : Hid (quoteOf s.data.toList = (34 :: (escs s.data.toList ++ [34]), 0)) := quote_good s (fun j hj => hall.out j hj (by omega))
      have R : Hid (s.data.toList.take k = s.data.toList) := take_all s k (by omega)
      have hl := escs_len (s.data.toList.take k)
      have hl2 : (s.data.toList.take k).length ≤ k := List.length_take_le _ _
      go_wp2_with (at_builtin; refine app1 rfl (.tmp 37) (.tmp 38) rfl w _ _ rfl hown 34 rfl rfl (by simp; omega) ?_; intro v1 w1 hown1; have hcv := own_conv hown1)
      go_ret2
      rw [F.out]
      rw [R.out]
      exact ⟨rfl, hown1.2⟩
end Go.Proofs.Ytegdbieieacalaa
