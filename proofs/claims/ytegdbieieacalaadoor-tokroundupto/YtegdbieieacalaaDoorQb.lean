/- The contract of tok.Quote: it returns what quoteOf says. -/
import Derived.Test.YtegdbieieacalaaDoorTxt
namespace Go.Proofs.YtegdbieieacalaaDoor
open Go.RowKit
theorem quote_bad (s : ByteArray) (k : Nat) (h : k < s.size) (hc : txtI (s[k].toNat : Int) = false) : quoteOf s.data.toList = ([], 11) := by
  unfold quoteOf
  rw [all_false s.data.toList k (by simpa using h) (by unfold txt; exact hc)]
  rfl
theorem quote_good (s : ByteArray) (h : ∀ j (hj : j < s.size), txtI (s[j].toNat : Int) = true) : quoteOf s.data.toList = (34 :: (escs s.data.toList ++ [34]), 0) := by
  unfold quoteOf
  rw [if_pos]
  rw [List.all_eq_true]
  intro c hc
  obtain ⟨j, hj, rfl⟩ := List.getElem_of_mem hc
  exact h j (by simpa using hj)
def allT (s : ByteArray) (k : Nat) : Prop := ∀ j (hj : j < s.size), j < k → txtI (s[j].toNat : Int) = true
theorem allT_succ {s : ByteArray} {k : Nat} (h : allT s k) (hk : k < s.size) (hc : txtI (s[k].toNat : Int) = true) : allT s (k + 1) := by
  intro j hj hjk
  by_cases e : j = k
  · subst e; exact hc
  · exact h j hj (by omega)
set_option maxHeartbeats 1000000 in
theorem quoteTok (s : ByteArray) (w : World) (hs : s.size ≤ 1048576) :
    Calls Tryd.prog 17 #[.string s] w fun e w' => e = .returned (.tuple #[.string ⟨(quoteOf s.data.toList).1.toArray⟩, .int .i64 (quoteOf s.data.toList).2]) ∧ Below w.heap.size w w' := by
  go_enter Tryd.func17, Tryd.ntmps17
  go_wp2
  go_loopw [4, 10] (fun v i wr => ∃ k : Nat, k ≤ s.size ∧ i = .int .i64 k ∧ Hid (allT s k) ∧ Own w v (34 :: escs (s.data.toList.take k)) wr) (fun _ i _ => s.size - (intOf i).toNat)
  case atStart => exact ⟨0, Nat.zero_le _, rfl, fun j _ h => by omega, own_lit w 34 34 rfl⟩
  case round =>
    obtain ⟨k, hk, rfl, hall, hown⟩ := hrel
    by_cases hlt : k < s.size
    · have hb := byte_lt s[k]
      have hl := escs_len (s.data.toList.take k)
      have hl2 : (s.data.toList.take k).length ≤ k := List.length_take_le _ _
      by_cases h34 : (s[k].toNat : Int) = 34 ∨ (s[k].toNat : Int) = 92
      · have ht : txtI (s[k].toNat : Int) = true := by unfold txtI; simp; omega
        have R : Hid (34 :: escs (s.data.toList.take (k + 1)) = ((34 :: escs (s.data.toList.take k)) ++ [92]) ++ [s[k]]) := by
          unfold Hid; rw [take_snoc s k hlt, escs_snoc]; unfold esc; rw [if_pos h34]; simp
        have A : Hid (allT s (k + 1)) := allT_succ hall.out hlt ht
        clear ht
        rcases h34 with h34 | h92
        · have e1 : (34 : Int) ≤ s[k].toNat := by omega
          have e2 : (s[k].toNat : Int) ≤ 34 := by omega
          clear h34
          go_wp2_with (first
            | (at_builtin; refine app1 rfl (.tmp 24) (.tmp 25) rfl w _ _ rfl hown 92 rfl rfl (by simp; omega) ?_; intro v1 w1 hown1)
            | (at_builtin; refine app1 rfl (.tmp 27) (.tmp 29) rfl w _ _ rfl hown1 s[k] rfl rfl (by simp; omega) ?_; intro v2 w2 hown2))
          go_roundw
          case rel => exact ⟨k + 1, by omega, by go_num, A, by rw [R.out]; exact hown2⟩
          case measure => simp [intOf]; omega
        · have e1 : (92 : Int) ≤ s[k].toNat := by omega
          have e2 : (s[k].toNat : Int) ≤ 92 := by omega
          clear h92
          go_wp2_with (first
            | (at_builtin; refine app1 rfl (.tmp 24) (.tmp 25) rfl w _ _ rfl hown 92 rfl rfl (by simp; omega) ?_; intro v1 w1 hown1)
            | (at_builtin; refine app1 rfl (.tmp 27) (.tmp 29) rfl w _ _ rfl hown1 s[k] rfl rfl (by simp; omega) ?_; intro v2 w2 hown2))
          go_roundw
          case rel => exact ⟨k + 1, by omega, by go_num, A, by rw [R.out]; exact hown2⟩
          case measure => simp [intOf]; omega
      · have n1 : ((s[k].toNat : Int) == 34) = false := by simp; omega
        have n2 : ((s[k].toNat : Int) == 92) = false := by simp; omega
        cases ht : txtI (s[k].toNat : Int) with
        | true =>
          have R : Hid (34 :: escs (s.data.toList.take (k + 1)) = (34 :: escs (s.data.toList.take k)) ++ [s[k]]) := by
            unfold Hid; rw [take_snoc s k hlt, escs_snoc]; unfold esc; rw [if_neg h34]; simp
          have A : Hid (allT s (k + 1)) := allT_succ hall.out hlt ht
          clear h34
          go_wp2_with (first
            | (go_at_call 27; refine (textTok _ (by omega) (by omega) _).mono ?_; rintro e w' ⟨rfl, rfl⟩)
            | (at_builtin; refine app1 rfl (.tmp 27) (.tmp 29) rfl w _ _ rfl hown s[k] rfl rfl (by simp; omega) ?_; intro v2 w2 hown2))
          go_roundw
          case rel => exact ⟨k + 1, by omega, by go_num, A, by rw [R.out]; exact hown2⟩
          case measure => simp [intOf]; omega
        | false =>
          have F : Hid (quoteOf s.data.toList = ([], 11)) := quote_bad s k hlt ht
          clear h34
          go_wp2_with (go_at_call 27; refine (textTok _ (by omega) (by omega) _).mono ?_; rintro e w' ⟨rfl, rfl⟩)
          go_ret2
          rw [F.out]
          exact ⟨rfl, hown.2⟩
    · have F : Hid (quoteOf s.data.toList = (34 :: (escs s.data.toList ++ [34]), 0)) := quote_good s (fun j hj => hall.out j hj (by omega))
      have R : Hid (s.data.toList.take k = s.data.toList) := take_all s k (by omega)
      have hl := escs_len (s.data.toList.take k)
      have hl2 : (s.data.toList.take k).length ≤ k := List.length_take_le _ _
      go_wp2_with (at_builtin; refine app1 rfl (.tmp 32) (.tmp 33) rfl w _ _ rfl hown 34 rfl rfl (by simp; omega) ?_; intro v1 w1 hown1; have hcv := own_conv hown1)
      go_ret2
      rw [F.out]
      rw [R.out]
      exact ⟨rfl, hown1.2⟩
end Go.Proofs.YtegdbieieacalaaDoor
