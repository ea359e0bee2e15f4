/- The contract of Token. -/
import Derived.Test.YtbbaajlabpjnlaaDoorTk
namespace Go.Proofs.YtbbaajlabpjnlaaDoor
open Go.RowKit
def isTok (l : List UInt8) : Bool := !l.isEmpty && l.all (fun c => tokI (c.toNat : Int))
theorem isTok_bad (s : ByteArray) (k : Nat) (h : k < s.size) (hc : tokI (s[k].toNat : Int) = false) : isTok s.data.toList = false := by
  unfold isTok
  have : s.data.toList.all (fun c => tokI (c.toNat : Int)) = false := by
    rw [List.all_eq_false]; exact ⟨s.data.toList[k]'(by simpa using h), List.getElem_mem _, by rw [show s.data.toList[k]'(by simpa using h) = s[k] from rfl, hc]; simp⟩
  rw [this, Bool.and_false]
theorem isTok_good (s : ByteArray) (h0 : 0 < s.size) (h : ∀ j (hj : j < s.size), tokI (s[j].toNat : Int) = true) : isTok s.data.toList = true := by
  unfold isTok
  rw [Bool.and_eq_true]
  constructor
  · cases e : s.data.toList with
    | nil => have : s.data.toList.length = s.size := by simp
             rw [e] at this; simp at this; omega
    | cons c l => rfl
  · rw [List.all_eq_true]
    intro c hc
    obtain ⟨j, hj, rfl⟩ := List.getElem_of_mem hc
    exact h j (by simpa using hj)
theorem empty_of (s : ByteArray) (h : s.size = 0) : s = ⟨#[]⟩ := by
  apply ByteArray.ext
  exact Array.eq_empty_of_size_eq_zero h
theorem ne_empty (s : ByteArray) (h : 0 < s.size) : s.toList.isEmpty = false := by
  rw [Lib.toList_data]
  cases e : s.data.toList with
  | nil => have : s.data.toList.length = s.size := by simp
           rw [e] at this; simp at this; omega
  | cons _ _ => rfl
def allK (s : ByteArray) (k : Nat) : Prop := ∀ j (hj : j < s.size), j < k → tokI (s[j].toNat : Int) = true
theorem allK_succ {s : ByteArray} {k : Nat} (h : allK s k) (hk : k < s.size) (hc : tokI (s[k].toNat : Int) = true) : allK s (k + 1) := by
  intro j hj hjk
  by_cases e : j = k
  · subst e; exact hc
  · exact h j hj (by omega)
set_option maxHeartbeats 1000000 in
theorem tokenTok (s : ByteArray) (w : World) (hs : s.size ≤ 140737488351232) :
    Calls Tryd.prog 32 #[.string s] w fun e w' => e = .returned (.bool (isTok s.data.toList)) ∧ w' = w := by
  by_cases h0 : s.size = 0
  · obtain rfl := empty_of s h0
    clear h0 hs
    go_enter Tryd.func32, Tryd.ntmps32
    go_wp2
    go_rounds 1
    go_ret
    exact ⟨rfl, rfl⟩
  · have hp : 0 < s.size := by omega
    have hne := ne_empty s hp
    clear h0
    go_enter Tryd.func32, Tryd.ntmps32
    go_wp2
    go_loop [6] (fun i => ∃ k : Nat, k ≤ s.size ∧ i = .int .i64 k ∧ Hid (allK s k)) (fun i => s.size - (intOf i).toNat)
    case atStart => exact ⟨0, by omega, rfl, fun j _ hj => by omega⟩
    case round =>
      obtain ⟨k, hk, rfl, ha⟩ := hrel
      by_cases hlt : k < s.size
      · have hb := byte_lt s[k]
        cases ht : tokI (s[k].toNat : Int) with
        | true =>
          have A : Hid (allK s (k + 1)) := allK_succ ha.out hlt ht
          go_wp2_with (go_at_call 48; refine (tokByteTok _ (by omega) (by omega) _).mono ?_; rintro e w' ⟨rfl, rfl⟩)
          go_round
          case rel => exact ⟨k + 1, by omega, by go_num, A⟩
          case measure => simp [intOf]; omega
        | false =>
          have F : Hid (isTok s.data.toList = false) := isTok_bad s k hlt ht
          go_wp2_with (go_at_call 48; refine (tokByteTok _ (by omega) (by omega) _).mono ?_; rintro e w' ⟨rfl, rfl⟩)
          go_ret
          rw [F.out]
          exact ⟨rfl, rfl⟩
      · have F : Hid (isTok s.data.toList = true) := isTok_good s hp (fun j hj => ha.out j hj (by omega))
        go_wp2
        go_ret
        rw [F.out]
        exact ⟨rfl, rfl⟩
end Go.Proofs.YtbbaajlabpjnlaaDoor
