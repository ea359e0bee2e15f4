/- The contract of the document's digits. -/
import Derived.Test.YtikokjclhpgocabDoorDaJ
namespace Go.Proofs.YtikokjclhpgocabDoor
open Go.RowKit
/-- a blank at the first place counts as a nought -/
def fixS : List UInt8 → List UInt8
  | [] => []
  | c :: r => (if c = 32 then 48 else c) :: r
def refNum (l : List UInt8) : Int := if digs (fixS l) then numV (fixS l) else -1
def seg (s : ByteArray) (f e : Nat) : List UInt8 := (s.data.toList.drop f).take (e - f)
theorem fixS_len (l : List UInt8) : (fixS l).length = l.length := by cases l <;> simp [fixS]
theorem seg_lenD (s : ByteArray) (f e : Nat) (h : f ≤ e) (he : e ≤ s.size) : (seg s f e).length = e - f := by
  have : s.data.toList.length = s.size := by simp
  simp only [seg, List.length_take, List.length_drop]; omega
theorem seg_at (s : ByteArray) (f e k : Nat) (h : f ≤ k) (hk : k < e) (he : e ≤ s.size) : (seg s f e)[k - f]? = some s[k] := by
  unfold seg
  rw [List.getElem?_take_of_lt (by omega), List.getElem?_drop, show f + (k - f) = k by omega]
  have : k < s.data.toList.length := by have : s.data.toList.length = s.size := by simp
                                        omega
  rw [List.getElem?_eq_getElem this]
  rfl
theorem fix_at0 (l : List UInt8) {c : UInt8} (h : l[0]? = some c) : (fixS l)[0]? = some (if c = 32 then 48 else c) := by
  cases l with
  | nil => simp at h
  | cons a r => simp at h; subst h; rfl
theorem fix_at (l : List UInt8) {i : Nat} {c : UInt8} (hi : 0 < i) (h : l[i]? = some c) : (fixS l)[i]? = some c := by
  cases l with
  | nil => simp at h
  | cons a r =>
    obtain ⟨j, rfl⟩ : ∃ j, i = j + 1 := ⟨i - 1, by omega⟩
    simpa [fixS] using h
theorem take_more {l : List UInt8} {i : Nat} {c : UInt8} (h : l[i]? = some c) : l.take (i + 1) = l.take i ++ [c] := by
  rw [List.take_add_one, h]; rfl
theorem digs_bad2 {l : List UInt8} {i : Nat} {c : UInt8} (h : l[i]? = some c) (hc : isDig c = false) : digs l = false := by
  unfold digs
  rw [List.all_eq_false]
  exact ⟨c, List.mem_of_getElem? h, by rw [hc]; simp⟩
theorem numV_bd2 (l : List UInt8) (h : digs l = true) (hl : l.length ≤ 8) : 0 ≤ numV l ∧ numV l ≤ 100000000 := by
  have hz : (⟨l.toArray⟩ : ByteArray).size = l.length := by show l.toArray.size = _; simp
  have := numV_bd ⟨l.toArray⟩ l.length (by rw [toList_mk, List.take_length]; exact h) (by rw [hz]; omega)
  rw [toList_mk, List.take_length] at this
  have := pow_le8 hl
  omega
theorem refNum_in (l : List UInt8) (hl : l.length ≤ 8) : -1 ≤ refNum l ∧ refNum l ≤ 100000000 := by
  unfold refNum
  split
  · next h => have := numV_bd2 _ h (by rw [fixS_len]; exact hl); omega
  · omega
set_option maxHeartbeats 2000000 in
theorem digitsRef (s : ByteArray) (f e : Nat) (hfe : f ≤ e) (he : e ≤ s.size) (h8 : e ≤ f + 8) (hs : s.size ≤ 1048576) (w : World) :
    Calls Tryd.prog 48 #[.string s, .int .i64 f, .int .i64 e] w fun x w' => x = .returned (.int .i64 (refNum (seg s f e))) ∧ w' = w := by
  have hF : (fixS (seg s f e)).length = e - f := by rw [fixS_len, seg_lenD s f e hfe he]
  obtain ⟨F, hFF⟩ : ∃ F, F = fixS (seg s f e) := ⟨_, rfl⟩
  have HR : Hid (refNum (seg s f e) = if digs F then numV F else -1) := by unfold Hid refNum; rw [hFF]
  have HA : Hid (∀ k (h1 : f < k) (h2 : k < e), F[k - f]? = some (s[k]'(by omega))) := fun k h1 h2 => by rw [hFF]; exact fix_at _ (by omega) (seg_at s f e k (by omega) h2 he)
  have H0 : Hid (∀ (h2 : f < e), F[0]? = some (if (s[f]'(by omega)) = 32 then 48 else (s[f]'(by omega)))) := fun h2 => by
    rw [hFF]
    have := seg_at s f e f (Nat.le_refl _) h2 he
    rw [Nat.sub_self] at this
    exact fix_at0 _ this
  rw [← hFF] at hF
  generalize refNum (seg s f e) = R at HR ⊢
  clear hFF
  replace hF := hide hF
  go_enter Tryd.func48, Tryd.ntmps48
  go_wp2_with fail
  go_loop [7, 8, 9] (fun vv iv _ => ∃ (k : Nat) (n : Int), f ≤ k ∧ k ≤ e ∧ iv = .int .i64 k ∧ vv = .int .i64 n ∧ Hid (n = numV (F.take (k - f))) ∧ Hid (digs (F.take (k - f)) = true)) (fun _ iv _ => e - (intOf iv).toNat)
  case atStart => exact ⟨f, 0, Nat.le_refl _, hfe, rfl, rfl, by unfold Hid; rw [Nat.sub_self]; rfl, by unfold Hid; rw [Nat.sub_self]; rfl⟩
  case round =>
    obtain ⟨k, n, k0, k1, rfl, rfl, hn, hd⟩ := hrel
    have bn : 0 ≤ n ∧ n ≤ 100000000 := by
      have := numV_bd2 _ hd.out (by rw [List.length_take]; have := hF.out; omega)
      rw [← hn.out] at this
      exact this
    by_cases hlt : k < e
    · have hks : k < s.size := by omega
      have hb := byte_lt s[k]
      by_cases hf : k = f ∧ (s[k].toNat : Int) = 32
      · obtain ⟨rfl, h32⟩ := hf
        have q1 : ((s[k].toNat : Int) == 32) = true := by simpa using h32
        have e32 : s[k] = 32 := byte_eq h32
        have fa : F[0]? = some 48 := by have := H0.out hlt; rw [if_pos e32] at this; exact this
        have N : Hid (n * 10 = numV (F.take (k + 1 - k))) := by
          have hn' := hn.out
          rw [Nat.sub_self] at hn'
          unfold Hid
          rw [show k + 1 - k = 0 + 1 by omega, take_more fa, numV_snoc, ← hn']
          show n * 10 = n * 10 + (48 - 48)
          omega
        have D : Hid (digs (F.take (k + 1 - k)) = true) := by
          unfold Hid
          rw [show k + 1 - k = 0 + 1 by omega, take_more fa]; rfl
        clear h32 e32 hn hd
        go_wp2_with fail
        go_round
        case rel => exact ⟨k + 1, n * 10, by omega, by omega, by go_num, rfl, N, D⟩
        case measure => simp [intOf]; omega
      · have fa : F[k - f]? = some s[k] := by
          by_cases hkf : k = f
          · subst hkf
            have h32 : ¬ s[k] = 32 := fun e' => hf ⟨rfl, by rw [e']; rfl⟩
            have := H0.out hlt
            rw [if_neg h32] at this
            rw [Nat.sub_self]; exact this
          · exact HA.out k (by omega) hlt
        cases hc : isDig s[k] with
        | true =>
          obtain ⟨c0, c1⟩ := isDig_in hc
          have q1 : ((s[k].toNat : Int) == 32) = false := by simp; omega
          have N : Hid (n * 10 + (s[k].toNat : Int) - 48 = numV (F.take (k + 1 - f))) := by
            unfold Hid; rw [show k + 1 - f = (k - f) + 1 by omega, take_more fa, numV_snoc, ← hn.out]; omega
          have D : Hid (digs (F.take (k + 1 - f)) = true) := by
            unfold Hid; rw [show k + 1 - f = (k - f) + 1 by omega, take_more fa, digs_snoc, hd.out, hc]; rfl
          clear hc hn hd hf
          go_wp2_with fail
          go_round
          case rel => exact ⟨k + 1, n * 10 + (s[k].toNat : Int) - 48, by omega, by omega, by go_num, rfl, N, D⟩
          case measure => simp [intOf]; omega
        | false =>
          have Fb : Hid (R = -1) := by unfold Hid; rw [HR.out, digs_bad2 fa hc]; rfl
          have hc2 : ¬ (48 ≤ (s[k].toNat : Int) ∧ (s[k].toNat : Int) ≤ 57) := by simpa [isDig] using hc
          clear hn hd
          by_cases h32 : (s[k].toNat : Int) = 32
          · have hkf : ¬ k = f := fun e' => hf ⟨e', h32⟩
            have q1 : ((s[k].toNat : Int) == 32) = true := by simpa using h32
            have q2 : ((k : Int) == (f : Int)) = false := by simp; omega
            have q3 : (s[k].toNat : Int) < 48 := by omega
            clear hc hc2 hf h32
            go_wp2_with fail
            go_ret
            rw [Fb.out]
            exact ⟨rfl, rfl⟩
          · have q1 : ((s[k].toNat : Int) == 32) = false := by simpa using h32
            have q3 : (s[k].toNat : Int) < 48 ∨ (48 ≤ (s[k].toNat : Int) ∧ 57 < (s[k].toNat : Int)) := by omega
            clear hc hc2 hf h32
            rcases q3 with q3 | ⟨q3, q4⟩
            all_goals
              go_wp2_with fail
              go_ret
              rw [Fb.out]
              exact ⟨rfl, rfl⟩
    · obtain rfl : k = e := by omega
      have Fb : Hid (R = n) := by
        have h1 := hd.out
        have h2 := hn.out
        rw [← hF.out, List.take_length] at h1 h2
        unfold Hid; rw [HR.out, h1, if_pos rfl, h2]
      clear hn hd
      go_wp2_with fail
      go_ret
      rw [Fb.out]
      exact ⟨rfl, rfl⟩
end Go.Proofs.YtikokjclhpgocabDoor
