/- The contract of the document's digits. Plain lemmas on the answers of the document's Parse. The contract of the document's Parse at texts of 24 bytes. The contract of the document's Parse at texts of 29 bytes. -/
import Derived.Test.YtipcmbonhkelbabGreatDoorXf
import Derived.Test.YtipcmbonhkelbabGreatDoorXe
import Derived.Deep.QuietTactic
import Derived.BigQuiet
namespace Go.Proofs.YtipcmbonhkelbabGreatDoor
open Go.RowKit
/-- a blank at the first place counts as a nought -/
def fixS : List UInt8 → List UInt8
  | [] => []
  | c :: r => (if c = 32 then 48 else c) :: r
def refNum (l : List UInt8) : Int := if digs (fixS l) then numV (fixS l) else -1
def seg (s : ByteArray) (f e : Nat) : List UInt8 := (s.data.toList.drop f).take (e - f)
theorem fixS_len (l : List UInt8) : (fixS l).length = l.length := by cases l <;> simp [fixS]
theorem seg_lenD (s : ByteArray) (f e : Nat) (h : f ≤ e) (he : e ≤ s.size) : (seg s f e).length = e - f := by
  have : s.data.toList.length = s.size := by simp
  simp only [seg, List.length_take, List.length_drop]; omega
theorem seg_at (s : ByteArray) (f e k : Nat) (h : f ≤ k) (hk : k < e) (he : e ≤ s.size) : (seg s f e)[k - f]? = some s[k] := by
  unfold seg
  rw [List.getElem?_take_of_lt (by omega), List.getElem?_drop, show f + (k - f) = k by omega]
  have : k < s.data.toList.length := by have : s.data.toList.length = s.size := by simp
                                        omega
  rw [List.getElem?_eq_getElem this]
  rfl
theorem fix_at0 (l : List UInt8) {c : UInt8} (h : l[0]? = some c) : (fixS l)[0]? = some (if c = 32 then 48 else c) := by
  cases l with
  | nil => simp at h
  | cons a r => simp at h; subst h; rfl
theorem fix_at (l : List UInt8) {i : Nat} {c : UInt8} (hi : 0 < i) (h : l[i]? = some c) : (fixS l)[i]? = some c := by
  cases l with
  | nil => simp at h
  | cons a r =>
    obtain ⟨j, rfl⟩ : ∃ j, i = j + 1 := ⟨i - 1, by omega⟩
    simpa [fixS] using h
theorem take_more {l : List UInt8} {i : Nat} {c : UInt8} (h : l[i]? = some c) : l.take (i + 1) = l.take i ++ [c] := by
  rw [List.take_add_one, h]; rfl
theorem digs_bad2 {l : List UInt8} {i : Nat} {c : UInt8} (h : l[i]? = some c) (hc : isDig c = false) : digs l = false := by
  unfold digs
  rw [List.all_eq_false]
  exact ⟨c, List.mem_of_getElem? h, by rw [hc]; simp⟩
theorem numV_bd2 (l : List UInt8) (h : digs l = true) (hl : l.length ≤ 8) : 0 ≤ numV l ∧ numV l ≤ 100000000 := by
  have hz : (⟨l.toArray⟩ : ByteArray).size = l.length := by show l.toArray.size = _; simp
  have := numV_bd ⟨l.toArray⟩ l.length (by rw [toList_mk, List.take_length]; exact h) (by rw [hz]; omega)
  rw [toList_mk, List.take_length] at this
  have := pow_le8 hl
  omega
theorem refNum_in (l : List UInt8) (hl : l.length ≤ 8) : -1 ≤ refNum l ∧ refNum l ≤ 100000000 := by
  unfold refNum
  split
  · next h => have := numV_bd2 _ h (by rw [fixS_len]; exact hl); omega
  · omega
set_option maxHeartbeats 2000000 in
theorem digitsRef (s : ByteArray) (f e : Nat) (hfe : f ≤ e) (he : e ≤ s.size) (h8 : e ≤ f + 8) (hs : s.size ≤ 1048576) (w : World) :
    Calls Tryz.prog 69 #[.string s, .int .i64 f, .int .i64 e] w fun x w' => x = .returned (.int .i64 (refNum (seg s f e))) ∧ w' = w := by
  have hF : (fixS (seg s f e)).length = e - f := by rw [fixS_len, seg_lenD s f e hfe he]
  obtain ⟨F, hFF⟩ : ∃ F, F = fixS (seg s f e) := ⟨_, rfl⟩
  have HR : Hid (refNum (seg s f e) = if digs F then numV F else -1) := by unfold Hid refNum; rw [hFF]
  have HA : Hid (∀ k (h1 : f < k) (h2 : k < e), F[k - f]? = some (s[k]'(by omega))) := fun k h1 h2 => by rw [hFF]; exact fix_at _ (by omega) (seg_at s f e k (by omega) h2 he)
  have H0 : Hid (∀ (h2 : f < e), F[0]? = some (if (s[f]'(by omega)) = 32 then 48 else (s[f]'(by omega)))) := fun h2 => by
    rw [hFF]
    have := seg_at s f e f (Nat.le_refl _) h2 he
    rw [Nat.sub_self] at this
    exact fix_at0 _ this
  rw [← hFF] at hF
  generalize refNum (seg s f e) = R at HR ⊢
  clear hFF
  replace hF := hide hF
  go_enter Tryz.func69, Tryz.ntmps69
  go_wp2_with fail
  go_loop [7, 8, 9] (fun vv iv _ => ∃ (k : Nat) (n : Int), f ≤ k ∧ k ≤ e ∧ iv = .int .i64 k ∧ vv = .int .i64 n ∧ Hid (n = numV (F.take (k - f))) ∧ Hid (digs (F.take (k - f)) = true)) (fun _ iv _ => e - (intOf iv).toNat)
  case atStart => exact ⟨f, 0, Nat.le_refl _, hfe, rfl, rfl, by unfold Hid; rw [Nat.sub_self]; rfl, by unfold Hid; rw [Nat.sub_self]; rfl⟩
  case round =>
    obtain ⟨k, n, k0, k1, rfl, rfl, hn, hd⟩ := hrel
    have bn : 0 ≤ n ∧ n ≤ 100000000 := by
      have := numV_bd2 _ hd.out (by rw [List.length_take]; have := hF.out; omega)
      rw [← hn.out] at this
      exact this
    by_cases hlt : k < e
    · have hks : k < s.size := by omega
      have hb := byte_lt s[k]
      by_cases hf : k = f ∧ (s[k].toNat : Int) = 32
      · obtain ⟨rfl, h32⟩ := hf
        have q1 : ((s[k].toNat : Int) == 32) = true := by simpa using h32
        have e32 : s[k] = 32 := byte_eq h32
        have fa : F[0]? = some 48 := by have := H0.out hlt; rw [if_pos e32] at this; exact this
        have N : Hid (n * 10 = numV (F.take (k + 1 - k))) := by
          have hn' := hn.out
          rw [Nat.sub_self] at hn'
          unfold Hid
          rw [show k + 1 - k = 0 + 1 by omega, take_more fa, numV_snoc, ← hn']
          show n * 10 = n * 10 + (48 - 48)
          omega
        have D : Hid (digs (F.take (k + 1 - k)) = true) := by
          unfold Hid
          rw [show k + 1 - k = 0 + 1 by omega, take_more fa]; rfl
        clear h32 e32 hn hd
        go_wp2_with fail
        go_round
        case rel => exact ⟨k + 1, n * 10, by omega, by omega, by go_num, rfl, N, D⟩
        case measure => simp [intOf]; omega
      · have fa : F[k - f]? = some s[k] := by
          by_cases hkf : k = f
          · subst hkf
            have h32 : ¬ s[k] = 32 := fun e' => hf ⟨rfl, by rw [e']; rfl⟩
            have := H0.out hlt
            rw [if_neg h32] at this
            rw [Nat.sub_self]; exact this
          · exact HA.out k (by omega) hlt
        cases hc : isDig s[k] with
        | true =>
          obtain ⟨c0, c1⟩ := isDig_in hc
          have q1 : ((s[k].toNat : Int) == 32) = false := by simp; omega
          have N : Hid (n * 10 + (s[k].toNat : Int) - 48 = numV (F.take (k + 1 - f))) := by
            unfold Hid; rw [show k + 1 - f = (k - f) + 1 by omega, take_more fa, numV_snoc, ← hn.out]; omega
          have D : Hid (digs (F.take (k + 1 - f)) = true) := by
            unfold Hid; rw [show k + 1 - f = (k - f) + 1 by omega, take_more fa, digs_snoc, hd.out, hc]; rfl
          clear hc hn hd hf
          go_wp2_with fail
          go_round
          case rel => exact ⟨k + 1, n * 10 + (s[k].toNat : Int) - 48, by omega, by omega, by go_num, rfl, N, D⟩
          case measure => simp [intOf]; omega
        | false =>
          have Fb : Hid (R = -1) := by unfold Hid; rw [HR.out, digs_bad2 fa hc]; rfl
          have hc2 : ¬ (48 ≤ (s[k].toNat : Int) ∧ (s[k].toNat : Int) ≤ 57) := by simpa [isDig] using hc
          clear hn hd
          by_cases h32 : (s[k].toNat : Int) = 32
          · have hkf : ¬ k = f := fun e' => hf ⟨e', h32⟩
            have q1 : ((s[k].toNat : Int) == 32) = true := by simpa using h32
            have q2 : ((k : Int) == (f : Int)) = false := by simp; omega
            have q3 : (s[k].toNat : Int) < 48 := by omega
            clear hc hc2 hf h32
            go_wp2_with fail
            go_ret
            rw [Fb.out]
            exact ⟨rfl, rfl⟩
          · have q1 : ((s[k].toNat : Int) == 32) = false := by simpa using h32
            have q3 : (s[k].toNat : Int) < 48 ∨ (48 ≤ (s[k].toNat : Int) ∧ 57 < (s[k].toNat : Int)) := by omega
            clear hc hc2 hf h32
            rcases q3 with q3 | ⟨q3, q4⟩
            all_goals
              go_wp2_with fail
              go_ret
              rw [Fb.out]
              exact ⟨rfl, rfl⟩
    · obtain rfl : k = e := by omega
      have Fb : Hid (R = n) := by
        have h1 := hd.out
        have h2 := hn.out
        rw [← hF.out, List.take_length] at h1 h2
        unfold Hid; rw [HR.out, h1, if_pos rfl, h2]
      clear hn hd
      go_wp2_with fail
      go_ret
      rw [Fb.out]
      exact ⟨rfl, rfl⟩
end Go.Proofs.YtipcmbonhkelbabGreatDoor
namespace Go.Proofs.YtipcmbonhkelbabGreatDoor
open Go.RowKit
/-- what the document's Parse answers to a text whose parts read so -/
def Out (s : ByteArray) (Y j D H I S v e : Int) : Prop := ((¬ Valid Y j D ∨ (Valid Y j D ∧ H < 0) ∨ (Valid Y j D ∧ 0 ≤ H ∧ 23 < H) ∨ (Valid Y j D ∧ 0 ≤ H ∧ H ≤ 23 ∧ I < 0) ∨ (Valid Y j D ∧ 0 ≤ H ∧ H ≤ 23 ∧ 0 ≤ I ∧ 59 < I) ∨ (Valid Y j D ∧ 0 ≤ H ∧ H ≤ 23 ∧ 0 ≤ I ∧ I ≤ 59 ∧ S < 0) ∨ (Valid Y j D ∧ 0 ≤ H ∧ H ≤ 23 ∧ 0 ≤ I ∧ I ≤ 59 ∧ 0 ≤ S ∧ 59 < S)) ∧ v = 0 ∧ e = 20) ∨
      ((Valid Y j D ∧ 0 ≤ H ∧ H ≤ 23 ∧ 0 ≤ I ∧ I ≤ 59 ∧ 0 ≤ S ∧ S ≤ 59) ∧
        ((s = ⟨(showL (dayOf Y j D) (H * 3600 + I * 60 + S) Y j D).toArray⟩ ∧ v = dayOf Y j D * 86400 + H * 3600 + I * 60 + S ∧ e = 0) ∨
         (¬ s = ⟨(showL (dayOf Y j D) (H * 3600 + I * 60 + S) Y j D).toArray⟩ ∧ s = ⟨(dash2L (dayOf Y j D) (H * 3600 + I * 60 + S) Y j D).toArray⟩ ∧ v = dayOf Y j D * 86400 + H * 3600 + I * 60 + S ∧ e = 0) ∨
         (¬ s = ⟨(showL (dayOf Y j D) (H * 3600 + I * 60 + S) Y j D).toArray⟩ ∧ ¬ s = ⟨(dash2L (dayOf Y j D) (H * 3600 + I * 60 + S) Y j D).toArray⟩ ∧ s = ⟨(blankL (dayOf Y j D) (H * 3600 + I * 60 + S) Y j D).toArray⟩ ∧ v = dayOf Y j D * 86400 + H * 3600 + I * 60 + S ∧ e = 0) ∨
         (¬ s = ⟨(showL (dayOf Y j D) (H * 3600 + I * 60 + S) Y j D).toArray⟩ ∧ ¬ s = ⟨(dash2L (dayOf Y j D) (H * 3600 + I * 60 + S) Y j D).toArray⟩ ∧ ¬ s = ⟨(blankL (dayOf Y j D) (H * 3600 + I * 60 + S) Y j D).toArray⟩ ∧ v = 0 ∧ e = 20)))
theorem out_ex (s : ByteArray) (hs : 0 < s.size) (Y j D H I S : Int) : ∃ v e, Out s Y j D H I S v e ∧ ((v = 0 ∧ e = 20) ∨ (e = 0 ∧ IsForm s.data.toList v)) := by
  by_cases hv : Valid Y j D
  · by_cases h1 : 0 ≤ H
    · by_cases h2 : H ≤ 23
      · by_cases h3 : 0 ≤ I
        · by_cases h4 : I ≤ 59
          · by_cases h5 : 0 ≤ S
            · by_cases h6 : S ≤ 59
              · have hr := dayOf_range hv
                have key : s = ⟨(showL (dayOf Y j D) (H * 3600 + I * 60 + S) Y j D).toArray⟩ ∨ s = ⟨(dash2L (dayOf Y j D) (H * 3600 + I * 60 + S) Y j D).toArray⟩ ∨ s = ⟨(blankL (dayOf Y j D) (H * 3600 + I * 60 + S) Y j D).toArray⟩ → IsForm s.data.toList (dayOf Y j D * 86400 + H * 3600 + I * 60 + S) := by
                  intro hf
                  refine ⟨by omega, by omega, Y, j, D, hv, by omega, ?_⟩
                  rw [show (dayOf Y j D * 86400 + H * 3600 + I * 60 + S) / 86400 = dayOf Y j D by omega, show (dayOf Y j D * 86400 + H * 3600 + I * 60 + S) % 86400 = H * 3600 + I * 60 + S by omega]
                  rcases hf with h | h | h
                  · exact .inl (by rw [h])
                  · by_cases hy : Y < 2070
                    · refine .inr (.inl ⟨hy, ?_⟩)
                      rw [h]
                      show dash2L _ _ _ _ _ = _
                      unfold dash2L
                      rw [if_pos hy]
                    · exfalso
                      unfold dash2L at h
                      rw [if_neg hy] at h
                      rw [h] at hs
                      exact absurd hs (by decide)
                  · exact .inr (.inr (by rw [h]))
                by_cases a : s = ⟨(showL (dayOf Y j D) (H * 3600 + I * 60 + S) Y j D).toArray⟩
                · exact ⟨_, _, .inr ⟨⟨hv, h1, h2, h3, h4, h5, h6⟩, .inl ⟨a, rfl, rfl⟩⟩, .inr ⟨rfl, key (.inl a)⟩⟩
                · by_cases b : s = ⟨(dash2L (dayOf Y j D) (H * 3600 + I * 60 + S) Y j D).toArray⟩
                  · exact ⟨_, _, .inr ⟨⟨hv, h1, h2, h3, h4, h5, h6⟩, .inr (.inl ⟨a, b, rfl, rfl⟩)⟩, .inr ⟨rfl, key (.inr (.inl b))⟩⟩
                  · by_cases c : s = ⟨(blankL (dayOf Y j D) (H * 3600 + I * 60 + S) Y j D).toArray⟩
                    · exact ⟨_, _, .inr ⟨⟨hv, h1, h2, h3, h4, h5, h6⟩, .inr (.inr (.inl ⟨a, b, c, rfl, rfl⟩))⟩, .inr ⟨rfl, key (.inr (.inr c))⟩⟩
                    · exact ⟨0, 20, .inr ⟨⟨hv, h1, h2, h3, h4, h5, h6⟩, .inr (.inr (.inr ⟨a, b, c, rfl, rfl⟩))⟩, .inl ⟨rfl, rfl⟩⟩
              · exact ⟨0, 20, .inl ⟨.inr (.inr (.inr (.inr (.inr (.inr ⟨hv, h1, h2, h3, h4, h5, by omega⟩))))), rfl, rfl⟩, .inl ⟨rfl, rfl⟩⟩
            · exact ⟨0, 20, .inl ⟨.inr (.inr (.inr (.inr (.inr (.inl ⟨hv, h1, h2, h3, h4, by omega⟩))))), rfl, rfl⟩, .inl ⟨rfl, rfl⟩⟩
          · exact ⟨0, 20, .inl ⟨.inr (.inr (.inr (.inr (.inl ⟨hv, h1, h2, h3, by omega⟩)))), rfl, rfl⟩, .inl ⟨rfl, rfl⟩⟩
        · exact ⟨0, 20, .inl ⟨.inr (.inr (.inr (.inl ⟨hv, h1, h2, by omega⟩))), rfl, rfl⟩, .inl ⟨rfl, rfl⟩⟩
      · exact ⟨0, 20, .inl ⟨.inr (.inr (.inl ⟨hv, h1, by omega⟩)), rfl, rfl⟩, .inl ⟨rfl, rfl⟩⟩
    · exact ⟨0, 20, .inl ⟨.inr (.inl ⟨hv, by omega⟩), rfl, rfl⟩, .inl ⟨rfl, rfl⟩⟩
  · exact ⟨0, 20, .inl ⟨.inl hv, rfl, rfl⟩, .inl ⟨rfl, rfl⟩⟩
theorem out_of (s : ByteArray) (t y m d : Int) (hv : Valid y m d) (hd : dayOf y m d = t / 86400)
    (hf : s = ⟨(showL (t / 86400) (t % 86400) y m d).toArray⟩ ∨ s = ⟨(dash2L (t / 86400) (t % 86400) y m d).toArray⟩ ∨ s = ⟨(blankL (t / 86400) (t % 86400) y m d).toArray⟩) :
    Out s y m d (t % 86400 / 3600) (t % 86400 / 60 % 60) (t % 86400 % 60) t 0 := by
  have er : t % 86400 / 3600 * 3600 + t % 86400 / 60 % 60 * 60 + t % 86400 % 60 = t % 86400 := by omega
  have g : Valid y m d ∧ 0 ≤ t % 86400 / 3600 ∧ t % 86400 / 3600 ≤ 23 ∧ 0 ≤ t % 86400 / 60 % 60 ∧ t % 86400 / 60 % 60 ≤ 59 ∧ 0 ≤ t % 86400 % 60 ∧ t % 86400 % 60 ≤ 59 := ⟨hv, by omega, by omega, by omega, by omega, by omega, by omega⟩
  have ev : t = dayOf y m d * 86400 + t % 86400 / 3600 * 3600 + t % 86400 / 60 % 60 * 60 + t % 86400 % 60 := by rw [hd]; omega
  unfold Out
  rw [er, ← ev, hd]
  refine .inr ⟨g, ?_⟩
  by_cases a : s = ⟨(showL (t / 86400) (t % 86400) y m d).toArray⟩
  · exact .inl ⟨a, rfl, rfl⟩
  · by_cases b : s = ⟨(dash2L (t / 86400) (t % 86400) y m d).toArray⟩
    · exact .inr (.inl ⟨a, b, rfl, rfl⟩)
    · rcases hf with h | h | h
      · exact absurd h a
      · exact absurd h b
      · exact .inr (.inr (.inl ⟨a, b, h, rfl, rfl⟩))
theorem moL_ne {i m : Int} (i0 : 1 ≤ i) (i1 : i ≤ 12) (m0 : 1 ≤ m) (m1 : m ≤ 12) (h : ¬ i = m) : ¬ (⟨(moL m).toArray⟩ : ByteArray) = ⟨(moL i).toArray⟩ := by
  rw [moB_of m0, moB_of i0]
  rcases Int.lt_or_gt_of_ne h with q | q
  · exact fun e => moB_ne (j := m.toNat - 1) (k := i.toNat - 1) (by omega) (by omega) e.symm
  · exact fun e => moB_ne (j := i.toNat - 1) (k := m.toNat - 1) (by omega) (by omega) e
theorem month_ref (x : ByteArray) : ∃ j : Int, 0 ≤ j ∧ j ≤ 12 ∧ (1 ≤ j → x = ⟨(moL j).toArray⟩) ∧ (∀ i : Int, 1 ≤ i → i ≤ 12 → ¬ i = j → ¬ x = ⟨(moL i).toArray⟩) := by
  obtain ⟨j, hj, h1, h2⟩ := first_mo x
  by_cases hl : j < 12
  · have hx : x = ⟨(moL ((j : Int) + 1)).toArray⟩ := by rw [moB_of (by omega), show ((j : Int) + 1).toNat - 1 = j by omega, h2 hl]
    refine ⟨(j : Int) + 1, by omega, by omega, fun _ => hx, fun i i0 i1 hi => ?_⟩
    rw [hx]
    exact moL_ne i0 i1 (by omega) (by omega) hi
  · refine ⟨0, by omega, by omega, fun h => by omega, fun i i0 i1 _ e => ?_⟩
    exact h1 (i.toNat - 1) (by omega) (by rw [← moB_of i0]; exact e.symm)
theorem ref_digs {l : List UInt8} (h : digs l = true) : refNum l = numV l := by
  have hf : fixS l = l := by
    cases l with
    | nil => rfl
    | cons c r =>
      have hc : isDig c = true := by simp [digs] at h; exact h.1
      have := isDig_in hc
      have hn : ¬ c = 32 := fun e => by rw [e] at this; exact absurd this.1 (by decide)
      simp [fixS, hn]
  unfold refNum
  rw [hf, h, if_pos rfl]
theorem ref_D2 {v : Int} (h0 : 0 ≤ v) (h1 : v < 100) : refNum (D2 v) = v := by
  obtain ⟨_, h2, h3⟩ := num_D2 h0 h1
  have hd : digs (D2 v) = true := h3.symm
  rw [ref_digs hd, ← numB_true hd]
  exact h2.symm
theorem ref_D4 {v : Int} (h0 : 0 ≤ v) (h1 : v < 10000) : refNum (D4 v) = v := by
  obtain ⟨_, h2, h3⟩ := num_D4 h0 h1
  have hd : digs (D4 v) = true := h3.symm
  rw [ref_digs hd, ← numB_true hd]
  exact h2.symm
theorem ref_pad {d : Int} (d0 : 1 ≤ d) (d1 : d ≤ 31) : refNum (padL d) = d := by
  unfold padL
  by_cases h : d < 10
  · rw [if_pos h]
    have e : fixS [32, dg d] = D2 d := by
      have : D2 d = [48, dg d] := by unfold D2; rw [show d / 10 = 0 by omega, show d % 10 = d by omega]; rfl
      rw [this]; rfl
    have hd : digs (D2 d) = true := (num_D2 (v := d) (by omega) (by omega)).2.2.symm
    have h2 := (num_D2 (v := d) (by omega) (by omega)).2.1
    unfold refNum
    rw [e, hd, if_pos rfl, ← numB_true hd]
    exact h2.symm
  · rw [if_neg h]
    exact ref_D2 (by omega) (by omega)
/-- what a call of the document's Parse answers -/
def RefAns (s : ByteArray) (v e : Int) : Prop := ∀ w : World, Calls Tryz.prog 50 #[.string s] w fun x w' => x = .returned (.tuple #[.int .i64 v, .int .i64 e]) ∧ Below w.heap.size w w'
set_option maxRecDepth 20000 in
set_option maxHeartbeats 1000000 in
theorem refOther (s : ByteArray) (h1 : ¬ s.size = 29) (h2 : ¬ s.size = 24) (h3 : s.size < 30 ∨ 33 < s.size) : RefAns s 0 20 := by
  intro w
  have k1 : ((s.size : Int) == 29) = false := by simp; omega
  have k2 : ((s.size : Int) == 24) = false := by simp; omega
  rcases h3 with h3 | h3
  · have k3 : (s.size : Int) < 30 := by omega
    clear h1 h2 h3
    go_enter Tryz.func50, Tryz.ntmps50
    go_wp2_with fail
    go_ret2
    exact ⟨rfl, Below.refl _ _⟩
  · have k3 : (30 : Int) ≤ s.size := by omega
    have k4 : (33 : Int) < s.size := by omega
    clear h1 h2 h3
    go_enter Tryz.func50, Tryz.ntmps50
    go_wp2_with fail
    go_ret2
    exact ⟨rfl, Below.refl _ _⟩
theorem seg_lit (l : List UInt8) (f e : Nat) (r : List UInt8) (h : (l.drop f).take (e - f) = r) : seg ⟨l.toArray⟩ f e = r := h
end Go.Proofs.YtipcmbonhkelbabGreatDoor
namespace Go.Proofs.YtipcmbonhkelbabGreatDoor
open Go.RowKit
set_option maxRecDepth 20000 in
set_option maxHeartbeats 2000000 in
theorem refP24 (s : ByteArray) (hs : s.size = 24) (D Yr Y H I S j : Int) (hD : refNum (seg s 8 10) = D) (hY : refNum (seg s 20 24) = Yr) (hH : refNum (seg s 11 13) = H) (hI : refNum (seg s 14 16) = I) (hS : refNum (seg s 17 19) = S)
    (hYY : Y = Yr) (j0 : 0 ≤ j) (j1 : j ≤ 12)
    (he : 1 ≤ j → s.extract 4 7 = ⟨(moL j).toArray⟩) (hne : ∀ i : Int, 1 ≤ i → i ≤ 12 → ¬ i = j → ¬ s.extract 4 7 = ⟨(moL i).toArray⟩) (v e : Int)
    (hq : ((¬ Valid Y j D ∨ (Valid Y j D ∧ H < 0) ∨ (Valid Y j D ∧ 0 ≤ H ∧ 23 < H) ∨ (Valid Y j D ∧ 0 ≤ H ∧ H ≤ 23 ∧ I < 0) ∨ (Valid Y j D ∧ 0 ≤ H ∧ H ≤ 23 ∧ 0 ≤ I ∧ 59 < I) ∨ (Valid Y j D ∧ 0 ≤ H ∧ H ≤ 23 ∧ 0 ≤ I ∧ I ≤ 59 ∧ S < 0) ∨ (Valid Y j D ∧ 0 ≤ H ∧ H ≤ 23 ∧ 0 ≤ I ∧ I ≤ 59 ∧ 0 ≤ S ∧ 59 < S)) ∧ v = 0 ∧ e = 20) ∨
      ((Valid Y j D ∧ 0 ≤ H ∧ H ≤ 23 ∧ 0 ≤ I ∧ I ≤ 59 ∧ 0 ≤ S ∧ S ≤ 59) ∧
        ((s = ⟨(showL (dayOf Y j D) (H * 3600 + I * 60 + S) Y j D).toArray⟩ ∧ v = dayOf Y j D * 86400 + H * 3600 + I * 60 + S ∧ e = 0) ∨
         (¬ s = ⟨(showL (dayOf Y j D) (H * 3600 + I * 60 + S) Y j D).toArray⟩ ∧ s = ⟨(dash2L (dayOf Y j D) (H * 3600 + I * 60 + S) Y j D).toArray⟩ ∧ v = dayOf Y j D * 86400 + H * 3600 + I * 60 + S ∧ e = 0) ∨
         (¬ s = ⟨(showL (dayOf Y j D) (H * 3600 + I * 60 + S) Y j D).toArray⟩ ∧ ¬ s = ⟨(dash2L (dayOf Y j D) (H * 3600 + I * 60 + S) Y j D).toArray⟩ ∧ s = ⟨(blankL (dayOf Y j D) (H * 3600 + I * 60 + S) Y j D).toArray⟩ ∧ v = dayOf Y j D * 86400 + H * 3600 + I * 60 + S ∧ e = 0) ∨
         (¬ s = ⟨(showL (dayOf Y j D) (H * 3600 + I * 60 + S) Y j D).toArray⟩ ∧ ¬ s = ⟨(dash2L (dayOf Y j D) (H * 3600 + I * 60 + S) Y j D).toArray⟩ ∧ ¬ s = ⟨(blankL (dayOf Y j D) (H * 3600 + I * 60 + S) Y j D).toArray⟩ ∧ v = 0 ∧ e = 20)))) (w : World) :
    Calls Tryz.prog 50 #[.string s] w fun x w' => x = .returned (.tuple #[.int .i64 v, .int .i64 e]) ∧ Below w.heap.size w w' := by
  have bD : -1 ≤ D ∧ D ≤ 100000000 := by rw [← hD]; exact refNum_in _ (by rw [seg_lenD s _ _ (by omega) (by omega)]; omega)
  have bY : -1 ≤ Yr ∧ Yr ≤ 100000000 := by rw [← hY]; exact refNum_in _ (by rw [seg_lenD s _ _ (by omega) (by omega)]; omega)
  have bH : -1 ≤ H ∧ H ≤ 100000000 := by rw [← hH]; exact refNum_in _ (by rw [seg_lenD s _ _ (by omega) (by omega)]; omega)
  have bI : -1 ≤ I ∧ I ≤ 100000000 := by rw [← hI]; exact refNum_in _ (by rw [seg_lenD s _ _ (by omega) (by omega)]; omega)
  have bS : -1 ≤ S ∧ S ≤ 100000000 := by rw [← hS]; exact refNum_in _ (by rw [seg_lenD s _ _ (by omega) (by omega)]; omega)
  have cD := hide (digitsRef s 8 10 (by omega) (by omega) (by omega) (by omega))
  have cY := hide (digitsRef s 20 24 (by omega) (by omega) (by omega) (by omega))
  have cH := hide (digitsRef s 11 13 (by omega) (by omega) (by omega) (by omega))
  have cI := hide (digitsRef s 14 16 (by omega) (by omega) (by omega) (by omega))
  have cS := hide (digitsRef s 17 19 (by omega) (by omega) (by omega) (by omega))
  rw [hD] at cD
  rw [hY] at cY
  rw [hH] at cH
  rw [hI] at cI
  rw [hS] at cS
  clear hD hY hH hI hS
  obtain ⟨x, hx⟩ : ∃ x, s.extract 4 7 = x := ⟨_, rfl⟩
  rw [hx] at he
  have hne2 : ∀ i : Int, 1 ≤ i → i ≤ 12 → ¬ i = j → ¬ x = ⟨(moL i).toArray⟩ := by rw [← hx]; exact hne
  have zx : x.size = 3 := by rw [← hx, ext_size _ _ _ (by omega)]
  clear hne
  replace he := hide he
  replace hne2 := hide hne2
  replace hq := hide hq
  obtain ⟨V, E, hV, bV⟩ := dayV_one Y j D
  have cN := hide (fun w => dayRefV hV w)
  have HV := hide hV
  clear hV
  subst hYY
  go_enter Tryz.func50, Tryz.ntmps50
  go_wp2_with fail
  refine (cD.out _).mono ?_
  rintro x1 w1 ⟨rfl, rfl⟩
  go_wp2_with fail
  refine (cY.out _).mono ?_
  rintro x1 w1 ⟨rfl, rfl⟩
  go_wp2_with fail
  go_loopw [9, 10] (fun mv iv wr => ∃ (k : Nat) (m0 : Int), 1 ≤ k ∧ k ≤ 13 ∧ iv = .int .i64 k ∧ mv = .int .i64 m0 ∧ Hid (m0 = if j < (k : Int) then j else 0) ∧ ∃ q, Hid (wr = w1.drewN q)) (fun _ iv _ => 13 - (intOf iv).toNat)
  case atStart => exact ⟨1, 0, by omega, by omega, rfl, rfl, by unfold Hid; split <;> omega, 0, rfl⟩
  case round =>
    obtain ⟨k, m0, k0, k1, rfl, rfl, hm, q, hw⟩ := hrel
    by_cases h12 : k ≤ 12
    · have cM := hide (fun W => monthRef (k : Int) (by omega) (by omega) W)
      have h12' : (k : Int) ≤ 12 := by omega
      by_cases hkj : (k : Int) = j
      · have hxe := he.out (by omega)
        rw [← hkj] at hxe
        have M1 : Hid ((k : Int) = if j < ((k + 1 : Nat) : Int) then j else 0) := by unfold Hid; rw [if_pos (by omega)]; exact hkj
        replace hkj := hide hkj
        generalize (⟨(moL (k : Int)).toArray⟩ : ByteArray) = z at cM hxe
        subst hxe
        go_wp2_with fail
        go_quiet (first | (go_at_call 70; exact Calls.quiet_of_same (cM.out _)))
        go_wp2_with fail
        go_roundw
        case rel => exact ⟨k + 1, k, by omega, by omega, by go_num, rfl, M1, q + nq, by unfold Hid; rw [hw.out, World.drewN_drewN]⟩
        case measure => simp [intOf]; omega
      · have hxn := ne_list (hne2.out (k : Int) (by omega) (by omega) hkj)
        have M1 : Hid (m0 = if j < ((k + 1 : Nat) : Int) then j else 0) := by
          unfold Hid; rw [hm.out]
          by_cases hj : j < (k : Int)
          · rw [if_pos hj, if_pos (by omega)]
          · rw [if_neg hj, if_neg (by omega)]
        replace hkj := hide hkj
        generalize (⟨(moL (k : Int)).toArray⟩ : ByteArray) = z at cM hxn
        go_wp2_with fail
        go_quiet (first | (go_at_call 70; exact Calls.quiet_of_same (cM.out _)))
        go_wp2_with fail
        go_roundw
        case rel => exact ⟨k + 1, m0, by omega, by omega, by go_num, rfl, M1, q + nq, by unfold Hid; rw [hw.out, World.drewN_drewN]⟩
        case measure => simp [intOf]; omega
    · have h13 : ¬ (k : Int) ≤ 12 := by omega
      have B0 : Hid (Below w1.heap.size w1 wr) := by unfold Hid; rw [hw.out]; exact below_drawn2 (Below.refl _ _) _
      have m0j : m0 = j := by rw [hm.out, if_pos (by omega)]
      subst m0j
      clear hm hw he hne2
      go_wp2_with fail
      refine (cH.out _).mono ?_
      rintro x1 w2 ⟨rfl, rfl⟩
      go_wp2_with fail
      refine (cI.out _).mono ?_
      rintro x1 w2 ⟨rfl, rfl⟩
      go_wp2_with fail
      refine (cS.out _).mono ?_
      rintro x1 w2 ⟨rfl, rfl⟩
      go_wp2_with fail
      refine (cN.out _).mono ?_
      rintro x1 w3 ⟨rfl, b3⟩
      have B3 : Hid (Below w1.heap.size w1 w3) := B0.out.trans (b3.mono B0.out.size)
      clear b3 B0 cH cI cS cN cD cY
      rcases hq.out with ⟨hbad, hv0, he0⟩ | ⟨⟨hv, g1, g2, g3, g4, g5, g6⟩, hform⟩
      · replace hv0 := hide hv0
        replace he0 := hide he0
        clear hq
        rcases hbad with h | ⟨hv, h1⟩ | ⟨hv, h1, h2⟩ | ⟨hv, h1, h2, h3⟩ | ⟨hv, h1, h2, h3, h4⟩ | ⟨hv, h1, h2, h3, h4, h5⟩ | ⟨hv, h1, h2, h3, h4, h5, h6⟩
        · obtain ⟨rfl, rfl⟩ : V = 0 ∧ E = 20 := by
            rcases HV.out with ⟨a, _⟩ | ⟨_, a, b⟩
            · exact absurd a h
            · exact ⟨a, b⟩
          clear h HV
          go_wp2_with fail
          go_ret2
          rw [hv0.out, he0.out]
          exact ⟨rfl, B3.out⟩
        · obtain rfl : E = 0 := by
            rcases HV.out with ⟨_, _, a⟩ | ⟨a, _⟩
            · exact a
            · exact absurd hv a
          clear hv HV
          go_wp2_with fail
          go_ret2
          rw [hv0.out, he0.out]
          exact ⟨rfl, B3.out⟩
        · obtain rfl : E = 0 := by
            rcases HV.out with ⟨_, _, a⟩ | ⟨a, _⟩
            · exact a
            · exact absurd hv a
          clear hv HV
          go_wp2_with fail
          go_ret2
          rw [hv0.out, he0.out]
          exact ⟨rfl, B3.out⟩
        · obtain rfl : E = 0 := by
            rcases HV.out with ⟨_, _, a⟩ | ⟨a, _⟩
            · exact a
            · exact absurd hv a
          clear hv HV
          go_wp2_with fail
          go_ret2
          rw [hv0.out, he0.out]
          exact ⟨rfl, B3.out⟩
        · obtain rfl : E = 0 := by
            rcases HV.out with ⟨_, _, a⟩ | ⟨a, _⟩
            · exact a
            · exact absurd hv a
          clear hv HV
          go_wp2_with fail
          go_ret2
          rw [hv0.out, he0.out]
          exact ⟨rfl, B3.out⟩
        · obtain rfl : E = 0 := by
            rcases HV.out with ⟨_, _, a⟩ | ⟨a, _⟩
            · exact a
            · exact absurd hv a
          clear hv HV
          go_wp2_with fail
          go_ret2
          rw [hv0.out, he0.out]
          exact ⟨rfl, B3.out⟩
        · obtain rfl : E = 0 := by
            rcases HV.out with ⟨_, _, a⟩ | ⟨a, _⟩
            · exact a
            · exact absurd hv a
          clear hv HV
          go_wp2_with fail
          go_ret2
          rw [hv0.out, he0.out]
          exact ⟨rfl, B3.out⟩
      · obtain ⟨hV1, rfl⟩ : V = dayOf Y m0 D ∧ E = 0 := by
          rcases HV.out with ⟨_, a, b⟩ | ⟨a, _⟩
          · exact ⟨a, b⟩
          · exact absurd hv a
        have hr := dayOf_range hv
        rw [← hV1] at hform hr
        have cF := hide (fun W => formsRef (V * 86400 + H * 3600 + I * 60 + S) Y m0 D (by omega) (by omega) hv (by rw [← hV1]; omega) W)
        rw [show (V * 86400 + H * 3600 + I * 60 + S) / 86400 = V by omega, show (V * 86400 + H * 3600 + I * 60 + S) % 86400 = H * 3600 + I * 60 + S by omega] at cF
        clear hq HV hv hV1
        generalize (⟨(showL V (H * 3600 + I * 60 + S) Y m0 D).toArray⟩ : ByteArray) = A at cF hform
        generalize (⟨(dash2L V (H * 3600 + I * 60 + S) Y m0 D).toArray⟩ : ByteArray) = B at cF hform
        generalize (⟨(blankL V (H * 3600 + I * 60 + S) Y m0 D).toArray⟩ : ByteArray) = C at cF hform
        replace hform := hide hform
        go_wp2_with fail
        refine (cF.out _).mono ?_
        rintro x1 w4 ⟨rfl, b4⟩
        have B4 : Hid (Below w1.heap.size w1 w4) := B3.out.trans (b4.mono B3.out.size)
        clear b4 cF
        have B5 : Hid (Below w1.heap.size w1 (w4.alloc (.cells #[.string A, .string B, .string C] 101))) := B4.out.alloc B4.out.size _
        rcases hform.out with ⟨p1, hv0, he0⟩ | ⟨p1, p2, hv0, he0⟩ | ⟨p1, p2, p3, hv0, he0⟩ | ⟨p1, p2, p3, hv0, he0⟩
        · have q1 : (s.toList == A.toList) = true := by rw [p1]; simp
          replace hv0 := hide hv0
          replace he0 := hide he0
          clear hform p1
          go_wp2_with fail
          go_ret2
          rw [hv0.out, he0.out]
          exact ⟨rfl, B5.out⟩
        · have q1 := ne_list p1
          have q2 : (s.toList == B.toList) = true := by rw [p2]; simp
          replace hv0 := hide hv0
          replace he0 := hide he0
          clear hform p1 p2
          go_wp2_with fail
          go_ret2
          rw [hv0.out, he0.out]
          exact ⟨rfl, B5.out⟩
        · have q1 := ne_list p1
          have q2 := ne_list p2
          have q3 : (s.toList == C.toList) = true := by rw [p3]; simp
          replace hv0 := hide hv0
          replace he0 := hide he0
          clear hform p1 p2 p3
          go_wp2_with fail
          go_ret2
          rw [hv0.out, he0.out]
          exact ⟨rfl, B5.out⟩
        · have q1 := ne_list p1
          have q2 := ne_list p2
          have q3 := ne_list p3
          replace hv0 := hide hv0
          replace he0 := hide he0
          clear hform p1 p2 p3
          go_wp2_with fail
          go_ret2
          rw [hv0.out, he0.out]
          exact ⟨rfl, B5.out⟩
end Go.Proofs.YtipcmbonhkelbabGreatDoor
namespace Go.Proofs.YtipcmbonhkelbabGreatDoor
open Go.RowKit
set_option maxRecDepth 20000 in
set_option maxHeartbeats 2000000 in
theorem refP29 (s : ByteArray) (hs : s.size = 29) (D Yr Y H I S j : Int) (hD : refNum (seg s 5 7) = D) (hY : refNum (seg s 12 16) = Yr) (hH : refNum (seg s 17 19) = H) (hI : refNum (seg s 20 22) = I) (hS : refNum (seg s 23 25) = S)
    (hYY : Y = Yr) (j0 : 0 ≤ j) (j1 : j ≤ 12)
    (he : 1 ≤ j → s.extract 8 11 = ⟨(moL j).toArray⟩) (hne : ∀ i : Int, 1 ≤ i → i ≤ 12 → ¬ i = j → ¬ s.extract 8 11 = ⟨(moL i).toArray⟩) (v e : Int)
    (hq : ((¬ Valid Y j D ∨ (Valid Y j D ∧ H < 0) ∨ (Valid Y j D ∧ 0 ≤ H ∧ 23 < H) ∨ (Valid Y j D ∧ 0 ≤ H ∧ H ≤ 23 ∧ I < 0) ∨ (Valid Y j D ∧ 0 ≤ H ∧ H ≤ 23 ∧ 0 ≤ I ∧ 59 < I) ∨ (Valid Y j D ∧ 0 ≤ H ∧ H ≤ 23 ∧ 0 ≤ I ∧ I ≤ 59 ∧ S < 0) ∨ (Valid Y j D ∧ 0 ≤ H ∧ H ≤ 23 ∧ 0 ≤ I ∧ I ≤ 59 ∧ 0 ≤ S ∧ 59 < S)) ∧ v = 0 ∧ e = 20) ∨
      ((Valid Y j D ∧ 0 ≤ H ∧ H ≤ 23 ∧ 0 ≤ I ∧ I ≤ 59 ∧ 0 ≤ S ∧ S ≤ 59) ∧
        ((s = ⟨(showL (dayOf Y j D) (H * 3600 + I * 60 + S) Y j D).toArray⟩ ∧ v = dayOf Y j D * 86400 + H * 3600 + I * 60 + S ∧ e = 0) ∨
         (¬ s = ⟨(showL (dayOf Y j D) (H * 3600 + I * 60 + S) Y j D).toArray⟩ ∧ s = ⟨(dash2L (dayOf Y j D) (H * 3600 + I * 60 + S) Y j D).toArray⟩ ∧ v = dayOf Y j D * 86400 + H * 3600 + I * 60 + S ∧ e = 0) ∨
         (¬ s = ⟨(showL (dayOf Y j D) (H * 3600 + I * 60 + S) Y j D).toArray⟩ ∧ ¬ s = ⟨(dash2L (dayOf Y j D) (H * 3600 + I * 60 + S) Y j D).toArray⟩ ∧ s = ⟨(blankL (dayOf Y j D) (H * 3600 + I * 60 + S) Y j D).toArray⟩ ∧ v = dayOf Y j D * 86400 + H * 3600 + I * 60 + S ∧ e = 0) ∨
         (¬ s = ⟨(showL (dayOf Y j D) (H * 3600 + I * 60 + S) Y j D).toArray⟩ ∧ ¬ s = ⟨(dash2L (dayOf Y j D) (H * 3600 + I * 60 + S) Y j D).toArray⟩ ∧ ¬ s = ⟨(blankL (dayOf Y j D) (H * 3600 + I * 60 + S) Y j D).toArray⟩ ∧ v = 0 ∧ e = 20)))) (w : World) :
    Calls Tryz.prog 50 #[.string s] w fun x w' => x = .returned (.tuple #[.int .i64 v, .int .i64 e]) ∧ Below w.heap.size w w' := by
  have bD : -1 ≤ D ∧ D ≤ 100000000 := by rw [← hD]; exact refNum_in _ (by rw [seg_lenD s _ _ (by omega) (by omega)]; omega)
  have bY : -1 ≤ Yr ∧ Yr ≤ 100000000 := by rw [← hY]; exact refNum_in _ (by rw [seg_lenD s _ _ (by omega) (by omega)]; omega)
  have bH : -1 ≤ H ∧ H ≤ 100000000 := by rw [← hH]; exact refNum_in _ (by rw [seg_lenD s _ _ (by omega) (by omega)]; omega)
  have bI : -1 ≤ I ∧ I ≤ 100000000 := by rw [← hI]; exact refNum_in _ (by rw [seg_lenD s _ _ (by omega) (by omega)]; omega)
  have bS : -1 ≤ S ∧ S ≤ 100000000 := by rw [← hS]; exact refNum_in _ (by rw [seg_lenD s _ _ (by omega) (by omega)]; omega)
  have cD := hide (digitsRef s 5 7 (by omega) (by omega) (by omega) (by omega))
  have cY := hide (digitsRef s 12 16 (by omega) (by omega) (by omega) (by omega))
  have cH := hide (digitsRef s 17 19 (by omega) (by omega) (by omega) (by omega))
  have cI := hide (digitsRef s 20 22 (by omega) (by omega) (by omega) (by omega))
  have cS := hide (digitsRef s 23 25 (by omega) (by omega) (by omega) (by omega))
  rw [hD] at cD
  rw [hY] at cY
  rw [hH] at cH
  rw [hI] at cI
  rw [hS] at cS
  clear hD hY hH hI hS
  obtain ⟨x, hx⟩ : ∃ x, s.extract 8 11 = x := ⟨_, rfl⟩
  rw [hx] at he
  have hne2 : ∀ i : Int, 1 ≤ i → i ≤ 12 → ¬ i = j → ¬ x = ⟨(moL i).toArray⟩ := by rw [← hx]; exact hne
  have zx : x.size = 3 := by rw [← hx, ext_size _ _ _ (by omega)]
  clear hne
  replace he := hide he
  replace hne2 := hide hne2
  replace hq := hide hq
  obtain ⟨V, E, hV, bV⟩ := dayV_one Y j D
  have cN := hide (fun w => dayRefV hV w)
  have HV := hide hV
  clear hV
  subst hYY
  go_enter Tryz.func50, Tryz.ntmps50
  go_wp2_with fail
  refine (cD.out _).mono ?_
  rintro x1 w1 ⟨rfl, rfl⟩
  go_wp2_with fail
  refine (cY.out _).mono ?_
  rintro x1 w1 ⟨rfl, rfl⟩
  go_wp2_with fail
  go_loopw [9, 10] (fun mv iv wr => ∃ (k : Nat) (m0 : Int), 1 ≤ k ∧ k ≤ 13 ∧ iv = .int .i64 k ∧ mv = .int .i64 m0 ∧ Hid (m0 = if j < (k : Int) then j else 0) ∧ ∃ q, Hid (wr = w1.drewN q)) (fun _ iv _ => 13 - (intOf iv).toNat)
  case atStart => exact ⟨1, 0, by omega, by omega, rfl, rfl, by unfold Hid; split <;> omega, 0, rfl⟩
  case round =>
    obtain ⟨k, m0, k0, k1, rfl, rfl, hm, q, hw⟩ := hrel
    by_cases h12 : k ≤ 12
    · have cM := hide (fun W => monthRef (k : Int) (by omega) (by omega) W)
      have h12' : (k : Int) ≤ 12 := by omega
      by_cases hkj : (k : Int) = j
      · have hxe := he.out (by omega)
        rw [← hkj] at hxe
        have M1 : Hid ((k : Int) = if j < ((k + 1 : Nat) : Int) then j else 0) := by unfold Hid; rw [if_pos (by omega)]; exact hkj
        replace hkj := hide hkj
        generalize (⟨(moL (k : Int)).toArray⟩ : ByteArray) = z at cM hxe
        subst hxe
        go_wp2_with fail
        go_quiet (first | (go_at_call 70; exact Calls.quiet_of_same (cM.out _)))
        go_wp2_with fail
        go_roundw
        case rel => exact ⟨k + 1, k, by omega, by omega, by go_num, rfl, M1, q + nq, by unfold Hid; rw [hw.out, World.drewN_drewN]⟩
        case measure => simp [intOf]; omega
      · have hxn := ne_list (hne2.out (k : Int) (by omega) (by omega) hkj)
        have M1 : Hid (m0 = if j < ((k + 1 : Nat) : Int) then j else 0) := by
          unfold Hid; rw [hm.out]
          by_cases hj : j < (k : Int)
          · rw [if_pos hj, if_pos (by omega)]
          · rw [if_neg hj, if_neg (by omega)]
        replace hkj := hide hkj
        generalize (⟨(moL (k : Int)).toArray⟩ : ByteArray) = z at cM hxn
        go_wp2_with fail
        go_quiet (first | (go_at_call 70; exact Calls.quiet_of_same (cM.out _)))
        go_wp2_with fail
        go_roundw
        case rel => exact ⟨k + 1, m0, by omega, by omega, by go_num, rfl, M1, q + nq, by unfold Hid; rw [hw.out, World.drewN_drewN]⟩
        case measure => simp [intOf]; omega
    · have h13 : ¬ (k : Int) ≤ 12 := by omega
      have B0 : Hid (Below w1.heap.size w1 wr) := by unfold Hid; rw [hw.out]; exact below_drawn2 (Below.refl _ _) _
      have m0j : m0 = j := by rw [hm.out, if_pos (by omega)]
      subst m0j
      clear hm hw he hne2
      go_wp2_with fail
      refine (cH.out _).mono ?_
      rintro x1 w2 ⟨rfl, rfl⟩
      go_wp2_with fail
      refine (cI.out _).mono ?_
      rintro x1 w2 ⟨rfl, rfl⟩
      go_wp2_with fail
      refine (cS.out _).mono ?_
      rintro x1 w2 ⟨rfl, rfl⟩
      go_wp2_with fail
      refine (cN.out _).mono ?_
      rintro x1 w3 ⟨rfl, b3⟩
      have B3 : Hid (Below w1.heap.size w1 w3) := B0.out.trans (b3.mono B0.out.size)
      clear b3 B0 cH cI cS cN cD cY
      rcases hq.out with ⟨hbad, hv0, he0⟩ | ⟨⟨hv, g1, g2, g3, g4, g5, g6⟩, hform⟩
      · replace hv0 := hide hv0
        replace he0 := hide he0
        clear hq
        rcases hbad with h | ⟨hv, h1⟩ | ⟨hv, h1, h2⟩ | ⟨hv, h1, h2, h3⟩ | ⟨hv, h1, h2, h3, h4⟩ | ⟨hv, h1, h2, h3, h4, h5⟩ | ⟨hv, h1, h2, h3, h4, h5, h6⟩
        · obtain ⟨rfl, rfl⟩ : V = 0 ∧ E = 20 := by
            rcases HV.out with ⟨a, _⟩ | ⟨_, a, b⟩
            · exact absurd a h
            · exact ⟨a, b⟩
          clear h HV
          go_wp2_with fail
          go_ret2
          rw [hv0.out, he0.out]
          exact ⟨rfl, B3.out⟩
        · obtain rfl : E = 0 := by
            rcases HV.out with ⟨_, _, a⟩ | ⟨a, _⟩
            · exact a
            · exact absurd hv a
          clear hv HV
          go_wp2_with fail
          go_ret2
          rw [hv0.out, he0.out]
          exact ⟨rfl, B3.out⟩
        · obtain rfl : E = 0 := by
            rcases HV.out with ⟨_, _, a⟩ | ⟨a, _⟩
            · exact a
            · exact absurd hv a
          clear hv HV
          go_wp2_with fail
          go_ret2
          rw [hv0.out, he0.out]
          exact ⟨rfl, B3.out⟩
        · obtain rfl : E = 0 := by
            rcases HV.out with ⟨_, _, a⟩ | ⟨a, _⟩
            · exact a
            · exact absurd hv a
          clear hv HV
          go_wp2_with fail
          go_ret2
          rw [hv0.out, he0.out]
          exact ⟨rfl, B3.out⟩
        · obtain rfl : E = 0 := by
            rcases HV.out with ⟨_, _, a⟩ | ⟨a, _⟩
            · exact a
            · exact absurd hv a
          clear hv HV
          go_wp2_with fail
          go_ret2
          rw [hv0.out, he0.out]
          exact ⟨rfl, B3.out⟩
        · obtain rfl : E = 0 := by
            rcases HV.out with ⟨_, _, a⟩ | ⟨a, _⟩
            · exact a
            · exact absurd hv a
          clear hv HV
          go_wp2_with fail
          go_ret2
          rw [hv0.out, he0.out]
          exact ⟨rfl, B3.out⟩
        · obtain rfl : E = 0 := by
            rcases HV.out with ⟨_, _, a⟩ | ⟨a, _⟩
            · exact a
            · exact absurd hv a
          clear hv HV
          go_wp2_with fail
          go_ret2
          rw [hv0.out, he0.out]
          exact ⟨rfl, B3.out⟩
      · obtain ⟨hV1, rfl⟩ : V = dayOf Y m0 D ∧ E = 0 := by
          rcases HV.out with ⟨_, a, b⟩ | ⟨a, _⟩
          · exact ⟨a, b⟩
          · exact absurd hv a
        have hr := dayOf_range hv
        rw [← hV1] at hform hr
        have cF := hide (fun W => formsRef (V * 86400 + H * 3600 + I * 60 + S) Y m0 D (by omega) (by omega) hv (by rw [← hV1]; omega) W)
        rw [show (V * 86400 + H * 3600 + I * 60 + S) / 86400 = V by omega, show (V * 86400 + H * 3600 + I * 60 + S) % 86400 = H * 3600 + I * 60 + S by omega] at cF
        clear hq HV hv hV1
        generalize (⟨(showL V (H * 3600 + I * 60 + S) Y m0 D).toArray⟩ : ByteArray) = A at cF hform
        generalize (⟨(dash2L V (H * 3600 + I * 60 + S) Y m0 D).toArray⟩ : ByteArray) = B at cF hform
        generalize (⟨(blankL V (H * 3600 + I * 60 + S) Y m0 D).toArray⟩ : ByteArray) = C at cF hform
        replace hform := hide hform
        go_wp2_with fail
        refine (cF.out _).mono ?_
        rintro x1 w4 ⟨rfl, b4⟩
        have B4 : Hid (Below w1.heap.size w1 w4) := B3.out.trans (b4.mono B3.out.size)
        clear b4 cF
        have B5 : Hid (Below w1.heap.size w1 (w4.alloc (.cells #[.string A, .string B, .string C] 101))) := B4.out.alloc B4.out.size _
        rcases hform.out with ⟨p1, hv0, he0⟩ | ⟨p1, p2, hv0, he0⟩ | ⟨p1, p2, p3, hv0, he0⟩ | ⟨p1, p2, p3, hv0, he0⟩
        · have q1 : (s.toList == A.toList) = true := by rw [p1]; simp
          replace hv0 := hide hv0
          replace he0 := hide he0
          clear hform p1
          go_wp2_with fail
          go_ret2
          rw [hv0.out, he0.out]
          exact ⟨rfl, B5.out⟩
        · have q1 := ne_list p1
          have q2 : (s.toList == B.toList) = true := by rw [p2]; simp
          replace hv0 := hide hv0
          replace he0 := hide he0
          clear hform p1 p2
          go_wp2_with fail
          go_ret2
          rw [hv0.out, he0.out]
          exact ⟨rfl, B5.out⟩
        · have q1 := ne_list p1
          have q2 := ne_list p2
          have q3 : (s.toList == C.toList) = true := by rw [p3]; simp
          replace hv0 := hide hv0
          replace he0 := hide he0
          clear hform p1 p2 p3
          go_wp2_with fail
          go_ret2
          rw [hv0.out, he0.out]
          exact ⟨rfl, B5.out⟩
        · have q1 := ne_list p1
          have q2 := ne_list p2
          have q3 := ne_list p3
          replace hv0 := hide hv0
          replace he0 := hide he0
          clear hform p1 p2 p3
          go_wp2_with fail
          go_ret2
          rw [hv0.out, he0.out]
          exact ⟨rfl, B5.out⟩
end Go.Proofs.YtipcmbonhkelbabGreatDoor
