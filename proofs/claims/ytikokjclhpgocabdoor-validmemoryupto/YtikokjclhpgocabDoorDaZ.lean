/- Plain lemmas on the answers of the document's Parse. -/
import Derived.Test.YtikokjclhpgocabDoorDaX
namespace Go.Proofs.YtikokjclhpgocabDoor
open Go.RowKit
/-- what the document's Parse answers to a text whose parts read so -/
def Out (s : ByteArray) (Y j D H I S v e : Int) : Prop := ((¬ Valid Y j D ∨ (Valid Y j D ∧ H < 0) ∨ (Valid Y j D ∧ 0 ≤ H ∧ 23 < H) ∨ (Valid Y j D ∧ 0 ≤ H ∧ H ≤ 23 ∧ I < 0) ∨ (Valid Y j D ∧ 0 ≤ H ∧ H ≤ 23 ∧ 0 ≤ I ∧ 59 < I) ∨ (Valid Y j D ∧ 0 ≤ H ∧ H ≤ 23 ∧ 0 ≤ I ∧ I ≤ 59 ∧ S < 0) ∨ (Valid Y j D ∧ 0 ≤ H ∧ H ≤ 23 ∧ 0 ≤ I ∧ I ≤ 59 ∧ 0 ≤ S ∧ 59 < S)) ∧ v = 0 ∧ e = 20) ∨
      ((Valid Y j D ∧ 0 ≤ H ∧ H ≤ 23 ∧ 0 ≤ I ∧ I ≤ 59 ∧ 0 ≤ S ∧ S ≤ 59) ∧
        ((s = ⟨(showL (dayOf Y j D) (H * 3600 + I * 60 + S) Y j D).toArray⟩ ∧ v = dayOf Y j D * 86400 + H * 3600 + I * 60 + S ∧ e = 0) ∨
         (¬ s = ⟨(showL (dayOf Y j D) (H * 3600 + I * 60 + S) Y j D).toArray⟩ ∧ s = ⟨(dash2L (dayOf Y j D) (H * 3600 + I * 60 + S) Y j D).toArray⟩ ∧ v = dayOf Y j D * 86400 + H * 3600 + I * 60 + S ∧ e = 0) ∨
         (¬ s = ⟨(showL (dayOf Y j D) (H * 3600 + I * 60 + S) Y j D).toArray⟩ ∧ ¬ s = ⟨(dash2L (dayOf Y j D) (H * 3600 + I * 60 + S) Y j D).toArray⟩ ∧ s = ⟨(blankL (dayOf Y j D) (H * 3600 + I * 60 + S) Y j D).toArray⟩ ∧ v = dayOf Y j D * 86400 + H * 3600 + I * 60 + S ∧ e = 0) ∨
         (¬ s = ⟨(showL (dayOf Y j D) (H * 3600 + I * 60 + S) Y j D).toArray⟩ ∧ ¬ s = ⟨(dash2L (dayOf Y j D) (H * 3600 + I * 60 + S) Y j D).toArray⟩ ∧ ¬ s = ⟨(blankL (dayOf Y j D) (H * 3600 + I * 60 + S) Y j D).toArray⟩ ∧ v = 0 ∧ e = 20)))
theorem out_ex (s : ByteArray) (hs : 0 < s.size) (Y j D H I S : Int) : ∃ v e, Out s Y j D H I S v e ∧ ((v = 0 ∧ e = 20) ∨ (e = 0 ∧ IsForm s.data.toList v)) := by
  by_cases hv : Valid Y j D
  · by_cases h1 : 0 ≤ H
    · by_cases h2 : H ≤ 23
      · by_cases h3 : 0 ≤ I
        · by_cases h4 : I ≤ 59
          · by_cases h5 : 0 ≤ S
            · by_cases h6 : S ≤ 59
              · have hr := dayOf_range hv
                have key : s = ⟨(showL (dayOf Y j D) (H * 3600 + I * 60 + S) Y j D).toArray⟩ ∨ s = ⟨(dash2L (dayOf Y j D) (H * 3600 + I * 60 + S) Y j D).toArray⟩ ∨ s = ⟨(blankL (dayOf Y j D) (H * 3600 + I * 60 + S) Y j D).toArray⟩ → IsForm s.data.toList (dayOf Y j D * 86400 + H * 3600 + I * 60 + S) := by
                  intro hf
                  refine ⟨by omega, by omega, Y, j, D, hv, by omega, ?_⟩
                  rw [show (dayOf Y j D * 86400 + H * 3600 + I * 60 + S) / 86400 = dayOf Y j D by omega, show (dayOf Y j D * 86400 + H * 3600 + I * 60 + S) % 86400 = H * 3600 + I * 60 + S by omega]
                  rcases hf with h | h | h
                  · exact .inl (by rw [h])
                  · by_cases hy : Y < 2070
                    · refine .inr (.inl ⟨hy, ?_⟩)
                      rw [h]
                      show dash2L _ _ _ _ _ = _
                      unfold dash2L
                      rw [if_pos hy]
                    · exfalso
                      unfold dash2L at h
                      rw [if_neg hy] at h
                      rw [h] at hs
                      exact absurd hs (by decide)
                  · exact .inr (.inr (by rw [h]))
                by_cases a : s = ⟨(showL (dayOf Y j D) (H * 3600 + I * 60 + S) Y j D).toArray⟩
                · exact ⟨_, _, .inr ⟨⟨hv, h1, h2, h3, h4, h5, h6⟩, .inl ⟨a, rfl, rfl⟩⟩, .inr ⟨rfl, key (.inl a)⟩⟩
                · by_cases b : s = ⟨(dash2L (dayOf Y j D) (H * 3600 + I * 60 + S) Y j D).toArray⟩
                  · exact ⟨_, _, .inr ⟨⟨hv, h1, h2, h3, h4, h5, h6⟩, .inr (.inl ⟨a, b, rfl, rfl⟩)⟩, .inr ⟨rfl, key (.inr (.inl b))⟩⟩
                  · by_cases c : s = ⟨(blankL (dayOf Y j D) (H * 3600 + I * 60 + S) Y j D).toArray⟩
                    · exact ⟨_, _, .inr ⟨⟨hv, h1, h2, h3, h4, h5, h6⟩, .inr (.inr (.inl ⟨a, b, c, rfl, rfl⟩))⟩, .inr ⟨rfl, key (.inr (.inr c))⟩⟩
                    · exact ⟨0, 20, .inr ⟨⟨hv, h1, h2, h3, h4, h5, h6⟩, .inr (.inr (.inr ⟨a, b, c, rfl, rfl⟩))⟩, .inl ⟨rfl, rfl⟩⟩
              · exact ⟨0, 20, .inl ⟨.inr (.inr (.inr (.inr (.inr (.inr ⟨hv, h1, h2, h3, h4, h5, by omega⟩))))), rfl, rfl⟩, .inl ⟨rfl, rfl⟩⟩
            · exact ⟨0, 20, .inl ⟨.inr (.inr (.inr (.inr (.inr (.inl ⟨hv, h1, h2, h3, h4, by omega⟩))))), rfl, rfl⟩, .inl ⟨rfl, rfl⟩⟩
          · exact ⟨0, 20, .inl ⟨.inr (.inr (.inr (.inr (.inl ⟨hv, h1, h2, h3, by omega⟩)))), rfl, rfl⟩, .inl ⟨rfl, rfl⟩⟩
        · exact ⟨0, 20, .inl ⟨.inr (.inr (.inr (.inl ⟨hv, h1, h2, by omega⟩))), rfl, rfl⟩, .inl ⟨rfl, rfl⟩⟩
      · exact ⟨0, 20, .inl ⟨.inr (.inr (.inl ⟨hv, h1, by omega⟩)), rfl, rfl⟩, .inl ⟨rfl, rfl⟩⟩
    · exact ⟨0, 20, .inl ⟨.inr (.inl ⟨hv, by omega⟩), rfl, rfl⟩, .inl ⟨rfl, rfl⟩⟩
  · exact ⟨0, 20, .inl ⟨.inl hv, rfl, rfl⟩, .inl ⟨rfl, rfl⟩⟩
theorem out_of (s : ByteArray) (t y m d : Int) (hv : Valid y m d) (hd : dayOf y m d = t / 86400)
    (hf : s = ⟨(showL (t / 86400) (t % 86400) y m d).toArray⟩ ∨ s = ⟨(dash2L (t / 86400) (t % 86400) y m d).toArray⟩ ∨ s = ⟨(blankL (t / 86400) (t % 86400) y m d).toArray⟩) :
    Out s y m d (t % 86400 / 3600) (t % 86400 / 60 % 60) (t % 86400 % 60) t 0 := by
  have er : t % 86400 / 3600 * 3600 + t % 86400 / 60 % 60 * 60 + t % 86400 % 60 = t % 86400 := by omega
  have g : Valid y m d ∧ 0 ≤ t % 86400 / 3600 ∧ t % 86400 / 3600 ≤ 23 ∧ 0 ≤ t % 86400 / 60 % 60 ∧ t % 86400 / 60 % 60 ≤ 59 ∧ 0 ≤ t % 86400 % 60 ∧ t % 86400 % 60 ≤ 59 := ⟨hv, by omega, by omega, by omega, by omega, by omega, by omega⟩
  have ev : t = dayOf y m d * 86400 + t % 86400 / 3600 * 3600 + t % 86400 / 60 % 60 * 60 + t % 86400 % 60 := by rw [hd]; omega
  unfold Out
  rw [er, ← ev, hd]
  refine .inr ⟨g, ?_⟩
  by_cases a : s = ⟨(showL (t / 86400) (t % 86400) y m d).toArray⟩
  · exact .inl ⟨a, rfl, rfl⟩
  · by_cases b : s = ⟨(dash2L (t / 86400) (t % 86400) y m d).toArray⟩
    · exact .inr (.inl ⟨a, b, rfl, rfl⟩)
    · rcases hf with h | h | h
      · exact absurd h a
      · exact absurd h b
      · exact .inr (.inr (.inl ⟨a, b, h, rfl, rfl⟩))
theorem moL_ne {i m : Int} (i0 : 1 ≤ i) (i1 : i ≤ 12) (m0 : 1 ≤ m) (m1 : m ≤ 12) (h : ¬ i = m) : ¬ (⟨(moL m).toArray⟩ : ByteArray) = ⟨(moL i).toArray⟩ := by
  rw [moB_of m0, moB_of i0]
  rcases Int.lt_or_gt_of_ne h with q | q
  · exact fun e => moB_ne (j := m.toNat - 1) (k := i.toNat - 1) (by omega) (by omega) e.symm
  · exact fun e => moB_ne (j := i.toNat - 1) (k := m.toNat - 1) (by omega) (by omega) e
theorem month_ref (x : ByteArray) : ∃ j : Int, 0 ≤ j ∧ j ≤ 12 ∧ (1 ≤ j → x = ⟨(moL j).toArray⟩) ∧ (∀ i : Int, 1 ≤ i → i ≤ 12 → ¬ i = j → ¬ x = ⟨(moL i).toArray⟩) := by
  obtain ⟨j, hj, h1, h2⟩ := first_mo x
  by_cases hl : j < 12
  · have hx : x = ⟨(moL ((j : Int) + 1)).toArray⟩ := by rw [moB_of (by omega), show ((j : Int) + 1).toNat - 1 = j by omega, h2 hl]
    refine ⟨(j : Int) + 1, by omega, by omega, fun _ => hx, fun i i0 i1 hi => ?_⟩
    rw [hx]
    exact moL_ne i0 i1 (by omega) (by omega) hi
  · refine ⟨0, by omega, by omega, fun h => by omega, fun i i0 i1 _ e => ?_⟩
    exact h1 (i.toNat - 1) (by omega) (by rw [← moB_of i0]; exact e.symm)
theorem ref_digs {l : List UInt8} (h : digs l = true) : refNum l = numV l := by
  have hf : fixS l = l := by
    cases l with
    | nil => rfl
    | cons c r =>
      have hc : isDig c = true := by simp [digs] at h; exact h.1
      have := isDig_in hc
      have hn : ¬ c = 32 := fun e => by rw [e] at this; exact absurd this.1 (by decide)
      simp [fixS, hn]
  unfold refNum
  rw [hf, h, if_pos rfl]
theorem ref_D2 {v : Int} (h0 : 0 ≤ v) (h1 : v < 100) : refNum (D2 v) = v := by
  obtain ⟨_, h2, h3⟩ := num_D2 h0 h1
  have hd : digs (D2 v) = true := h3.symm
  rw [ref_digs hd, ← numB_true hd]
  exact h2.symm
theorem ref_D4 {v : Int} (h0 : 0 ≤ v) (h1 : v < 10000) : refNum (D4 v) = v := by
  obtain ⟨_, h2, h3⟩ := num_D4 h0 h1
  have hd : digs (D4 v) = true := h3.symm
  rw [ref_digs hd, ← numB_true hd]
  exact h2.symm
theorem ref_pad {d : Int} (d0 : 1 ≤ d) (d1 : d ≤ 31) : refNum (padL d) = d := by
  unfold padL
  by_cases h : d < 10
  · rw [if_pos h]
    have e : fixS [32, dg d] = D2 d := by
      have : D2 d = [48, dg d] := by unfold D2; rw [show d / 10 = 0 by omega, show d % 10 = d by omega]; rfl
      rw [this]; rfl
    have hd : digs (D2 d) = true := (num_D2 (v := d) (by omega) (by omega)).2.2.symm
    have h2 := (num_D2 (v := d) (by omega) (by omega)).2.1
    unfold refNum
    rw [e, hd, if_pos rfl, ← numB_true hd]
    exact h2.symm
  · rw [if_neg h]
    exact ref_D2 (by omega) (by omega)
/-- what a call of the document's Parse answers -/
def RefAns (s : ByteArray) (v e : Int) : Prop := ∀ w : World, Calls Tryd.prog 36 #[.string s] w fun x w' => x = .returned (.tuple #[.int .i64 v, .int .i64 e]) ∧ Below w.heap.size w w'
set_option maxRecDepth 20000 in
set_option maxHeartbeats 1000000 in
theorem refOther (s : ByteArray) (h1 : ¬ s.size = 29) (h2 : ¬ s.size = 24) (h3 : s.size < 30 ∨ 33 < s.size) : RefAns s 0 20 := by
  intro w
  have k1 : ((s.size : Int) == 29) = false := by simp; omega
  have k2 : ((s.size : Int) == 24) = false := by simp; omega
  rcases h3 with h3 | h3
  · have k3 : (s.size : Int) < 30 := by omega
    clear h1 h2 h3
    go_enter Tryd.func36, Tryd.ntmps36
    go_wp2_with fail
    go_ret2
    exact ⟨rfl, Below.refl _ _⟩
  · have k3 : (30 : Int) ≤ s.size := by omega
    have k4 : (33 : Int) < s.size := by omega
    clear h1 h2 h3
    go_enter Tryd.func36, Tryd.ntmps36
    go_wp2_with fail
    go_ret2
    exact ⟨rfl, Below.refl _ _⟩
theorem seg_lit (l : List UInt8) (f e : Nat) (r : List UInt8) (h : (l.drop f).take (e - f) = r) : seg ⟨l.toArray⟩ f e = r := h
end Go.Proofs.YtikokjclhpgocabDoor
