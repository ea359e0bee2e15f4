/- What is told of some bytes is told of them with more behind, and of the head's own bytes; ahead of its last byte there is no head yet. -/
import Derived.Test.YtbbaajlabpjnlaaDoorHdB
import Derived.Test.YtbbaajlabpjnlaaDoorFdE
namespace Go.Proofs.YtbbaajlabpjnlaaDoor
open Go.RowKit
theorem lead_take : ∀ (n : Nat) (b : List UInt8) (k : Nat), b.length ≤ n → leadOf b + 2 ≤ k → leadOf (b.take k) = leadOf b := by
  intro n
  induction n with
  | zero => intro b k h _; obtain rfl : b = [] := List.eq_nil_of_length_eq_zero (by omega); simp
  | succ n ih =>
    intro b k h hk
    cases hp : pairB b with
    | false =>
      rw [lead_no b hp]
      apply lead_no
      cases e : pairB (b.take k) with
      | false => rfl
      | true =>
        have := pre_app E2 (b.take k) (b.drop k) e
        rw [List.take_append_drop, show E2.isPrefixOf b = pairB b from rfl, hp] at this; cases this
    | true =>
      rw [lead_yes b hp] at hk ⊢
      obtain ⟨t, rfl⟩ := (pair_iff b).1 hp
      obtain ⟨j, rfl⟩ : ∃ j, k = j + 2 := ⟨k - 2, by omega⟩
      simp at h hk
      have e : pairB (13 :: 10 :: t.take j) = true := (pair_iff _).2 ⟨_, rfl⟩
      rw [show (13 :: 10 :: t).take (j + 2) = 13 :: 10 :: t.take j from rfl, lead_yes _ e]
      simp
      exact ih t j (by omega) (by omega)
theorem index_take (l p : List UInt8) (hp : p ≠ []) (i k : Nat) (h : Lib.index l p = i) (hk : i + p.length ≤ k) : Lib.index (l.take k) p = i := by
  obtain ⟨h1, h2, h3⟩ := index_is l p i h
  have h4 := occ_len _ _ _ hp h2
  have hl : i + p.length ≤ (l.take k).length := by rw [List.length_take]; omega
  refine Lib.index_first (by omega) (occ_cut (l.take k) (l.drop k) p i (by rw [List.take_append_drop]; exact h2) hl) (fun j hj => ?_)
  cases e : Lib.occAt (l.take k) p j with
  | false => rfl
  | true =>
    have := occ_app (l.take k) (l.drop k) p j (by omega) e
    rw [List.take_append_drop, h3 j hj] at this; cases this
theorem index_take_none (l p : List UInt8) (hp : p ≠ []) (i k : Nat) (h : Lib.index l p = i) (hk : k < i + p.length) : Lib.index (l.take k) p = -1 := by
  rcases index_cases (l.take k) p with h1 | ⟨j, h1⟩
  · exact h1
  · obtain ⟨a1, a2, _⟩ := index_is _ _ _ h1
    have a3 := occ_len _ _ _ hp a2
    rw [List.length_take] at a3
    have := occ_app (l.take k) (l.drop k) p j a1 a2
    rw [List.take_append_drop] at this
    obtain ⟨_, _, h3⟩ := index_is l p i h
    rw [h3 j (by omega)] at this; cases this
theorem drop_take' (b : List UInt8) (p n : Nat) : (b.take n).drop p = (b.drop p).take (n - p) := List.drop_take ..
theorem end_take (b : List UInt8) (p i : Nat) (h : Lib.index (b.drop p) E4 = i) (hc : p + i + 4 ≤ 8192) : endOf (b.take (p + i + 4)) p = (p + i + 4, 0) := by
  rw [end_some _ _ i, if_neg (by omega)]
  rw [drop_take']
  exact index_take _ _ (by decide) _ _ h (by show i + 4 ≤ _; omega)
theorem end_short (b : List UInt8) (p i : Nat) (h : Lib.index (b.drop p) E4 = i) (hc : p + i + 4 ≤ 8192) : endOf (b.take (p + i + 3)) p = (0, 0) := by
  rw [end_none, if_neg (by rw [List.length_take]; omega)]
  rw [drop_take']
  exact index_take_none _ _ (by decide) i _ h (by show _ < i + 4; omega)
theorem req_grow (b m : List UInt8) (h : (reqOf b).2.2 ≠ 0 ∨ 0 < (reqOf b).2.1) : reqOf (b ++ m) = reqOf b := by
  have hb := lead_bound b
  have key : Lib.index (b.drop (leadOf b)) E4 ≠ -1 → leadOf (b ++ m) = leadOf b ∧ endOf (b ++ m) (leadOf b) = endOf b (leadOf b) := by
    intro hi
    refine ⟨?_, end_app b m _ hb hi⟩
    rcases index_cases (b.drop (leadOf b)) E4 with h1 | ⟨i, h1⟩
    · exact absurd h1 hi
    · have h3 := occ_len _ _ _ (by decide) (index_is _ _ _ h1).2.1
      rw [List.length_drop, show E4.length = 4 from rfl] at h3
      exact lead_app _ b m (Nat.le_refl _) (by omega)
  by_cases h0 : (endOf b (leadOf b)).1 = 0
  · have r0 := req_none b h0
    rw [r0] at h ⊢
    have h51 : (endOf b (leadOf b)).2 = 51 := by
      rcases end_zero b _ h0 with e | e
      · simp only [e] at h; rcases h with h | h
        · exact absurd rfl h
        · omega
      · exact e
    rw [h51]
    by_cases hi : Lib.index (b.drop (leadOf b)) E4 = -1
    · have hl : 8192 ≤ b.length := by
        rcases Nat.lt_or_ge b.length 8192 with hl | hl
        · rw [end_none _ _ hi, if_neg (by omega)] at h51; cases h51
        · exact hl
      have := end_over b m (leadOf b) (leadOf (b ++ m)) hb (lead_more _ b m (Nat.le_refl _)) hi hl
      rw [req_none _ (by rw [this]), this]
    · obtain ⟨k1, k2⟩ := key hi
      rw [req_none (b ++ m) (by rw [k1, k2]; exact h0), k1, k2, h51]
  · obtain ⟨i, hi, he, hc, hl⟩ := end_facts b _ h0
    obtain ⟨k1, k2⟩ := key (by rw [hi]; omega)
    rw [req_some (b ++ m) (leadOf b + i + 4) (by omega) (by rw [k1, k2, he]), req_some b (leadOf b + i + 4) (by omega) he, k1, headH_app b m _ _ hl]
theorem resp_grow (b m : List UInt8) (h : (respOf b).2.2 ≠ 0 ∨ 0 < (respOf b).2.1) : respOf (b ++ m) = respOf b := by
  by_cases h0 : (endOf b 0).1 = 0
  · have r0 := resp_none b h0
    rw [r0] at h ⊢
    have h51 : (endOf b 0).2 = 51 := by
      rcases end_zero b _ h0 with e | e
      · simp only [e] at h; rcases h with h | h
        · exact absurd rfl h
        · omega
      · exact e
    rw [h51]
    by_cases hi : Lib.index (b.drop 0) E4 = -1
    · have hl : 8192 ≤ b.length := by
        rcases Nat.lt_or_ge b.length 8192 with hl | hl
        · rw [end_none _ _ hi, if_neg (by omega)] at h51; cases h51
        · exact hl
      have := end_over b m 0 0 (by omega) (by omega) hi hl
      rw [resp_none _ (by rw [this]), this]
    · have k2 := end_app b m 0 (by omega) hi
      rw [resp_none (b ++ m) (by rw [k2]; exact h0), k2, h51]
  · obtain ⟨i, hi, he, hc, hl⟩ := end_facts b _ h0
    have k2 := end_app b m 0 (by omega) (by rw [hi]; omega)
    rw [resp_some (b ++ m) (0 + i + 4) (by omega) (by rw [k2, he]), resp_some b (0 + i + 4) (by omega) he, headH_app b m _ _ hl]
/-- where a request is told: of what, and where it ends -/
theorem req_told (b : List UInt8) (h : 0 < (reqOf b).2.1) : ∃ i : Nat, Lib.index (b.drop (leadOf b)) E4 = i ∧ (reqOf b).2.1 = leadOf b + i + 4 ∧ (reqOf b).2.2 = 0 ∧ leadOf b + i + 4 ≤ 8192 ∧ leadOf b + i + 4 ≤ b.length ∧ endOf b (leadOf b) = (leadOf b + i + 4, 0) := by
  by_cases h0 : (endOf b (leadOf b)).1 = 0
  · rw [req_none b h0] at h; simp at h
  · obtain ⟨i, hi, he, hc, hl⟩ := end_facts b _ h0
    have hs := req_some b (leadOf b + i + 4) (by omega) he
    rw [hs] at h ⊢
    rcases reqG_facts (lineQ (lineH (headH b (leadOf b) (leadOf b + i + 4)))) (parseOf (blkH (headH b (leadOf b) (leadOf b + i + 4)))) (leadOf b + i + 4) with ⟨a1, a2, _⟩ | ⟨_, a2⟩
    · exact ⟨i, hi, a2, a1, hc, hl, he⟩
    · rw [a2] at h; simp at h
theorem resp_told (b : List UInt8) (h : 0 < (respOf b).2.1) : ∃ i : Nat, Lib.index (b.drop 0) E4 = i ∧ (respOf b).2.1 = 0 + i + 4 ∧ (respOf b).2.2 = 0 ∧ 0 + i + 4 ≤ 8192 ∧ 0 + i + 4 ≤ b.length ∧ endOf b 0 = (0 + i + 4, 0) := by
  by_cases h0 : (endOf b 0).1 = 0
  · rw [resp_none b h0] at h; simp at h
  · obtain ⟨i, hi, he, hc, hl⟩ := end_facts b _ h0
    have hs := resp_some b (0 + i + 4) (by omega) he
    rw [hs] at h ⊢
    rcases respG_facts (lineR (lineH (headH b 0 (0 + i + 4)))) (parseOf (blkH (headH b 0 (0 + i + 4)))) (0 + i + 4) with ⟨a1, a2⟩ | ⟨_, a2⟩
    · exact ⟨i, hi, a2, a1, hc, hl, he⟩
    · rw [a2] at h; simp at h
/-- of the head's own bytes the same is told -/
theorem req_own (b : List UInt8) (h : 0 < (reqOf b).2.1) : reqOf (b.take (reqOf b).2.1) = reqOf b := by
  obtain ⟨i, hi, hn, _, hc, hl, he⟩ := req_told b h
  have e1 := lead_take _ b (leadOf b + i + 4) (Nat.le_refl _) (by omega)
  rw [hn, req_some (b.take (leadOf b + i + 4)) (leadOf b + i + 4) (by omega) (by rw [e1]; exact end_take b _ i hi hc), e1, headH_take, ← req_some b _ (by omega) he]
/-- ahead of its last byte there is no head yet -/
theorem req_short (b : List UInt8) (h : 0 < (reqOf b).2.1) : reqOf (b.take ((reqOf b).2.1 - 1)) = (Rq.zero, 0, 0) := by
  obtain ⟨i, hi, hn, _, hc, hl, he⟩ := req_told b h
  have e1 := lead_take _ b (leadOf b + i + 3) (Nat.le_refl _) (by omega)
  rw [hn, show leadOf b + i + 4 - 1 = leadOf b + i + 3 by omega]
  have e2 := end_short b (leadOf b) i hi hc
  rw [req_none _ (by rw [e1, e2]), e1, e2]
theorem resp_short (b : List UInt8) (h : 0 < (respOf b).2.1) : respOf (b.take ((respOf b).2.1 - 1)) = (Rs.zero, 0, 0) := by
  obtain ⟨i, hi, hn, _, hc, hl, he⟩ := resp_told b h
  rw [hn, show 0 + i + 4 - 1 = 0 + i + 3 by omega]
  have e2 := end_short b 0 i hi hc
  rw [resp_none _ (by rw [e2]), e2]
/-- where no request is told there are no fields, and no length with an error -/
theorem req_nothing (b : List UInt8) (h : (reqOf b).2.2 ≠ 0 ∨ (reqOf b).2.1 = 0) : (reqOf b).2.1 = 0 ∧ (reqOf b).1.fs = [] := by
  by_cases h0 : (endOf b (leadOf b)).1 = 0
  · rw [req_none b h0]; exact ⟨rfl, rfl⟩
  · obtain ⟨i, hi, he, hc, hl⟩ := end_facts b _ h0
    have hs := req_some b (leadOf b + i + 4) (by omega) he
    rw [hs] at h ⊢
    rcases reqG_facts (lineQ (lineH (headH b (leadOf b) (leadOf b + i + 4)))) (parseOf (blkH (headH b (leadOf b) (leadOf b + i + 4)))) (leadOf b + i + 4) with ⟨a1, a2, _⟩ | ⟨_, a2⟩
    · rcases h with h | h
      · exact absurd a1 h
      · rw [a2] at h; omega
    · rw [a2]; exact ⟨rfl, rfl⟩
theorem lineQ_good (l : List UInt8) (h : (lineQ l).2 = 0) : (lineQ l).1.m ≠ [] ∧ (lineQ l).1.t ≠ [] ∧ ((lineQ l).1.k = 0 ∨ (lineQ l).1.k = 1) := by
  unfold lineQ at h ⊢
  split at h
  · cases h
  · rename_i h1
    split at h
    · rename_i h2
      rw [if_neg h1, if_pos h2]
      simp only [Bool.not_eq_false, Bool.and_eq_true] at h1
      refine ⟨?_, ?_, ?_⟩
      · have := h1.1; unfold isTok at this; intro e; simp only at e; rw [e] at this; simp at this
      · have := h1.2.1; unfold goodT at this; intro e; simp only at e; rw [e] at this; simp at this
      · rcases min_facts (past (past l)) with ⟨_, h3⟩ | ⟨h3, _⟩
        · exact h3
        · rw [h3] at h2; cases h2
    · cases h
/-- what every request that is told has -/
theorem req_host (b : List UInt8) (h : 0 < (reqOf b).2.1) : (reqOf b).2.1 ≤ 8192 ∧ (reqOf b).2.1 ≤ b.length ∧ (reqOf b).1.m ≠ [] ∧ (reqOf b).1.t ≠ [] ∧ hostsOf (reqOf b).1.fs ≤ 1 ∧ (hostsOf (reqOf b).1.fs = 1 ∨ (reqOf b).1.k = 0) ∧ ((reqOf b).1.k = 0 ∨ (reqOf b).1.k = 1) ∧ (reqOf b).1.fs.length ≤ 100 := by
  obtain ⟨i, hi, hn, h0, hc, hl, he⟩ := req_told b h
  have hs := req_some b (leadOf b + i + 4) (by omega) he
  rcases reqG_facts (lineQ (lineH (headH b (leadOf b) (leadOf b + i + 4)))) (parseOf (blkH (headH b (leadOf b) (leadOf b + i + 4)))) (leadOf b + i + 4) with ⟨a1, a2, a3, a4, a5, a6⟩ | ⟨a1, _⟩
  · rw [← hs] at a3
    have hq := lineQ_good _ a4
    have hb : ¬ (1 < hostsOf (parseOf (blkH (headH b (leadOf b) (leadOf b + i + 4)))).1 ∨ (hostsOf (parseOf (blkH (headH b (leadOf b) (leadOf b + i + 4)))).1 = 0 ∧ (lineQ (lineH (headH b (leadOf b) (leadOf b + i + 4)))).1.k = 1)) := by
      unfold hostBad at a6; simpa using a6
    have hp := parse_len (blkH (headH b (leadOf b) (leadOf b + i + 4)))
    rw [a3]
    simp only
    refine ⟨by omega, by omega, hq.1, hq.2.1, by omega, ?_, hq.2.2, hp⟩
    rcases hq.2.2 with h1 | h1
    · exact .inr h1
    · left; omega
  · rw [← hs] at a1; exact absurd h0 a1
end Go.Proofs.YtbbaajlabpjnlaaDoor
