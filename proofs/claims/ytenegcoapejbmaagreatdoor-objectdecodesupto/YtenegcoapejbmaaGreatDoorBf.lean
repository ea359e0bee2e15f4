/- What is told of some bytes is told of them with more behind, and of the head's own bytes; ahead of its last byte there is no head yet. What Print prints, in plain words; a text appended to bytes; the contract of Print. How much a list that came in holds; where its cells lie. A list of fields, and a list of texts, that came in: what the reading says of them. What is printed is read as it was; what is read is good. What is printed as a head, in plain words, and that it is read as it was, whatever stands behind it. slices.Concat of four texts of bytes; the contract of printed. Two requests, two responses that are alike are told as such. The contracts of printed, goodMinor, CopyRequest, CopyResponse. -/
import Derived.Test.YtenegcoapejbmaaGreatDoorBd
import Derived.Test.YtenegcoapejbmaaGreatDoorBc
import Derived.Lib.AppendStr
import Derived.Test.YtenegcoapejbmaaGreatDoorBa
import Derived.Deep.SlicePairs
import Derived.SliceStrings
import Derived.SizedLaws
import Derived.ChangeOld
import Derived.OpenShut
import Derived.ChangeSlices
import Derived.Lib.AppendZeros
import Derived.Test.YtenegcoapejbmaaGreatDoorHdI
namespace Go.Proofs.YtenegcoapejbmaaGreatDoor
open Go.RowKit
theorem lead_take : ∀ (n : Nat) (b : List UInt8) (k : Nat), b.length ≤ n → leadOf b + 2 ≤ k → leadOf (b.take k) = leadOf b := by
  intro n
  induction n with
  | zero => intro b k h _; obtain rfl : b = [] := List.eq_nil_of_length_eq_zero (by omega); simp
  | succ n ih =>
    intro b k h hk
    cases hp : pairB b with
    | false =>
      rw [lead_no b hp]
      apply lead_no
      cases e : pairB (b.take k) with
      | false => rfl
      | true =>
        have := pre_app E2 (b.take k) (b.drop k) e
        rw [List.take_append_drop, show E2.isPrefixOf b = pairB b from rfl, hp] at this; cases this
    | true =>
      rw [lead_yes b hp] at hk ⊢
      obtain ⟨t, rfl⟩ := (pair_iff b).1 hp
      obtain ⟨j, rfl⟩ : ∃ j, k = j + 2 := ⟨k - 2, by omega⟩
      simp at h hk
      have e : pairB (13 :: 10 :: t.take j) = true := (pair_iff _).2 ⟨_, rfl⟩
      rw [show (13 :: 10 :: t).take (j + 2) = 13 :: 10 :: t.take j from rfl, lead_yes _ e]
      simp
      exact ih t j (by omega) (by omega)
theorem index_take (l p : List UInt8) (hp : p ≠ []) (i k : Nat) (h : Lib.index l p = i) (hk : i + p.length ≤ k) : Lib.index (l.take k) p = i := by
  obtain ⟨h1, h2, h3⟩ := index_is l p i h
  have h4 := occ_len _ _ _ hp h2
  have hl : i + p.length ≤ (l.take k).length := by rw [List.length_take]; omega
  refine Lib.index_first (by omega) (occ_cut (l.take k) (l.drop k) p i (by rw [List.take_append_drop]; exact h2) hl) (fun j hj => ?_)
  cases e : Lib.occAt (l.take k) p j with
  | false => rfl
  | true =>
    have := occ_app (l.take k) (l.drop k) p j (by omega) e
    rw [List.take_append_drop, h3 j hj] at this; cases this
theorem index_take_none (l p : List UInt8) (hp : p ≠ []) (i k : Nat) (h : Lib.index l p = i) (hk : k < i + p.length) : Lib.index (l.take k) p = -1 := by
  rcases index_cases (l.take k) p with h1 | ⟨j, h1⟩
  · exact h1
  · obtain ⟨a1, a2, _⟩ := index_is _ _ _ h1
    have a3 := occ_len _ _ _ hp a2
    rw [List.length_take] at a3
    have := occ_app (l.take k) (l.drop k) p j a1 a2
    rw [List.take_append_drop] at this
    obtain ⟨_, _, h3⟩ := index_is l p i h
    rw [h3 j (by omega)] at this; cases this
theorem drop_take' (b : List UInt8) (p n : Nat) : (b.take n).drop p = (b.drop p).take (n - p) := List.drop_take ..
theorem end_take (b : List UInt8) (p i : Nat) (h : Lib.index (b.drop p) E4 = i) (hc : p + i + 4 ≤ 8192) : endOf (b.take (p + i + 4)) p = (p + i + 4, 0) := by
  rw [end_some _ _ i, if_neg (by omega)]
  rw [drop_take']
  exact index_take _ _ (by decide) _ _ h (by show i + 4 ≤ _; omega)
theorem end_short (b : List UInt8) (p i : Nat) (h : Lib.index (b.drop p) E4 = i) (hc : p + i + 4 ≤ 8192) : endOf (b.take (p + i + 3)) p = (0, 0) := by
  rw [end_none, if_neg (by rw [List.length_take]; omega)]
  rw [drop_take']
  exact index_take_none _ _ (by decide) i _ h (by show _ < i + 4; omega)
theorem req_grow (b m : List UInt8) (h : (reqOf b).2.2 ≠ 0 ∨ 0 < (reqOf b).2.1) : reqOf (b ++ m) = reqOf b := by
  have hb := lead_bound b
  have key : Lib.index (b.drop (leadOf b)) E4 ≠ -1 → leadOf (b ++ m) = leadOf b ∧ endOf (b ++ m) (leadOf b) = endOf b (leadOf b) := by
    intro hi
    refine ⟨?_, end_app b m _ hb hi⟩
    rcases index_cases (b.drop (leadOf b)) E4 with h1 | ⟨i, h1⟩
    · exact absurd h1 hi
    · have h3 := occ_len _ _ _ (by decide) (index_is _ _ _ h1).2.1
      rw [List.length_drop, show E4.length = 4 from rfl] at h3
      exact lead_app _ b m (Nat.le_refl _) (by omega)
  by_cases h0 : (endOf b (leadOf b)).1 = 0
  · have r0 := req_none b h0
    rw [r0] at h ⊢
    have h51 : (endOf b (leadOf b)).2 = 51 := by
      rcases end_zero b _ h0 with e | e
      · simp only [e] at h; rcases h with h | h
        · exact absurd rfl h
        · omega
      · exact e
    rw [h51]
    by_cases hi : Lib.index (b.drop (leadOf b)) E4 = -1
    · have hl : 8192 ≤ b.length := by
        rcases Nat.lt_or_ge b.length 8192 with hl | hl
        · rw [end_none _ _ hi, if_neg (by omega)] at h51; cases h51
        · exact hl
      have := end_over b m (leadOf b) (leadOf (b ++ m)) hb (lead_more _ b m (Nat.le_refl _)) hi hl
      rw [req_none _ (by rw [this]), this]
    · obtain ⟨k1, k2⟩ := key hi
      rw [req_none (b ++ m) (by rw [k1, k2]; exact h0), k1, k2, h51]
  · obtain ⟨i, hi, he, hc, hl⟩ := end_facts b _ h0
    obtain ⟨k1, k2⟩ := key (by rw [hi]; omega)
    rw [req_some (b ++ m) (leadOf b + i + 4) (by omega) (by rw [k1, k2, he]), req_some b (leadOf b + i + 4) (by omega) he, k1, headH_app b m _ _ hl]
theorem resp_grow (b m : List UInt8) (h : (respOf b).2.2 ≠ 0 ∨ 0 < (respOf b).2.1) : respOf (b ++ m) = respOf b := by
  by_cases h0 : (endOf b 0).1 = 0
  · have r0 := resp_none b h0
    rw [r0] at h ⊢
    have h51 : (endOf b 0).2 = 51 := by
      rcases end_zero b _ h0 with e | e
      · simp only [e] at h; rcases h with h | h
        · exact absurd rfl h
        · omega
      · exact e
    rw [h51]
    by_cases hi : Lib.index (b.drop 0) E4 = -1
    · have hl : 8192 ≤ b.length := by
        rcases Nat.lt_or_ge b.length 8192 with hl | hl
        · rw [end_none _ _ hi, if_neg (by omega)] at h51; cases h51
        · exact hl
      have := end_over b m 0 0 (by omega) (by omega) hi hl
      rw [resp_none _ (by rw [this]), this]
    · have k2 := end_app b m 0 (by omega) hi
      rw [resp_none (b ++ m) (by rw [k2]; exact h0), k2, h51]
  · obtain ⟨i, hi, he, hc, hl⟩ := end_facts b _ h0
    have k2 := end_app b m 0 (by omega) (by rw [hi]; omega)
    rw [resp_some (b ++ m) (0 + i + 4) (by omega) (by rw [k2, he]), resp_some b (0 + i + 4) (by omega) he, headH_app b m _ _ hl]
/-- where a request is told: of what, and where it ends -/
theorem req_told (b : List UInt8) (h : 0 < (reqOf b).2.1) : ∃ i : Nat, Lib.index (b.drop (leadOf b)) E4 = i ∧ (reqOf b).2.1 = leadOf b + i + 4 ∧ (reqOf b).2.2 = 0 ∧ leadOf b + i + 4 ≤ 8192 ∧ leadOf b + i + 4 ≤ b.length ∧ endOf b (leadOf b) = (leadOf b + i + 4, 0) := by
  by_cases h0 : (endOf b (leadOf b)).1 = 0
  · rw [req_none b h0] at h; simp at h
  · obtain ⟨i, hi, he, hc, hl⟩ := end_facts b _ h0
    have hs := req_some b (leadOf b + i + 4) (by omega) he
    rw [hs] at h ⊢
    rcases reqG_facts (lineQ (lineH (headH b (leadOf b) (leadOf b + i + 4)))) (parseOf (blkH (headH b (leadOf b) (leadOf b + i + 4)))) (leadOf b + i + 4) with ⟨a1, a2, _⟩ | ⟨_, a2⟩
    · exact ⟨i, hi, a2, a1, hc, hl, he⟩
    · rw [a2] at h; simp at h
theorem resp_told (b : List UInt8) (h : 0 < (respOf b).2.1) : ∃ i : Nat, Lib.index (b.drop 0) E4 = i ∧ (respOf b).2.1 = 0 + i + 4 ∧ (respOf b).2.2 = 0 ∧ 0 + i + 4 ≤ 8192 ∧ 0 + i + 4 ≤ b.length ∧ endOf b 0 = (0 + i + 4, 0) := by
  by_cases h0 : (endOf b 0).1 = 0
  · rw [resp_none b h0] at h; simp at h
  · obtain ⟨i, hi, he, hc, hl⟩ := end_facts b _ h0
    have hs := resp_some b (0 + i + 4) (by omega) he
    rw [hs] at h ⊢
    rcases respG_facts (lineR (lineH (headH b 0 (0 + i + 4)))) (parseOf (blkH (headH b 0 (0 + i + 4)))) (0 + i + 4) with ⟨a1, a2⟩ | ⟨_, a2⟩
    · exact ⟨i, hi, a2, a1, hc, hl, he⟩
    · rw [a2] at h; simp at h
/-- of the head's own bytes the same is told -/
theorem req_own (b : List UInt8) (h : 0 < (reqOf b).2.1) : reqOf (b.take (reqOf b).2.1) = reqOf b := by
  obtain ⟨i, hi, hn, _, hc, hl, he⟩ := req_told b h
  have e1 := lead_take _ b (leadOf b + i + 4) (Nat.le_refl _) (by omega)
  rw [hn, req_some (b.take (leadOf b + i + 4)) (leadOf b + i + 4) (by omega) (by rw [e1]; exact end_take b _ i hi hc), e1, headH_take, ← req_some b _ (by omega) he]
/-- ahead of its last byte there is no head yet -/
theorem req_short (b : List UInt8) (h : 0 < (reqOf b).2.1) : reqOf (b.take ((reqOf b).2.1 - 1)) = (Rq.zero, 0, 0) := by
  obtain ⟨i, hi, hn, _, hc, hl, he⟩ := req_told b h
  have e1 := lead_take _ b (leadOf b + i + 3) (Nat.le_refl _) (by omega)
  rw [hn, show leadOf b + i + 4 - 1 = leadOf b + i + 3 by omega]
  have e2 := end_short b (leadOf b) i hi hc
  rw [req_none _ (by rw [e1, e2]), e1, e2]
theorem resp_short (b : List UInt8) (h : 0 < (respOf b).2.1) : respOf (b.take ((respOf b).2.1 - 1)) = (Rs.zero, 0, 0) := by
  obtain ⟨i, hi, hn, _, hc, hl, he⟩ := resp_told b h
  rw [hn, show 0 + i + 4 - 1 = 0 + i + 3 by omega]
  have e2 := end_short b 0 i hi hc
  rw [resp_none _ (by rw [e2]), e2]
/-- where no request is told there are no fields, and no length with an error -/
theorem req_nothing (b : List UInt8) (h : (reqOf b).2.2 ≠ 0 ∨ (reqOf b).2.1 = 0) : (reqOf b).2.1 = 0 ∧ (reqOf b).1.fs = [] := by
  by_cases h0 : (endOf b (leadOf b)).1 = 0
  · rw [req_none b h0]; exact ⟨rfl, rfl⟩
  · obtain ⟨i, hi, he, hc, hl⟩ := end_facts b _ h0
    have hs := req_some b (leadOf b + i + 4) (by omega) he
    rw [hs] at h ⊢
    rcases reqG_facts (lineQ (lineH (headH b (leadOf b) (leadOf b + i + 4)))) (parseOf (blkH (headH b (leadOf b) (leadOf b + i + 4)))) (leadOf b + i + 4) with ⟨a1, a2, _⟩ | ⟨_, a2⟩
    · rcases h with h | h
      · exact absurd a1 h
      · rw [a2] at h; omega
    · rw [a2]; exact ⟨rfl, rfl⟩
theorem lineQ_good (l : List UInt8) (h : (lineQ l).2 = 0) : (lineQ l).1.m ≠ [] ∧ (lineQ l).1.t ≠ [] ∧ ((lineQ l).1.k = 0 ∨ (lineQ l).1.k = 1) := by
  unfold lineQ at h ⊢
  split at h
  · cases h
  · rename_i h1
    split at h
    · rename_i h2
      rw [if_neg h1, if_pos h2]
      simp only [Bool.not_eq_false, Bool.and_eq_true] at h1
      refine ⟨?_, ?_, ?_⟩
      · have := h1.1; unfold isTok at this; intro e; simp only at e; rw [e] at this; simp at this
      · have := h1.2.1; unfold goodT at this; intro e; simp only at e; rw [e] at this; simp at this
      · rcases min_facts (past (past l)) with ⟨_, h3⟩ | ⟨h3, _⟩
        · exact h3
        · rw [h3] at h2; cases h2
    · cases h
/-- what every request that is told has -/
theorem req_host (b : List UInt8) (h : 0 < (reqOf b).2.1) : (reqOf b).2.1 ≤ 8192 ∧ (reqOf b).2.1 ≤ b.length ∧ (reqOf b).1.m ≠ [] ∧ (reqOf b).1.t ≠ [] ∧ hostsOf (reqOf b).1.fs ≤ 1 ∧ (hostsOf (reqOf b).1.fs = 1 ∨ (reqOf b).1.k = 0) ∧ ((reqOf b).1.k = 0 ∨ (reqOf b).1.k = 1) ∧ (reqOf b).1.fs.length ≤ 100 := by
  obtain ⟨i, hi, hn, h0, hc, hl, he⟩ := req_told b h
  have hs := req_some b (leadOf b + i + 4) (by omega) he
  rcases reqG_facts (lineQ (lineH (headH b (leadOf b) (leadOf b + i + 4)))) (parseOf (blkH (headH b (leadOf b) (leadOf b + i + 4)))) (leadOf b + i + 4) with ⟨a1, a2, a3, a4, a5, a6⟩ | ⟨a1, _⟩
  · rw [← hs] at a3
    have hq := lineQ_good _ a4
    have hb : ¬ (1 < hostsOf (parseOf (blkH (headH b (leadOf b) (leadOf b + i + 4)))).1 ∨ (hostsOf (parseOf (blkH (headH b (leadOf b) (leadOf b + i + 4)))).1 = 0 ∧ (lineQ (lineH (headH b (leadOf b) (leadOf b + i + 4)))).1.k = 1)) := by
      unfold hostBad at a6; simpa using a6
    have hp := parse_len (blkH (headH b (leadOf b) (leadOf b + i + 4)))
    rw [a3]
    simp only
    refine ⟨by omega, by omega, hq.1, hq.2.1, by omega, ?_, hq.2.2, hp⟩
    rcases hq.2.2 with h1 | h1
    · exact .inr h1
    · left; omega
  · rw [← hs] at a1; exact absurd h0 a1
end Go.Proofs.YtenegcoapejbmaaGreatDoor
namespace Go.Proofs.YtenegcoapejbmaaGreatDoor
open Go.RowKit
def lineB (f : List UInt8 × List UInt8) : List UInt8 := f.1 ++ [58, 32] ++ f.2 ++ [13, 10]
def printOf (fs : FL) : List UInt8 := (fs.map lineB).flatten
def printP (fs : FL) : List UInt8 × Int := if fs.all goodF = false then ([], 40) else if 100 < fs.length then ([], 42) else (printOf fs, 0)
theorem lineB_len (f : List UInt8 × List UInt8) : (lineB f).length = f.1.length + f.2.length + 4 := by
  unfold lineB; simp only [List.length_append, List.length_cons, List.length_nil]; omega
theorem print_snoc (fs : FL) (j : Nat) (h : j < fs.length) : printOf (fs.take (j + 1)) = printOf (fs.take j) ++ lineB fs[j] := by
  unfold printOf
  rw [List.take_succ_eq_append_getElem h, List.map_append, List.flatten_append]
  simp
theorem print_take (fs : FL) (j : Nat) : (printOf (fs.take j)).length ≤ (printOf fs).length := by
  have e : printOf fs = printOf (fs.take j) ++ printOf (fs.drop j) := by
    unfold printOf
    rw [← List.flatten_append, ← List.map_append, List.take_append_drop]
  rw [e, List.length_append]; omega
/-- a block that holds two texts -/
def Two2 (w : World) (b : Nat) (x y : List UInt8) : Prop := w.heap[b]? = some (.cells #[S x, S y] 76)
theorem two2_cell {w : World} {b : Nat} {x y : List UInt8} (h : Two2 w b x y) : w.cell? ⟨b, 0, none⟩ = some (.string ⟨x.toArray⟩) ∧ w.cell? ⟨b, 1, none⟩ = some (.string ⟨y.toArray⟩) := by
  unfold Two2 at h
  constructor <;> simp [World.cell?, h, S]
theorem two2_new (w : World) (x y : List UInt8) : Two2 (w.alloc (.cells #[S x, S y] 76)) w.heap.size x y := by
  unfold Two2; rw [heap_alloc_new]
/-- a text's bytes appended -/
theorem appStr {ops : Array Oper} {rest : List Oper} {o : Oper} {a : Act} {Q : Exit → Act → World → Prop} {wr : World} (hgd : o.guard = none) (s z : Operand)
    (ho : o.op = .call { callee := .builtin .append, args := #[s, z], argTypes := #[22, 9] }) (w0 : World) (v : Value) (ps : List UInt8) (hs : a.eval s = v) (hown : Own w0 v ps wr)
    (q : List UInt8) (hz : a.eval z = .string ⟨q.toArray⟩) (hlen : ps.length + q.length ≤ 140737488355328)
    (h : ∀ v' w', Own w0 v' (ps ++ q) w' → (∀ b x y, Two2 wr b x y → Two2 w' b x y) → wpList Tryz.prog ops Q rest (a.put o.dst v') w') : wpList Tryz.prog ops Q (o :: rest) a wr := by
  obtain ⟨i0, hi, hz0, hz1, hz2⟩ := info_parts Tryz.info5
  have hsz := hown.2.size
  have hq : (⟨q.toArray⟩ : ByteArray).size = q.length := size_l q
  have hc : Lib.strCells ⟨q.toArray⟩ = q.map B := by unfold Lib.strCells B; simp
  refine Lib.wpList_append_own_string _ hgd s z 22 9 ho w0.heap.size 5 i0 Tryz.underlying22 Tryz.underlying9 hi hz0 hz1 hz2 v ps.length (ps.map B) hs hown.1 ⟨q.toArray⟩ hz (by rw [hq]; unfold maxLen; omega) (by rw [hq]; exact hlen) hsz ?_
  intro v' w' h1 h2 _
  rw [hq, hc] at h1
  refine h v' w' ⟨by rw [List.map_append, List.length_append]; exact h1, ?_⟩ ?_
  · refine Below.grown hown.2 h2 (by omega) ?_
    intro k hk
    exact (hown.1.lt k hk).1
  · intro b x y hb
    unfold Two2 at hb ⊢
    have hlt : b < wr.heap.size := (Array.getElem?_eq_some_iff.1 hb).1
    rw [h2.block b hlt ?_]
    · exact hb
    · intro e
      obtain ⟨_, h3 | ⟨g, cap, cur, hv, _, hh, _⟩⟩ := hown.1
      · rw [h3.1] at e; simp [Value.ownBlock] at e
      · rw [hv] at e
        simp only [Value.ownBlock, Option.some.injEq] at e
        subst e
        rw [hh] at hb
        simp at hb
set_option maxRecDepth 20000 in
set_option maxHeartbeats 4000000 in
theorem printTok (v : Value) (fs : FL) (w : World) (hv : HoldsF w v fs) (hfit : Fit fs) (hl : fs.length ≤ 140737488351232) (hP : (printOf fs).length ≤ 140737488355328) :
    Calls Tryz.prog 54 #[v] w fun e w' => ∃ u, e = .returned (.tuple #[u, .int .i64 (printP fs).2]) ∧ Own w u (printP fs).1 w' := by
  obtain ⟨ao, ca, b1, o1, rfl, hca⟩ := holdsF_parts hv
  have CA : Hid _ := hca
  have FT : Hid _ := hfit
  clear hca hv hfit
  obtain ⟨n, en⟩ : ∃ n, n = fs.length := ⟨_, rfl⟩
  have N : Hid (fs.length = n) := en.symm
  rw [N.out] at hl ⊢
  have HP := hide' hP
  clear en hP
  go_enter Tryz.func54, Tryz.ntmps54
  go_wp2_with fail
  go_loopw [11] (fun i wr => ∃ j : Nat, j ≤ n ∧ i = .int .i64 j ∧ Hid ((fs.take j).all goodF = true) ∧ Hid (Below w.heap.size w wr)) (fun i _ => n - (intOf i).toNat)
  case atStart => exact ⟨0, Nat.zero_le _, rfl, by unfold Hid; simp, Below.refl _ _⟩
  case round =>
    obtain ⟨j, hj, rfl, hg, hb⟩ := hrel
    by_cases hlt : j < n
    · have G : Hid (j < fs.length) := by unfold Hid; rw [N.out]; exact hlt
      obtain ⟨hao, hblt, hcell⟩ := CA.out (by have := G.out; omega)
      subst hao
      obtain ⟨h1, h2⟩ := hcell j G.out
      have c1 : wr.cell? ⟨b1, o1 + j * 2, none⟩ = some (.string ⟨(fs[j]'G.out).1.toArray⟩) := by
        rw [hb.out.cell (p := ⟨b1, o1 + j * 2, none⟩) hblt]; exact h1
      have c2 : wr.cell? ⟨b1, o1 + j * 2 + 1, none⟩ = some (.string ⟨(fs[j]'G.out).2.toArray⟩) := by
        rw [hb.out.cell (p := ⟨b1, o1 + j * 2 + 1, none⟩) hblt]; exact h2
      obtain ⟨hs1, hs2⟩ := fit_at FT.out j G.out
      have cG := fun W => goodTok ⟨(fs[j]'G.out).1.toArray⟩ ⟨(fs[j]'G.out).2.toArray⟩ W (by rw [size_l]; exact hs1) (by rw [size_l]; exact hs2)
      simp only at cG
      clear hcell h1 h2
      cases hgf : goodF (fs[j]'G.out) with
      | true =>
        have R : Hid ((fs.take (j + 1)).all goodF = true) := by
          unfold Hid; rw [List.take_succ_eq_append_getElem G.out, List.all_append, hg.out]; simp [hgf]
        rw [show ((fs[j]'G.out).1, (fs[j]'G.out).2) = fs[j]'G.out from rfl, hgf] at cG
        have CG := hide' cG
        clear cG hgf hs1 hs2
        generalize (fs[j]'G.out).1 = q1 at c1 CG
        generalize (fs[j]'G.out).2 = q2 at c2 CG
        go_wp2_with (go_at_call 70; refine (CG.out _).mono ?_; rintro e w2 ⟨rfl, hb2⟩; have B2 := hide' (bt' (bt' hb.out (below_alloc' wr (.cells #[.string ⟨q1.toArray⟩, .string ⟨q2.toArray⟩] 76))) hb2); clear hb2 c1 c2)
        go_roundw
        case rel => exact ⟨j + 1, by omega, by go_num, R, B2⟩
        case measure => simp [intOf]; omega
      | false =>
        have R : Hid (printP fs = ([], 40)) := by
          unfold Hid printP
          rw [if_pos]
          rw [Bool.eq_false_iff]
          intro h
          have := List.all_eq_true.1 h _ (List.getElem_mem G.out)
          rw [hgf] at this
          cases this
        rw [show ((fs[j]'G.out).1, (fs[j]'G.out).2) = fs[j]'G.out from rfl, hgf] at cG
        have CG := hide' cG
        clear cG hgf hs1 hs2
        generalize (fs[j]'G.out).1 = q1 at c1 CG
        generalize (fs[j]'G.out).2 = q2 at c2 CG
        go_wp2_with (go_at_call 70; refine (CG.out _).mono ?_; rintro e w2 ⟨rfl, hb2⟩; have B2 := hide' (bt' (bt' hb.out (below_alloc' wr (.cells #[.string ⟨q1.toArray⟩, .string ⟨q2.toArray⟩] 76))) hb2); clear hb2 c1 c2)
        go_ret2
        rw [R.out]
        exact ⟨_, rfl, own_nil _ _ B2.out⟩
    · have hall : fs.all goodF = true := by
        have := hg.out; rwa [List.take_of_length_le (by rw [N.out]; omega)] at this
      by_cases h100 : 100 < n
      · have R : Hid (printP fs = ([], 42)) := by
          unfold Hid printP
          rw [if_neg (by rw [hall]; simp), if_pos (by rw [N.out]; exact h100)]
        clear hall
        go_wp2_with fail
        go_ret2
        rw [R.out]
        exact ⟨_, rfl, own_nil _ _ hb.out⟩
      · have R : Hid (printP fs = (printOf fs, 0)) := by
          unfold Hid printP
          rw [if_neg (by rw [hall]; simp), if_neg (by rw [N.out]; exact h100)]
        clear hall
        obtain ⟨wa, ewa⟩ : ∃ wa, wa = wr := ⟨_, rfl⟩
        rw [← ewa] at hb ⊢
        clear ewa
        go_wp2_with fail
        go_loopw [6, 24] (fun v i wr => ∃ j : Nat, j ≤ n ∧ i = .int .i64 j ∧ Hid (Own wa v (printOf (fs.take j)) wr)) (fun _ i _ => n - (intOf i).toNat)
        case atStart => exact ⟨0, Nat.zero_le _, rfl, own_nil _ _ (Below.refl _ _)⟩
        case round =>
          obtain ⟨j, hj, rfl, ho⟩ := hrel
          by_cases hlt : j < n
          · have G : Hid (j < fs.length) := by unfold Hid; rw [N.out]; exact hlt
            obtain ⟨hao, hblt, hcell⟩ := CA.out (by have := G.out; omega)
            subst hao
            obtain ⟨h1, h2⟩ := hcell j G.out
            have hblta : b1 < wa.heap.size := Nat.lt_of_lt_of_le hblt hb.out.size
            have c1 : wr.cell? ⟨b1, o1 + j * 2, none⟩ = some (.string ⟨(fs[j]'G.out).1.toArray⟩) := by
              rw [ho.out.2.cell (p := ⟨b1, o1 + j * 2, none⟩) hblta, hb.out.cell (p := ⟨b1, o1 + j * 2, none⟩) hblt]; exact h1
            have c2 : wr.cell? ⟨b1, o1 + j * 2 + 1, none⟩ = some (.string ⟨(fs[j]'G.out).2.toArray⟩) := by
              rw [ho.out.2.cell (p := ⟨b1, o1 + j * 2 + 1, none⟩) hblta, hb.out.cell (p := ⟨b1, o1 + j * 2 + 1, none⟩) hblt]; exact h2
            have R : Hid (printOf (fs.take (j + 1)) = printOf (fs.take j) ++ (fs[j]'G.out).1 ++ [58, 32] ++ (fs[j]'G.out).2 ++ [13, 10]) := by
              unfold Hid; rw [print_snoc fs j G.out]; unfold lineB; simp only [List.append_assoc]
            have LN : Hid ((printOf (fs.take j)).length + (fs[j]'G.out).1.length + (fs[j]'G.out).2.length + 4 ≤ 140737488355328) := by
              unfold Hid
              have t1 := print_take fs (j + 1)
              rw [print_snoc fs j G.out, List.length_append, lineB_len] at t1
              have t2 := HP.out
              omega
            clear hcell h1 h2
            generalize (fs[j]'G.out).1 = q1 at c1 R LN
            generalize (fs[j]'G.out).2 = q2 at c2 R LN
            generalize printOf (fs.take j) = acc at ho R LN
            have T0 := hide' (two2_new wr q1 q2)
            have O0 := hide' (own_mono ho.out (below_alloc' wr (.cells #[S q1, S q2] 76)))
            go_wp2_with (first
              | (at_builtin; refine appStr rfl (.tmp 28) (.tmp 30) rfl wa _ acc rfl O0.out q1 rfl (by have := LN.out; omega) ?_; intro v2 w2 ho2 k2; have O2 := hide' ho2; have T2 := hide' (k2 _ _ _ T0.out); have d2 := (two2_cell T2.out).2; clear ho2 k2 T0 O0 c1 c2)
              | (at_builtin; refine appStr rfl (.tmp 32) _ rfl wa _ _ rfl O2.out [58, 32] rfl (by have := LN.out; simp only [List.length_append, List.length_cons, List.length_nil]; omega) ?_; intro v3 w3 ho3 k3; have O3 := hide' ho3; have T3 := hide' (k3 _ _ _ T2.out); have d3 := (two2_cell T3.out).2; clear ho3 k3 T2 O2 d2)
              | (at_builtin; refine appStr rfl (.tmp 34) (.tmp 36) rfl wa _ _ rfl O3.out q2 rfl (by have := LN.out; simp only [List.length_append, List.length_cons, List.length_nil]; omega) ?_; intro v4 w4 ho4 k4; have O4 := hide' ho4; clear ho4 k4 T3 O3 d3)
              | (at_builtin; refine appStr rfl (.tmp 38) _ rfl wa _ _ rfl O4.out [13, 10] rfl (by have := LN.out; simp only [List.length_append, List.length_cons, List.length_nil]; omega) ?_; intro v5 w5 ho5 k5; have O5 := hide' ho5; clear ho5 k5 O4))
            go_roundw
            case rel => exact ⟨j + 1, by omega, by go_num, by unfold Hid; rw [R.out]; exact O5.out⟩
            case measure => simp [intOf]; omega
          · have E : Hid (fs.take j = fs) := List.take_of_length_le (by rw [N.out]; omega)
            rw [E.out] at ho
            go_wp2_with fail
            go_ret2
            rw [R.out]
            exact ⟨_, rfl, own_base ho.out hb.out⟩
end Go.Proofs.YtenegcoapejbmaaGreatDoor
namespace Go.Proofs.YtenegcoapejbmaaGreatDoor
open Go.ChangeShapes Go.WideShapes Go.ChangeAt Go.RowKit
/-- how many letters and values fields hold -/
def bulkF : FL → Nat
  | [] => 0
  | f :: r => f.1.length + f.2.length + 3 + bulkF r
def bulkT : List (List UInt8) → Nat
  | [] => 0
  | f :: r => f.length + 1 + bulkT r
theorem bulkF_len (fs : FL) : fs.length ≤ bulkF fs := by
  induction fs with
  | nil => simp [bulkF]
  | cons f r ih => simp only [bulkF, List.length_cons]; omega
theorem bulkF_mem (fs : FL) : ∀ f ∈ fs, f.1.length + f.2.length ≤ bulkF fs := by
  induction fs with
  | nil => intro f hf; cases hf
  | cons g r ih =>
    intro f hf
    simp only [bulkF]
    rcases List.mem_cons.1 hf with rfl | hf
    · omega
    · have := ih f hf; omega
theorem bulkT_len (l : List (List UInt8)) : l.length ≤ bulkT l := by
  induction l with
  | nil => simp [bulkT]
  | cons f r ih => simp only [bulkT, List.length_cons]; omega
theorem bulkT_mem (l : List (List UInt8)) : ∀ f ∈ l, f.length ≤ bulkT l := by
  induction l with
  | nil => intro f hf; cases hf
  | cons g r ih =>
    intro f hf
    simp only [bulkT]
    rcases List.mem_cons.1 hf with rfl | hf
    · omega
    · have := ih f hf; omega
theorem weight_all {H : Type} {P : Program} {e : TypeId} {d : DataW H} {n : Nat} (hn : n ∈ d.weights P e) : ∀ {l : List (DataW H)}, d ∈ l → n ∈ DataW.weightsAll P e l
  | [], h => by cases h
  | x :: r, h => by
    simp only [DataW.weightsAll, List.mem_append]
    rcases List.mem_cons.1 h with rfl | h
    · exact Or.inl hn
    · exact Or.inr (weight_all hn h)
theorem addr_at {W : World} {a : Addr} {u : Value} (h : W.cell? (a.add 0) = some u) : ∃ b off, a = ⟨b, off, none⟩ ∧ b < W.heap.size := by
  obtain ⟨b, off, spot⟩ := a
  have hspot : spot = none := by simpa [Addr.add] using World.cell?_spot h
  subst hspot
  refine ⟨b, off, rfl, ?_⟩
  rcases Nat.lt_or_ge b W.heap.size with hlt | hge
  · exact hlt
  · rw [Go.WideShapes.add_plain] at h
    unfold World.cell? at h
    rw [Array.getElem?_eq_none hge] at h
    cases h
theorem laidOut : laidOutB Tryz.prog = true := by kernel_rfl
theorem bulk_lits {H : Type} (l : List Int) : Rows.uptoBulkAll (H := H) (lits .u8 l) = l.length := by
  induction l with
  | nil => rfl
  | cons f r ih =>
    show Rows.uptoBulk (.lit (.int .u8 f)) + Rows.uptoBulkAll (lits .u8 r) = _
    rw [ih]
    simp only [Rows.uptoBulk, List.length_cons]
    omega
theorem byte_wf {n : Int} (h : (Lit.int .u8 n).wf = true) : 0 ≤ n ∧ n < 256 := by
  have h1 : IntKind.u8.min = 0 := rfl
  have h2 : IntKind.u8.max = 255 := rfl
  simp only [Lit.wf, Bool.and_eq_true, decide_eq_true_eq] at h
  omega
end Go.Proofs.YtenegcoapejbmaaGreatDoor
namespace Go.Proofs.YtenegcoapejbmaaGreatDoor
open Go.ChangeShapes Go.WideShapes Go.ChangeAt Go.RowKit
def strOf : Value → ByteArray
  | .string s => s
  | _ => ByteArray.empty
def fieldD {H : Type} (f : List UInt8 × List UInt8) : DataW H := .agg [.lit (.string f.1), .lit (.string f.2)]
theorem bulk_fieldD {H : Type} (fs : FL) : Rows.uptoBulkAll (H := H) (fs.map fieldD) = bulkF fs := by
  induction fs with
  | nil => rfl
  | cons f r ih =>
    show Rows.uptoBulk (fieldD f) + Rows.uptoBulkAll (r.map fieldD) = _
    rw [ih]
    simp only [fieldD, Rows.uptoBulk, Rows.uptoBulkAll, bulkF]
    omega
theorem bulk_texts {H : Type} (l : List (List UInt8)) : Rows.uptoBulkAll (H := H) (l.map fun s => .lit (.string s)) = bulkT l := by
  induction l with
  | nil => rfl
  | cons f r ih =>
    show Rows.uptoBulk (.lit (.string f)) + Rows.uptoBulkAll (r.map fun s => .lit (.string s)) = _
    rw [ih]
    simp only [Rows.uptoBulk, bulkT]
set_option maxRecDepth 100000 in
theorem open_fieldsS {H : Type} {enc : TypeId × Value → H} {W : World} {v : Value} {d : DataW H} {p : List MemPlace} (hform : ∃ a l c, v = .slice a l c) (h : DataW.Trod enc Tryz.prog W 0 (fun _ => true) true 25 v d p) :
    ∃ fs : FL, HoldsF W v fs ∧ bulkF fs + 1 ≤ Rows.uptoBulk d ∧ ((∀ n ∈ d.weights Tryz.prog 25, n ≤ reachBytes) → fs.length * 32 ≤ reachBytes ∧ ∀ f ∈ fs, f.1.length ≤ reachBytes ∧ f.2.length ≤ reachBytes) := by
  obtain ⟨a0, len0, cap0, rfl⟩ := hform
  obtain ⟨fuel, hf⟩ := h
  rcases Go.Deep.open_slice_pairs Tryz.underlying25 Tryz.underlying76 (by kernel_rfl) rfl rfl (by kernel_rfl) (by kernel_rfl) hf with ⟨hcs, hx⟩ | ⟨a, len, cap, m, n, V0, V1, D0, D1, P0, P1, hcs, _, hl, hm, hmm, hx, hcell⟩
  · simp [Value.cells] at hcs
    obtain ⟨rfl, rfl, rfl⟩ := hcs
    simp only [Prod.mk.injEq] at hx
    obtain ⟨rfl, _⟩ := hx
    exact ⟨[], holdsF_lit0 W, by simp [bulkF, Rows.uptoBulk], fun _ => ⟨by simp, fun f hf => by cases hf⟩⟩
  · simp [Value.cells] at hcs
    obtain ⟨rfl, rfl, rfl⟩ := hcs
    simp only [Prod.mk.injEq] at hx
    obtain ⟨hd, _⟩ := hx
    have hmm' : m = cap0 := by simpa using hmm
    subst hmm'
    have E : ∀ i, i < m → V0 i = .string (strOf (V0 i)) ∧ V1 i = .string (strOf (V1 i)) ∧ D0 i = .lit (.string (strOf (V0 i)).data.toList) ∧ D1 i = .lit (.string (strOf (V1 i)).data.toList) := by
      intro i hi
      obtain ⟨_, _, t0, t1⟩ := hcell i hi
      obtain ⟨s0, e0, x0, _⟩ := DataW.trod_string Tryz.underlying9 t0
      obtain ⟨s1, e1, x1, _⟩ := DataW.trod_string Tryz.underlying9 t1
      simp only [List.cons.injEq, and_true] at e0 e1
      simp only [Prod.mk.injEq] at x0 x1
      rw [e0, e1, x0.1, x1.1]
      exact ⟨rfl, rfl, rfl, rfl⟩
    have hes : ∀ k o : Nat, o + k ≤ m → (List.range k).map (fun i => DataW.agg (H := H) [D0 (o + i), D1 (o + i)]) = ((List.range k).map fun i => ((strOf (V0 (o + i))).data.toList, (strOf (V1 (o + i))).data.toList)).map fieldD := by
      intro k o hk
      rw [List.map_map]
      apply List.map_congr_left
      intro i hi
      have hi' := List.mem_range.1 hi
      obtain ⟨_, _, d0, d1⟩ := E (o + i) (by omega)
      simp only [Function.comp, fieldD]
      rw [d0, d1]
    obtain ⟨fs, efs⟩ : ∃ fs : FL, fs = (List.range len0).map fun i => ((strOf (V0 i)).data.toList, (strOf (V1 i)).data.toList) := ⟨_, rfl⟩
    have hlen : fs.length = len0 := by rw [efs]; simp
    have h1 := hes len0 0 (by omega)
    simp only [Nat.zero_add] at h1
    rw [h1, ← efs] at hd
    refine ⟨fs, ⟨some a, m, by rw [hlen], (fun e => by cases e), by omega, fun hne => ?_⟩, ?_, ?_⟩
    · have hp : 0 < len0 := by
        rcases Nat.eq_zero_or_pos len0 with h | h
        · exact absurd (List.eq_nil_of_length_eq_zero (hlen.trans h)) hne
        · exact h
      have c0 := (hcell 0 (by omega)).1
      rw [Nat.zero_mul] at c0
      obtain ⟨b, off, rfl, hlt⟩ := addr_at c0
      refine ⟨b, off, rfl, hlt, fun j hj => ?_⟩
      obtain ⟨x0, x1, _, _⟩ := hcell j (by omega)
      obtain ⟨v0, v1, _, _⟩ := E j (by omega)
      rw [Go.WideShapes.add_plain] at x0 x1
      rw [Nat.add_assoc, x0, x1, v0, v1]
      subst efs
      simp [S, strOf]
    · rw [hd]
      simp only [Rows.uptoBulk, bulk_fieldD]
      omega
    · intro hw
      have hub : Tryz.prog.bytesOf 76 = 32 := by kernel_rfl
      rw [hd] at hw
      simp only [DataW.weights, Tryz.underlying25, List.mem_cons, List.mem_append, forall_eq_or_imp, hub] at hw
      obtain ⟨hw1, hw2⟩ := hw
      refine ⟨?_, fun f hf => ?_⟩
      · rw [List.length_map] at hw1
        omega
      · have mem : fieldD f ∈ fs.map (fieldD (H := H)) := List.mem_map.2 ⟨f, hf, rfl⟩
        constructor
        · refine hw2 _ (Or.inl (weight_all ?_ mem))
          simp [fieldD, DataW.weights, Tryz.underlying76, DataW.weightsEach]
        · refine hw2 _ (Or.inl (weight_all ?_ mem))
          simp [fieldD, DataW.weights, Tryz.underlying76, DataW.weightsEach]
set_option maxRecDepth 100000 in
theorem open_fields {H : Type} {enc : TypeId × Value → H} {W : World} {base : Nat} {v : Value} {d : DataW H} {p : List MemPlace} (hok : Value.okWide Tryz.prog W .any base 25 v) (h : DataW.Trod enc Tryz.prog W 0 (fun _ => true) true 25 v d p) :
    ∃ fs : FL, HoldsF W v fs ∧ bulkF fs + 1 ≤ Rows.uptoBulk d ∧ ((∀ n ∈ d.weights Tryz.prog 25, n ≤ reachBytes) → fs.length * 32 ≤ reachBytes ∧ ∀ f ∈ fs, f.1.length ≤ reachBytes ∧ f.2.length ≤ reachBytes) :=
  open_fieldsS (okWide_slice Tryz.underlying25 hok) h
end Go.Proofs.YtenegcoapejbmaaGreatDoor
namespace Go.Proofs.YtenegcoapejbmaaGreatDoor
open Go.RowKit
theorem dw_self {p : UInt8 → Bool} {l : List UInt8} (h : (l.dropWhile p).length = l.length) : l = [] ∨ ∃ c t, l = c :: t ∧ p c = false := by
  cases l with
  | nil => exact Or.inl rfl
  | cons c t =>
    right
    refine ⟨c, t, rfl, ?_⟩
    cases hp : p c with
    | false => rfl
    | true =>
      rw [List.dropWhile_cons, hp] at h
      have := dropWhile_len p t
      simp only [if_true, List.length_cons] at h
      omega
theorem trim_blank (v : List UInt8) (h : trimT v = v) : trimT (32 :: v) = v := by
  have h0 := h
  unfold trimT Lib.trimS Lib.trimLeftS Lib.trimRightS at h
  have hl := congrArg List.length h
  have a1 := dropWhile_len (fun x => ([32, 9] : List UInt8).contains x) v.reverse
  have a2 := dropWhile_len (fun x => ([32, 9] : List UInt8).contains x) (List.dropWhile (fun x => ([32, 9] : List UInt8).contains x) v.reverse).reverse
  rw [List.length_reverse] at a1 a2
  have e1 : (v.reverse.dropWhile (fun x => ([32, 9] : List UInt8).contains x)).length = v.reverse.length := by rw [List.length_reverse]; omega
  have hr : (32 :: v).reverse = v.reverse ++ [32] := by simp
  unfold trimT Lib.trimS Lib.trimLeftS Lib.trimRightS
  rw [hr]
  rcases dw_self e1 with e | ⟨c, t, e, hc⟩
  · have : v = [] := by simpa using e
    subst this
    rfl
  · have e2 : v = (c :: t).reverse := by rw [← e]; simp
    have e3 : (v.reverse ++ [32]).dropWhile (fun x => ([32, 9] : List UInt8).contains x) = v.reverse ++ [32] := by
      rw [e, List.cons_append, List.dropWhile_cons, if_neg (by rw [hc]; simp)]
    have e4 : v.reverse.dropWhile (fun x => ([32, 9] : List UInt8).contains x) = v.reverse := by
      rw [e, List.dropWhile_cons, if_neg (by rw [hc]; simp)]
    rw [e4, List.reverse_reverse] at h
    rw [e3, List.reverse_append, List.reverse_reverse]
    show List.dropWhile _ (32 :: v) = v
    rw [List.dropWhile_cons, if_pos (by decide)]
    exact h
theorem tok_facts (c : UInt8) (h : tokI (c.toNat : Int) = true) : isEnd c = false ∧ noCol c = true ∧ blankI (c.toNat : Int) = false := by
  have : ∀ n : Nat, n < 256 → tokI ((UInt8.ofNat n).toNat : Int) = true → isEnd (UInt8.ofNat n) = false ∧ noCol (UInt8.ofNat n) = true ∧ blankI ((UInt8.ofNat n).toNat : Int) = false := by decide +kernel
  have k := this c.toNat c.toNat_lt
  rw [UInt8.ofNat_toNat] at k
  exact k h
theorem txt_facts (c : UInt8) (h : txt c = true) : isEnd c = false := by
  have : ∀ n : Nat, n < 256 → txt (UInt8.ofNat n) = true → isEnd (UInt8.ofNat n) = false := by decide +kernel
  have k := this c.toNat c.toNat_lt
  rw [UInt8.ofNat_toNat] at k
  exact k h
theorem good_parts {f : List UInt8 × List UInt8} (h : goodF f = true) : (∃ c t, f.1 = c :: t) ∧ (∀ c ∈ f.1, tokI (c.toNat : Int) = true) ∧ (∀ c ∈ f.2, txt c = true) ∧ trimT f.2 = f.2 := by
  unfold goodF isTok goodV at h
  simp only [Bool.and_eq_true, Bool.not_eq_true', decide_eq_true_eq, List.all_eq_true] at h
  obtain ⟨⟨h1, h2⟩, h3, h4⟩ := h
  refine ⟨?_, h2, h3, h4⟩
  cases hf : f.1 with
  | nil => rw [hf] at h1; simp at h1
  | cons c t => exact ⟨c, t, rfl⟩
theorem step_line : ∀ (l r : List UInt8), (∀ c ∈ l, isEnd c = false) → stepOf (l ++ 13 :: 10 :: r) = some (l, r) := by
  intro l
  induction l with
  | nil => intro r _; simp [stepOf]
  | cons b t ih =>
    intro r h
    have hb := h b (List.mem_cons_self ..)
    have h13 : b ≠ 13 := by intro e; subst e; exact absurd hb (by decide)
    have h10 : b ≠ 10 := by intro e; subst e; exact absurd hb (by decide)
    rw [List.cons_append, stepOf.eq_def]
    simp only
    rw [if_neg h13, if_neg h10, ih r (fun c hc => h c (List.mem_cons_of_mem _ hc))]
    rfl
theorem line_print (f : List UInt8 × List UInt8) (h : goodF f = true) : lineOf (f.1 ++ 58 :: 32 :: f.2) = (f, 0) := by
  obtain ⟨⟨c, t, e⟩, htok, _, htrim⟩ := good_parts h
  have hb : blankFirst (f.1 ++ 58 :: 32 :: f.2) = false := by
    rw [e, List.cons_append]
    exact (tok_facts c (htok c (by rw [e]; exact List.mem_cons_self ..))).2.2
  have ha : (f.1 ++ 58 :: 32 :: f.2).all noCol = false := by
    rw [List.all_append, List.all_cons, show noCol 58 = false from by decide]; simp
  have hn : nameOf (f.1 ++ 58 :: 32 :: f.2) = f.1 := by
    unfold nameOf
    rw [List.takeWhile_append_of_pos (fun a ha => (tok_facts a (htok a ha)).2.1), List.takeWhile_cons, if_neg (by decide), List.append_nil]
  have hr : restOf (f.1 ++ 58 :: 32 :: f.2) = 32 :: f.2 := by
    unfold restOf
    rw [List.dropWhile_append_of_pos (fun a ha => (tok_facts a (htok a ha)).2.1), List.dropWhile_cons, if_neg (by decide)]
    rfl
  unfold lineOf
  rw [if_neg (by rw [hb]; simp), if_neg (by rw [ha]; simp), hn, hr, trim_blank f.2 htrim, if_pos (by exact h)]
theorem parse_print : ∀ (fs acc : FL), fs.all goodF = true → acc.length + fs.length ≤ 100 → parseG (printOf fs) acc = (acc ++ fs, 0) := by
  intro fs
  induction fs with
  | nil => intro acc _ _; rw [List.append_nil]; exact parse_nil acc
  | cons f r ih =>
    intro acc h hl
    rw [List.all_cons, Bool.and_eq_true] at h
    rw [List.length_cons] at hl
    obtain ⟨_, htok, htxt, _⟩ := good_parts h.1
    have e : printOf (f :: r) = (f.1 ++ 58 :: 32 :: f.2) ++ 13 :: 10 :: printOf r := by
      unfold printOf lineB; simp
    have hs : stepOf (printOf (f :: r)) = some (f.1 ++ 58 :: 32 :: f.2, printOf r) := by
      rw [e]
      refine step_line _ _ (fun c hc => ?_)
      rcases List.mem_append.1 hc with hc | hc
      · exact (tok_facts c (htok c hc)).1
      · rcases List.mem_cons.1 hc with rfl | hc
        · decide
        · rcases List.mem_cons.1 hc with rfl | hc
          · decide
          · exact txt_facts c (htxt c hc)
    have hp := line_print f h.1
    rw [parse_next _ _ _ acc hs (by rw [hp]) (by omega), hp, ih _ h.2 (by rw [List.length_append, List.length_singleton]; omega), List.append_assoc]
    rfl
theorem parse_printP (fs : FL) (h : (printP fs).2 = 0) : parseOf (printP fs).1 = (fs, 0) := by
  unfold printP at h ⊢
  by_cases h1 : fs.all goodF = false
  · rw [if_pos h1] at h; cases h
  · by_cases h2 : 100 < fs.length
    · rw [if_neg h1, if_pos h2] at h; cases h
    · rw [if_neg h1, if_neg h2]
      exact parse_print fs [] (by simpa using h1) (by simpa using Nat.le_of_not_lt h2)
theorem printP_bad (fs : FL) (h : (printP fs).2 ≠ 0) : (printP fs).1 = [] := by
  unfold printP at h ⊢
  by_cases h1 : fs.all goodF = false
  · rw [if_pos h1]
  · by_cases h2 : 100 < fs.length
    · rw [if_neg h1, if_pos h2]
    · rw [if_neg h1, if_neg h2] at h; exact absurd rfl h
theorem line_good (l : List UInt8) (h : (lineOf l).2 = 0) : goodF (lineOf l).1 = true ∧ (lineOf l).1.1.length + (lineOf l).1.2.length + 1 ≤ l.length := by
  unfold lineOf at h ⊢
  by_cases h1 : blankFirst l = true
  · rw [if_pos h1] at h; cases h
  · by_cases h2 : l.all noCol = true
    · rw [if_neg h1, if_pos h2] at h; cases h
    · by_cases h3 : goodF (nameOf l, trimT (restOf l)) = true
      · rw [if_neg h1, if_neg h2, if_pos h3]
        refine ⟨h3, ?_⟩
        have t1 := trimT_len (restOf l)
        have e : l = nameOf l ++ l.dropWhile noCol := (List.takeWhile_append_dropWhile).symm
        have el := congrArg List.length e
        rw [List.length_append] at el
        have hne : l.dropWhile noCol ≠ [] := by
          intro e0
          rw [e0, List.append_nil] at e
          apply h2
          rw [List.all_eq_true]
          intro x hx
          rw [e] at hx
          exact List.all_eq_true.1 (List.all_takeWhile (p := noCol) (l := l)) x hx
        have hp : 0 < (l.dropWhile noCol).length := List.length_pos_iff.2 hne
        have hd : (restOf l).length = (l.dropWhile noCol).length - 1 := by unfold restOf; rw [List.length_drop]
        show (nameOf l).length + (trimT (restOf l)).length + 1 ≤ l.length
        omega
      · rw [if_neg h1, if_neg h2, if_neg h3] at h; cases h
theorem print_app (a b : FL) : (printOf (a ++ b)).length = (printOf a).length + (printOf b).length := by
  unfold printOf; rw [List.map_append, List.flatten_append, List.length_append]
theorem parseF_good : ∀ (n : Nat) (bs : List UInt8) (acc : FL), acc.all goodF = true → ((parseF n bs acc).2 = 0 → (parseF n bs acc).1.all goodF = true) ∧ (printOf (parseF n bs acc).1).length ≤ (printOf acc).length + 2 * bs.length ∧ ((parseF n bs acc).2 ≠ 0 → (parseF n bs acc).1 = []) := by
  intro n
  induction n with
  | zero => intro bs acc h; exact ⟨fun _ => h, by show (printOf acc).length ≤ _; omega, fun e => absurd rfl e⟩
  | succ n ih =>
    intro bs acc h
    unfold parseF
    by_cases h0 : bs = []
    · rw [if_pos h0]; exact ⟨fun _ => h, by show (printOf acc).length ≤ _; omega, fun e => absurd rfl e⟩
    · rw [if_neg h0]
      cases hs : stepOf bs with
      | none => exact ⟨(fun e => by cases e), by simp [printOf], fun _ => rfl⟩
      | some p =>
        obtain ⟨l, r⟩ := p
        have hl := step_len hs
        simp only
        by_cases h1 : (lineOf l).2 ≠ 0
        · rw [if_pos h1]; exact ⟨fun e => absurd e h1, by simp [printOf], fun _ => rfl⟩
        · rw [if_neg h1]
          by_cases h2 : 100 ≤ acc.length
          · rw [if_pos h2]; exact ⟨(fun e => by cases e), by simp [printOf], fun _ => rfl⟩
          · rw [if_neg h2]
            obtain ⟨g1, g2⟩ := line_good l (Classical.not_not.1 h1)
            obtain ⟨i1, i2, i3⟩ := ih r (acc ++ [(lineOf l).1]) (by rw [List.all_append, h]; simp [g1])
            refine ⟨i1, ?_, i3⟩
            rw [print_app] at i2
            have e : (printOf [(lineOf l).1]).length = (lineOf l).1.1.length + (lineOf l).1.2.length + 4 := by
              unfold printOf; simp only [List.map_cons, List.map_nil, List.flatten_cons, List.flatten_nil, List.append_nil]; exact lineB_len _
            omega
theorem parse_good (bs : List UInt8) (h : (parseOf bs).2 = 0) : printP (parseOf bs).1 = (printOf (parseOf bs).1, 0) := by
  have g := (parseF_good (bs.length + 1) bs [] rfl).1 h
  have l := parse_len bs
  have g' : (parseOf bs).1.all goodF = true := g
  unfold printP
  rw [if_neg (by rw [g']; simp), if_neg (by omega)]
theorem parse_plen (bs : List UInt8) : (printOf (parseOf bs).1).length ≤ 2 * bs.length := by
  have h := (parseF_good (bs.length + 1) bs [] rfl).2.1
  have e : (printOf []).length = 0 := rfl
  rw [e, Nat.zero_add] at h
  exact h
theorem parse_bad0 (bs : List UInt8) (h : (parseOf bs).2 ≠ 0) : (parseOf bs).1 = [] := (parseF_good (bs.length + 1) bs [] rfl).2.2 h
theorem print_mem (fs : FL) : ∀ f ∈ fs, f.1.length + f.2.length ≤ (printOf fs).length := by
  induction fs with
  | nil => intro f hf; cases hf
  | cons g r ih =>
    intro f hf
    have e : (printOf (g :: r)).length = (lineB g).length + (printOf r).length := by unfold printOf; simp
    have e2 := lineB_len g
    rcases List.mem_cons.1 hf with rfl | hf
    · omega
    · have := ih f hf; omega
theorem print_bulk (fs : FL) : (printOf fs).length ≤ 2 * bulkF fs := by
  induction fs with
  | nil => simp [printOf, bulkF]
  | cons g r ih =>
    have e : (printOf (g :: r)).length = (lineB g).length + (printOf r).length := by unfold printOf; simp
    have e2 := lineB_len g
    simp only [bulkF]
    omega
end Go.Proofs.YtenegcoapejbmaaGreatDoor
namespace Go.Proofs.YtenegcoapejbmaaGreatDoor
open Go.RowKit
def M7 : List UInt8 := [72, 84, 84, 80, 47, 49, 46]
def minD (k : Int) : List UInt8 := if k = 1 then [49] else [48]
def stD (s : Int) : List UInt8 := [UInt8.ofNat (48 + s.toNat / 100), UInt8.ofNat (48 + s.toNat / 10 % 10), UInt8.ofNat (48 + s.toNat % 10)]
def goodK (k : Int) : Bool := decide (k = 0 ∨ k = 1)
def lineP (r : Rq) : List UInt8 := r.m ++ 32 :: (r.t ++ 32 :: (M7 ++ minD r.k))
def lineS (s : Rs) : List UInt8 := (M7 ++ minD s.k) ++ 32 :: (stD s.s ++ 32 :: s.r)
def wholeP (line : List UInt8) (fs : FL) : List UInt8 × Int :=
  if (printP fs).2 ≠ 0 then ([], (printP fs).2) else if 8192 < line.length + (printP fs).1.length + 4 then ([], 51) else (line ++ 13 :: 10 :: ((printP fs).1 ++ [13, 10]), 0)
def prQ (r : Rq) : List UInt8 × Int := if (isTok r.m && (goodT r.t && goodK r.k)) = false then ([], 50) else wholeP (lineP r) r.fs
def prR (s : Rs) : List UInt8 × Int := if (goodK s.k && s.r.all txt) = false then ([], 50) else if goodS s.s = false then ([], 53) else wholeP (lineS s) s.fs
def clean (l : List UInt8) : Prop := ∀ c ∈ l, isEnd c = false
theorem clean_app {a b : List UInt8} (ha : clean a) (hb : clean b) : clean (a ++ b) := by
  intro c hc; rcases List.mem_append.1 hc with h | h
  · exact ha c h
  · exact hb c h
theorem clean_cons {c : UInt8} {l : List UInt8} (hc : isEnd c = false) (hl : clean l) : clean (c :: l) := by
  intro d hd; rcases List.mem_cons.1 hd with rfl | h
  · exact hc
  · exact hl d h
theorem no13 {c : UInt8} (h : isEnd c = false) : c ≠ 13 := by intro e; subst e; exact absurd h (by decide)
/-- a pattern that opens with 13 stands at none of the clean bytes -/
theorem occ_clean (x y p : List UInt8) (hx : clean x) (j : Nat) (hj : j < x.length) : Lib.occAt (x ++ y) (13 :: p) j = false := by
  unfold Lib.occAt
  rw [List.drop_append_of_le_length (by omega), List.drop_eq_getElem_cons hj, List.cons_append, List.isPrefixOf_cons_cons]
  have := no13 (hx x[j] (List.getElem_mem hj))
  have e : ((13 : UInt8) == x[j]) = false := by rw [beq_eq_false_iff_ne]; exact fun e => this e.symm
  rw [e]; rfl
theorem idx_line2 (x y : List UInt8) (hx : clean x) : Lib.index (x ++ 13 :: 10 :: y) E2 = x.length := by
  refine Lib.index_first (by simp) ?_ (fun j hj => occ_clean x _ [10] hx j hj)
  unfold Lib.occAt
  rw [List.drop_append_of_le_length (Nat.le_refl _), List.drop_length, List.nil_append]
  unfold E2
  simp [List.isPrefixOf]
theorem idx_line4 (x y : List UInt8) (hx : clean x) (hy : pairB y = true) : Lib.index (x ++ 13 :: 10 :: y) E4 = x.length := by
  obtain ⟨t, rfl⟩ := (pair_iff y).1 hy
  refine Lib.index_first (by simp) ?_ (fun j hj => occ_clean x _ [10, 13, 10] hx j hj)
  unfold Lib.occAt
  rw [List.drop_append_of_le_length (Nat.le_refl _), List.drop_length, List.nil_append]
  unfold E4
  simp [List.isPrefixOf]
theorem idx_next4 (x y : List UInt8) (hx : clean x) (hy : pairB y = false) (i : Nat) (h : Lib.index y E4 = i) : Lib.index (x ++ 13 :: 10 :: y) E4 = ((x.length + 2 + i : Nat) : Int) := by
  obtain ⟨h1, h2, h3⟩ := index_is y E4 i h
  have hd : ∀ j, (x ++ 13 :: 10 :: y).drop (x.length + 2 + j) = y.drop j := by
    intro j
    rw [show x.length + 2 + j = x.length + (2 + j) by omega, ← List.drop_drop, List.drop_append_of_le_length (Nat.le_refl _), List.drop_length, List.nil_append, Nat.add_comm 2 j]
    rfl
  refine Lib.index_first (by simp; omega) (by unfold Lib.occAt at h2 ⊢; rw [hd]; exact h2) (fun j hj => ?_)
  rcases Nat.lt_or_ge j x.length with hjx | hjx
  · exact occ_clean x _ [10, 13, 10] hx j hjx
  · rcases Nat.lt_or_ge j (x.length + 2) with hj2 | hj2
    · rcases (by omega : j = x.length ∨ j = x.length + 1) with rfl | rfl
      · unfold Lib.occAt
        rw [List.drop_append_of_le_length (Nat.le_refl _), List.drop_length, List.nil_append]
        cases e : E4.isPrefixOf (13 :: 10 :: y) with
        | false => rfl
        | true =>
          have : pairB y = true := by
            unfold E4 at e; unfold pairB E2
            simpa [List.isPrefixOf] using e
          rw [hy] at this; cases this
      · unfold Lib.occAt
        rw [← List.drop_drop, List.drop_append_of_le_length (Nat.le_refl _), List.drop_length, List.nil_append]
        rfl
    · have := h3 (j - (x.length + 2)) (by omega)
      unfold Lib.occAt at this ⊢
      rw [show j = x.length + 2 + (j - (x.length + 2)) by omega, hd]
      exact this
theorem good_clean {f : List UInt8 × List UInt8} (h : goodF f = true) : clean (f.1 ++ 58 :: 32 :: f.2) ∧ ∃ c t, f.1 = c :: t ∧ isEnd c = false := by
  obtain ⟨⟨c, t, e⟩, htok, htxt, _⟩ := good_parts h
  refine ⟨clean_app (fun c hc => (tok_facts c (htok c hc)).1) (clean_cons (by decide) (clean_cons (by decide) (fun c hc => txt_facts c (htxt c hc)))), c, t, e, (tok_facts c (htok c (by rw [e]; exact List.mem_cons_self ..))).1⟩
theorem idx_head : ∀ (fs : FL) (x rest : List UInt8), clean x → fs.all goodF = true → Lib.index (x ++ 13 :: 10 :: (printOf fs ++ 13 :: 10 :: rest)) E4 = ((x.length + (printOf fs).length : Nat) : Int) := by
  intro fs
  induction fs with
  | nil =>
    intro x rest hx _
    rw [show printOf [] = [] from rfl, List.nil_append]
    rw [idx_line4 x _ hx ((pair_iff _).2 ⟨_, rfl⟩)]
    simp
  | cons f fs ih =>
    intro x rest hx hg
    rw [List.all_cons, Bool.and_eq_true] at hg
    obtain ⟨hc, c, t, e, hce⟩ := good_clean hg.1
    have e1 : printOf (f :: fs) ++ 13 :: 10 :: rest = (f.1 ++ 58 :: 32 :: f.2) ++ 13 :: 10 :: (printOf fs ++ 13 :: 10 :: rest) := by
      unfold printOf lineB; simp
    have hl : (printOf (f :: fs)).length = (f.1 ++ 58 :: 32 :: f.2).length + 2 + (printOf fs).length := by
      unfold printOf lineB; simp; omega
    have h2 := ih (f.1 ++ 58 :: 32 :: f.2) rest hc hg.2
    rw [e1]
    have hp : pairB ((f.1 ++ 58 :: 32 :: f.2) ++ 13 :: 10 :: (printOf fs ++ 13 :: 10 :: rest)) = false := by
      cases hh : pairB ((f.1 ++ 58 :: 32 :: f.2) ++ 13 :: 10 :: (printOf fs ++ 13 :: 10 :: rest)) with
      | false => rfl
      | true =>
        obtain ⟨t', ht⟩ := (pair_iff _).1 hh
        rw [e] at ht
        simp only [List.cons_append, List.cons.injEq] at ht
        exact absurd ht.1 (no13 hce)
    rw [idx_next4 x _ hx hp _ h2, hl]
    congr 1
    omega
theorem printP_parts (fs : FL) (h : (printP fs).2 = 0) : (printP fs).1 = printOf fs ∧ fs.all goodF = true := by
  unfold printP at h ⊢
  by_cases h1 : fs.all goodF = false
  · rw [if_pos h1] at h; cases h
  · by_cases h2 : 100 < fs.length
    · rw [if_neg h1, if_pos h2] at h; cases h
    · rw [if_neg h1, if_neg h2]; exact ⟨rfl, by simpa using h1⟩
/-- a head of a clean first line and printed fields: its end, its line, its fields -/
theorem head_read (line rest : List UInt8) (fs : FL) (hl : clean line) (hne : ∃ c t, line = c :: t) (h : (printP fs).2 = 0) (hc : line.length + (printP fs).1.length + 4 ≤ 8192) :
    leadOf (line ++ 13 :: 10 :: ((printP fs).1 ++ [13, 10]) ++ rest) = 0 ∧ endOf (line ++ 13 :: 10 :: ((printP fs).1 ++ [13, 10]) ++ rest) 0 = (line.length + (printP fs).1.length + 4, 0) ∧
    lineH (headH (line ++ 13 :: 10 :: ((printP fs).1 ++ [13, 10]) ++ rest) 0 (line.length + (printP fs).1.length + 4)) = line ∧
    parseOf (blkH (headH (line ++ 13 :: 10 :: ((printP fs).1 ++ [13, 10]) ++ rest) 0 (line.length + (printP fs).1.length + 4))) = (fs, 0) := by
  have hpp := parse_printP fs h
  obtain ⟨e1, hg⟩ := printP_parts fs h
  rw [e1] at hpp hc ⊢
  have ew : line ++ 13 :: 10 :: (printOf fs ++ [13, 10]) ++ rest = line ++ 13 :: 10 :: (printOf fs ++ 13 :: 10 :: rest) := by simp
  have hi := idx_head fs line rest hl hg
  have eh : headH (line ++ 13 :: 10 :: (printOf fs ++ 13 :: 10 :: rest)) 0 (line.length + (printOf fs).length + 4) = line ++ 13 :: 10 :: printOf fs := by
    unfold headH
    rw [List.drop_zero, show line ++ 13 :: 10 :: (printOf fs ++ 13 :: 10 :: rest) = (line ++ 13 :: 10 :: printOf fs) ++ 13 :: 10 :: rest by simp]
    exact List.take_left' (by simp; omega)
  have h2 := idx_line2 line (printOf fs) hl
  rw [ew]
  refine ⟨?_, ?_, ?_, ?_⟩
  · apply lead_no
    obtain ⟨c, t, rfl⟩ := hne
    cases hh : pairB (c :: t ++ 13 :: 10 :: (printOf fs ++ 13 :: 10 :: rest)) with
    | false => rfl
    | true =>
      obtain ⟨t', ht⟩ := (pair_iff _).1 hh
      simp only [List.cons_append, List.cons.injEq] at ht
      exact absurd ht.1 (no13 (hl c (List.mem_cons_self ..)))
  · rw [end_some _ 0 (line.length + (printOf fs).length) (by rw [List.drop_zero]; exact hi), if_neg (by omega)]
    simp
  · rw [eh]; unfold lineH; rw [h2, Int.toNat_natCast]; simp
  · rw [eh]; unfold blkH; rw [h2, Int.toNat_natCast]
    rw [← List.drop_drop, List.drop_append_of_le_length (Nat.le_refl _), List.drop_length, List.nil_append]
    exact hpp
theorem bl_facts (c : UInt8) : (tokI (c.toNat : Int) = true → noBl c = true ∧ isEnd c = false) ∧ (vis c = true → noBl c = true ∧ isEnd c = false) ∧ (dig c = true → noBl c = true ∧ isEnd c = false) := by
  have : ∀ n : Nat, n < 256 → (tokI ((UInt8.ofNat n).toNat : Int) = true → noBl (UInt8.ofNat n) = true ∧ isEnd (UInt8.ofNat n) = false) ∧ (vis (UInt8.ofNat n) = true → noBl (UInt8.ofNat n) = true ∧ isEnd (UInt8.ofNat n) = false) ∧ (dig (UInt8.ofNat n) = true → noBl (UInt8.ofNat n) = true ∧ isEnd (UInt8.ofNat n) = false) := by decide +kernel
  have k := this c.toNat c.toNat_lt
  rw [UInt8.ofNat_toNat] at k
  exact k
theorem word_app (a b : List UInt8) (ha : ∀ c ∈ a, noBl c = true) : word (a ++ 32 :: b) = a ∧ past (a ++ 32 :: b) = b := by
  have := while_app noBl a (32 :: b) ha (fun c r e => by simp only [List.cons.injEq] at e; rw [← e.1]; rfl)
  unfold word past
  rw [this.1, this.2]
  exact ⟨rfl, rfl⟩
theorem ver_min (k : Int) : isVer (M7 ++ minD k) = true ∧ (goodK k = true → minOf (M7 ++ minD k) = (k, 0)) ∧ (∀ c ∈ M7 ++ minD k, noBl c = true) ∧ clean (M7 ++ minD k) := by
  unfold minD
  by_cases h : k = 1
  · subst h; exact ⟨by decide, fun _ => by decide, by decide, by unfold clean; decide⟩
  · rw [if_neg h]
    refine ⟨by decide, fun hk => ?_, by decide, by unfold clean; decide⟩
    have : k = 0 := by unfold goodK at hk; simp at hk; omega
    subst this; decide
theorem lineP_facts (r : Rq) (h : (isTok r.m && (goodT r.t && goodK r.k)) = true) : clean (lineP r) ∧ (∃ c t, lineP r = c :: t) ∧ lineQ (lineP r) = (⟨r.m, r.t, r.k, []⟩, 0) := by
  simp only [Bool.and_eq_true] at h
  obtain ⟨h1, h2, h3⟩ := h
  obtain ⟨v1, v2, v3, v4⟩ := ver_min r.k
  have hm : r.m ≠ [] ∧ ∀ c ∈ r.m, tokI (c.toNat : Int) = true := by
    unfold isTok at h1; simp only [Bool.and_eq_true, Bool.not_eq_true', List.all_eq_true] at h1
    exact ⟨fun e => by rw [e] at h1; simp at h1, h1.2⟩
  have ht : ∀ c ∈ r.t, vis c = true := by
    unfold goodT at h2; simp only [Bool.and_eq_true, Bool.not_eq_true', List.all_eq_true] at h2
    exact h2.2
  have w1 := word_app r.m (r.t ++ 32 :: (M7 ++ minD r.k)) (fun c hc => ((bl_facts c).1 (hm.2 c hc)).1)
  have w2 := word_app r.t (M7 ++ minD r.k) (fun c hc => ((bl_facts c).2.1 (ht c hc)).1)
  refine ⟨clean_app (fun c hc => ((bl_facts c).1 (hm.2 c hc)).2) (clean_cons (by decide) (clean_app (fun c hc => ((bl_facts c).2.1 (ht c hc)).2) (clean_cons (by decide) v4))), ?_, ?_⟩
  · cases e : r.m with
    | nil => exact absurd e hm.1
    | cons c t => exact ⟨c, _, by unfold lineP; rw [e]; rfl⟩
  · unfold lineQ lineP
    rw [w1.1, w1.2, w2.1, w2.2, h1, h2, v1, v2 h3]
    simp
theorem st_facts : ∀ n : Nat, n < 600 → 100 ≤ n → num3 (stD (n : Int)) = (n : Int) ∧ (stD (n : Int)).all dig = true := by decide +kernel
theorem lineS_facts (s : Rs) (h : (goodK s.k && s.r.all txt) = true) (hg : goodS s.s = true) : clean (lineS s) ∧ (∃ c t, lineS s = c :: t) ∧ lineR (lineS s) = (⟨s.s, s.r, s.k, []⟩, 0) := by
  simp only [Bool.and_eq_true] at h
  obtain ⟨h3, h2⟩ := h
  obtain ⟨v1, v2, v3, v4⟩ := ver_min s.k
  have hs : 100 ≤ s.s ∧ s.s ≤ 599 := by unfold goodS at hg; simpa using hg
  obtain ⟨n, hn⟩ : ∃ n : Nat, s.s = n := ⟨s.s.toNat, by omega⟩
  have sf := st_facts n (by omega) (by omega)
  rw [← hn] at sf
  have hd : ∀ c ∈ stD s.s, dig c = true := fun c hc => List.all_eq_true.1 sf.2 c hc
  have w1 := word_app (M7 ++ minD s.k) (stD s.s ++ 32 :: s.r) v3
  have w2 := word_app (stD s.s) s.r (fun c hc => ((bl_facts c).2.2 (hd c hc)).1)
  refine ⟨clean_app v4 (clean_cons (by decide) (clean_app (fun c hc => ((bl_facts c).2.2 (hd c hc)).2) (clean_cons (by decide) (fun c hc => txt_facts c (List.all_eq_true.1 h2 c hc))))), ⟨72, _, rfl⟩, ?_⟩
  · unfold lineR lineS
    rw [w1.1, w1.2, w2.1, w2.2, h2, v1, v2 h3, sf.1, sf.2, hg, show (stD s.s).length = 3 from rfl]
    simp
theorem whole_parts {line w : List UInt8} {fs : FL} (h : wholeP line fs = (w, 0)) : (printP fs).2 = 0 ∧ line.length + (printP fs).1.length + 4 ≤ 8192 ∧ w = line ++ 13 :: 10 :: ((printP fs).1 ++ [13, 10]) := by
  unfold wholeP at h
  split at h
  · rename_i h1; rw [Prod.mk.injEq] at h; exact absurd h.2 h1
  · rename_i h1
    split at h
    · cases h
    · rename_i h2
      rw [Prod.mk.injEq] at h
      exact ⟨by simpa using h1, by omega, h.1.symm⟩
theorem whole_len (line : List UInt8) (fs : FL) : (line ++ 13 :: 10 :: ((printP fs).1 ++ [13, 10])).length = line.length + (printP fs).1.length + 4 := by simp; omega
/-- a request that is printed is read as it was -/
theorem req_round (r : Rq) (w rest : List UInt8) (h : prQ r = (w, 0)) (hh : hostBad r.fs r.k = false) : reqOf (w ++ rest) = (r, w.length, 0) := by
  unfold prQ at h
  split at h
  · cases h
  · rename_i h1
    obtain ⟨a1, a2, a3⟩ := whole_parts h
    obtain ⟨b1, b2, b3⟩ := lineP_facts r (by simpa using h1)
    obtain ⟨c1, c2, c3, c4⟩ := head_read (lineP r) rest r.fs b1 b2 a1 a2
    have hw := whole_len (lineP r) r.fs
    rw [← a3] at c1 c2 c3 c4 hw
    rw [req_some (w ++ rest) ((lineP r).length + (printP r.fs).1.length + 4) (Nat.succ_ne_zero _) (by rw [c1]; exact c2), c1, c3, c4, b3, hw]
    unfold reqG
    rw [if_neg (by simp), if_neg (by simp), if_neg (by simp only; rw [hh]; simp)]
theorem resp_round (s : Rs) (w rest : List UInt8) (h : prR s = (w, 0)) : respOf (w ++ rest) = (s, w.length, 0) := by
  unfold prR at h
  split at h
  · cases h
  · rename_i h1
    split at h
    · cases h
    · rename_i h2
      obtain ⟨a1, a2, a3⟩ := whole_parts h
      obtain ⟨b1, b2, b3⟩ := lineS_facts s (by simpa using h1) (by simpa using h2)
      obtain ⟨c1, c2, c3, c4⟩ := head_read (lineS s) rest s.fs b1 b2 a1 a2
      have hw := whole_len (lineS s) s.fs
      rw [← a3] at c1 c2 c3 c4 hw
      rw [resp_some (w ++ rest) ((lineS s).length + (printP s.fs).1.length + 4) (Nat.succ_ne_zero _) c2, c3, c4, b3, hw]
      unfold respG
      rw [if_neg (by simp), if_neg (by simp)]
theorem prQ_pos (r : Rq) (w : List UInt8) (h : prQ r = (w, 0)) : 4 ≤ w.length ∧ w.length ≤ 8192 := by
  unfold prQ at h
  split at h
  · cases h
  · obtain ⟨a1, a2, a3⟩ := whole_parts h
    have := whole_len (lineP r) r.fs
    rw [← a3] at this; omega
theorem prR_pos (s : Rs) (w : List UInt8) (h : prR s = (w, 0)) : 4 ≤ w.length ∧ w.length ≤ 8192 := by
  unfold prR at h
  split at h
  · cases h
  · split at h
    · cases h
    · obtain ⟨a1, a2, a3⟩ := whole_parts h
      have := whole_len (lineS s) s.fs
      rw [← a3] at this; omega
theorem whole_bad (line : List UInt8) (fs : FL) (h : (wholeP line fs).2 ≠ 0) : (wholeP line fs).1 = [] := by
  unfold wholeP at h ⊢
  split
  · rfl
  · split
    · rfl
    · rename_i h1 h2; rw [if_neg h1, if_neg h2] at h; exact absurd rfl h
theorem prR_bad (s : Rs) (h : (prR s).2 ≠ 0) : (prR s).1 = [] := by
  unfold prR at h ⊢
  split
  · rfl
  · rename_i h1
    split
    · rfl
    · rename_i h2; rw [if_neg h1, if_neg h2] at h; exact whole_bad _ _ h
end Go.Proofs.YtenegcoapejbmaaGreatDoor
namespace Go.Proofs.YtenegcoapejbmaaGreatDoor
open Go.RowKit
set_option maxRecDepth 20000 in
set_option maxHeartbeats 2000000 in
theorem growNil (n : Nat) (hn : n ≤ 1000000000) (w : World) :
    Calls Tryz.prog 71 #[.slice none 0 0, .int .i64 (n : Int)] w fun e w' => ∃ u, e = .returned u ∧ Own w u [] w' := by
  by_cases h0 : n = 0
  · subst h0
    go_enter Tryz.func71, Tryz.ntmps71
    go_wp2_with fail
    go_ret
    exact ⟨_, rfl, own_nil _ _ (Below.refl _ _)⟩
  · obtain ⟨i0, hi, hz0, hz1, hz2⟩ := info_parts Tryz.info5
    have key : ∃ cap w1, (∀ ty, (Builtin.append_ #[22, 3] ty #[.slice none 0 0, .int .i64 (n : Int)]).run Tryz.prog w = .ok (.slice (some ⟨w.heap.size, 0, none⟩) n cap) w1) ∧ Own w (.slice (some ⟨w.heap.size, 0, none⟩) 0 cap) [] w1 ∧ n ≤ cap := by
      refine ⟨_, _, fun ty => Lib.run_append_nil_zeros (P := Tryz.prog) w 22 3 ty 5 i0 (.int .u8 0) .i64 .i64 Tryz.underlying22 Tryz.underlying3 hi hz0 n (by omega) (by rw [hz1]; decide) (by omega) (by rw [hz2]; omega), ⟨⟨rfl, .inr ⟨_, _, _, rfl, Nat.le_refl _, heap_alloc_new w.drew _, Nat.zero_le _, ?_, ?_, by simp⟩⟩, ((Below.refl _ _).drew).alloc (Nat.le_refl _) _⟩, grownCap_ge _ _ _ _⟩
      · exact grownCap_le_maxLen _ _ _ _ (by unfold maxLen; omega)
      · have := grownCap_ge w n 0 5
        have hc : (Value.int .u8 0).cells.size = 1 := rfl
        rw [Array.size_append, size_zeroCells, size_zeroCells, hc]
        omega
    obtain ⟨cap, w1, hr, ho, hcap⟩ := key
    have HO := hide' ho
    have HR := hide' (hr 22)
    clear hr
    have t1 : decide ((0 : Int) < (n : Int)) = true := by simp; omega
    have h' : 0 < n := by omega
    clear ho h0 hi hz0 hz1 hz2
    go_enter Tryz.func71, Tryz.ntmps71
    go_wp2_with (at_builtin; refine Lib.wpList_append_run _ rfl (.tmp 20) _ _ _ rfl _ _ rfl rfl _ w1 HR.out ?_)
    go_ret
    exact ⟨_, rfl, HO.out⟩
def catB (pb : Nat → List UInt8) : Nat → List UInt8
  | 0 => []
  | k + 1 => catB pb k ++ pb k
theorem catB_le (pb : Nat → List UInt8) (n : Nat) : ∀ k, k ≤ n → (catB pb k).length ≤ (catB pb n).length := by
  induction n with
  | zero => intro k h; obtain rfl : k = 0 := by omega
            exact Nat.le_refl _
  | succ n ih =>
    intro k h
    by_cases e : k = n + 1
    · subst e; exact Nat.le_refl _
    · have := ih k (by omega)
      show _ ≤ (catB pb n ++ pb n).length
      rw [List.length_append]; omega
set_option maxRecDepth 20000 in
set_option maxHeartbeats 2000000 in
theorem concat4 (g : Nat) (pv : Nat → Value) (pb : Nat → List UInt8) (w : World) (hc : ∀ i, i < 4 → w.cell? ⟨g, i, none⟩ = some (pv i)) (hg : g < w.heap.size) (hp : ∀ i, i < 4 → HoldsB w (pv i) (pb i)) (hl : (catB pb 4).length ≤ 1000000000) :
    Calls Tryz.prog 55 #[.slice (some ⟨g, 0, none⟩) 4 4] w fun e w' => ∃ u, e = .returned u ∧ Own w u (catB pb 4) w' := by
  have HC := hide' hc
  have HP := hide' hp
  have cG := hide' (growNil (catB pb 4).length hl w)
  have LE := hide' (catB_le pb 4)
  have HLL := hide' hl
  clear hc hp
  go_enter Tryz.func55, Tryz.ntmps55
  go_wp2_with fail
  go_loop [3, 5, 11] (fun sv _ iv => ∃ k : Nat, k ≤ 4 ∧ iv = .int .i64 k ∧ sv = .int .i64 (((catB pb k).length : Nat) : Int)) (fun _ _ iv => 4 - (intOf iv).toNat)
  case atStart => exact ⟨0, by omega, rfl, rfl⟩
  case round =>
    obtain ⟨k, hk, rfl, rfl⟩ := hrel
    by_cases hlt : k < 4
    · have ck := HC.out k hlt
      obtain ⟨ao, cap, e, _⟩ := HP.out k hlt
      rw [e] at ck
      have l1 := LE.out k (by omega)
      have l2 := LE.out (k + 1) (by omega)
      have l3 : (catB pb (k + 1)).length = (catB pb k).length + (pb k).length := by show (catB pb k ++ pb k).length = _; rw [List.length_append]
      have L3 := hide' l3
      generalize hn1 : (catB pb k).length = n1 at l1 l3
      generalize hn2 : (pb k).length = n2 at ck l3
      have s1 : n1 ≤ 1000000000 := by omega
      have s2 : n2 ≤ 1000000000 := by omega
      have E1 := hide' hn1
      have E2' := hide' hn2
      clear l1 l2 l3 hn1 hn2 e
      go_wp2_with fail
      go_round
      case rel => exact ⟨k + 1, by omega, by go_num, by rw [L3.out, E1.out, E2'.out]; go_num⟩
      case measure => simp [intOf]; omega
    · obtain rfl : k = 4 := by omega
      generalize (catB pb 4).length = n4 at cG hl
      go_wp2_with fail
      refine cG.out.mono ?_
      rintro e w1 ⟨u1, rfl, ho1⟩
      have O1 := hide' ho1
      clear ho1
      go_wp2_with fail
      go_loopw [6, 8, 27] (fun ov _ iv wr => ∃ k : Nat, k ≤ 4 ∧ iv = .int .i64 k ∧ Hid (Own w ov (catB pb k) wr)) (fun _ _ iv _ => 4 - (intOf iv).toNat)
      case atStart => exact ⟨0, by omega, rfl, O1⟩
      case round =>
        obtain ⟨k, hk, rfl, hO⟩ := hrel
        by_cases hlt : k < 4
        · have ck : wr.cell? ⟨g, k, none⟩ = some (pv k) := by rw [hO.out.2.cell (p := ⟨g, k, none⟩) hg]; exact HC.out k hlt
          have hb := hide' (holdsB_mono (HP.out k hlt) hO.out.2)
          have l2 := LE.out (k + 1) (by omega)
          have l3 : (catB pb (k + 1)).length = (catB pb k).length + (pb k).length := by show (catB pb k ++ pb k).length = _; rw [List.length_append]
          have bound : Hid ((catB pb k).length + (pb k).length ≤ 140737488355328) := by unfold Hid; have := HLL.out; omega
          clear l2 l3
          go_wp2_with (at_builtin; refine appAllB rfl (.tmp 31) (.tmp 32) rfl w _ _ rfl hO.out _ (pb k) rfl hb.out bound.out ?_; intro v5 w5 ho5)
          go_roundw
          case rel => exact ⟨k + 1, by omega, by go_num, ho5⟩
          case measure => simp [intOf]; omega
        · obtain rfl : k = 4 := by omega
          go_wp2_with fail
          go_ret
          exact ⟨_, rfl, hO.out⟩
end Go.Proofs.YtenegcoapejbmaaGreatDoor
namespace Go.Proofs.YtenegcoapejbmaaGreatDoor
open Go.RowKit
theorem holdsB_parts {w : World} {v : Value} {bs : List UInt8} (h : HoldsB w v bs) : ∃ (ao : Option Addr) (cap : Nat), v = .slice ao bs.length cap ∧ bs.length ≤ cap := by
  obtain ⟨ao, cap, e, _, hc, _⟩ := h
  exact ⟨ao, cap, e, hc⟩
theorem holdsB_take {w : World} {v : Value} {bs : List UInt8} (h : HoldsB w v bs) (k : Nat) (hk : k ≤ bs.length) : ∃ pv, (∀ W, Sem.run Tryz.prog (Instr.slice 22 v none (some (.int .i64 (k : Int))) none) W = .ok pv W) ∧ HoldsB w pv (bs.take k) := by
  have h' := h
  obtain ⟨ao, cap, rfl, h0, hc, _⟩ := h'
  refine ⟨.slice ao k cap, fun W => ?_, holdsB_pre h k hk⟩
  have hel : Tryz.prog.elem 22 = 5 := by kernel_rfl
  have hh := run_slice_h (P := Tryz.prog) W 22 ao bs.length cap (by rw [hel]; exact Tryz.underlying22) .i64 k (by omega) (by omega)
  rw [hel, Tryz.sizeOf5] at hh
  simp only [Result.andThen, Int.toNat_natCast, sliced] at hh
  rw [hh]
  by_cases hz : cap = 0
  · subst hz
    obtain rfl : k = 0 := by omega
    cases ao <;> simp
  · simp [Addr.add]
end Go.Proofs.YtenegcoapejbmaaGreatDoor
namespace Go.Proofs.YtenegcoapejbmaaGreatDoor
open Go.RowKit
theorem conv_text (s : ByteArray) (w : World) : ∃ (v : Value) (w1 : World), Sem.run Tryz.prog (convert 9 22 (.string s)) w = .ok v w1 ∧ HoldsB w1 v s.data.toList ∧ Below w.heap.size w w1 := by
  have hl : s.data.toList.length = s.size := by simp
  refine ⟨_, _, run_bytes_of_string w 9 22 5 s Tryz.underlying9 Tryz.underlying22 Tryz.underlying5, ?_, ((Below.refl _ _).drew).alloc (Nat.le_refl _) _⟩
  refine ⟨some ⟨w.heap.size, 0, none⟩, grownCap w s.size 0 5, by rw [hl], (fun e => by cases e), by rw [hl]; exact grownCap_ge _ _ _ _, fun _ => ⟨w.heap.size, 0, rfl, by simp, fun j hj => ?_⟩⟩
  have hj' : j < s.size := by omega
  have := cell_of_row (w.drew.alloc (.cells (bytesRow s (grownCap w s.size 0 5)) 5 ((bytesRow s (grownCap w s.size 0 5)).size, (bytesRow s (grownCap w s.size 0 5)).size + 1))) w.heap.size j _ 5 _ (heap_alloc_new w.drew _)
  rw [Nat.zero_add, this, bytesRow_at s _ j hj']
  rfl
theorem two_holds (W : World) : HoldsB (W.alloc (.cells #[.int .u8 13, .int .u8 10] 5 (2, 3))) (.slice (some ⟨W.heap.size, 0, none⟩) 2 2) [13, 10] := by
  refine ⟨_, 2, rfl, (fun e => by cases e), Nat.le_refl _, fun _ => ⟨W.heap.size, 0, rfl, by simp, fun j hj => ?_⟩⟩
  match j, hj with
  | 0, _ => simp [World.cell?_alloc_mark, B]
  | 1, _ => simp [World.cell?_alloc_mark, B]
def quadV (a b c d : Value) : Nat → Value
  | 0 => a
  | 1 => b
  | 2 => c
  | _ => d
def quadB (a b c d : List UInt8) : Nat → List UInt8
  | 0 => a
  | 1 => b
  | 2 => c
  | _ => d
theorem whole_err (l : List UInt8) (fs : FL) (h : (printP fs).2 ≠ 0) : wholeP l fs = ([], (printP fs).2) := by unfold wholeP; rw [if_pos h]
theorem whole_long (l : List UInt8) (fs : FL) (h : (printP fs).2 = 0) (h2 : 8192 < l.length + (printP fs).1.length + 4) : wholeP l fs = ([], 51) := by unfold wholeP; rw [if_neg (by simpa using h), if_pos h2]
theorem whole_good (l : List UInt8) (fs : FL) (h : (printP fs).2 = 0) (h2 : ¬ 8192 < l.length + (printP fs).1.length + 4) : wholeP l fs = (l ++ 13 :: 10 :: ((printP fs).1 ++ [13, 10]), 0) := by unfold wholeP; rw [if_neg (by simpa using h), if_neg h2]
theorem printP_len (fs : FL) : (printP fs).1.length ≤ (printOf fs).length := by
  unfold printP
  split
  · simp
  · split
    · simp
    · exact Nat.le_refl _
set_option maxRecDepth 20000 in
set_option maxHeartbeats 4000000 in
theorem printedTok (s : ByteArray) (v : Value) (fs : FL) (w : World) (hv : HoldsF w v fs) (hfit : Fit fs) (hl : fs.length ≤ 1000000000) (hP : (printOf fs).length ≤ 100000000) (hs : s.size ≤ 100000000) :
    Calls Tryz.prog 44 #[.string s, v] w fun e w' => ∃ u, e = .returned (.tuple #[u, .int .i64 (wholeP s.data.toList fs).2]) ∧ Own w u (wholeP s.data.toList fs).1 w' := by
  have cP := hide' (printTok v fs w hv hfit (by omega) (by omega))
  have hpl := printP_len fs
  have hsl : s.data.toList.length = s.size := by simp
  have f1 := hide' (whole_err s.data.toList fs)
  have f2 := hide' (whole_long s.data.toList fs)
  have f3 := hide' (whole_good s.data.toList fs)
  rw [hsl] at f2 f3
  generalize printP fs = pp at cP hpl f1 f2 f3
  obtain ⟨pb, pe⟩ := pp
  simp only at cP hpl f1 f2 f3
  obtain ⟨ao, cap, b, off, e, _⟩ := holdsF_parts hv
  subst e
  have hpb : pb.length ≤ 100000000 := by omega
  have HSL := hide' hsl
  clear hv hfit hP hpl hsl
  go_enter Tryz.func44, Tryz.ntmps44
  go_wp2_with fail
  refine cP.out.mono ?_
  rintro e w1 ⟨u1, rfl, ho1⟩
  have B1 := hide' ho1.2
  have H1 := hide' (holdsB_own ho1)
  obtain ⟨a1, c1, hu1, _⟩ := holdsB_parts H1.out
  subst hu1
  clear ho1 cP
  by_cases g1 : pe = 0
  · subst g1
    obtain ⟨v2, w2, k2, h2, b2⟩ := conv_text s w1
    obtain ⟨a2, c2, hv2, _⟩ := holdsB_parts h2
    subst hv2
    rw [HSL.out] at k2
    have H2 := hide' h2
    have B2 := hide' (bt' B1.out b2)
    have N2 := hide' b2
    have k3 := mark2 w2
    have b3 := below_alloc' w2 (.cells #[.int .u8 13, .int .u8 10] 5 (2, 3))
    have k4 := mark2 (w2.alloc (.cells #[.int .u8 13, .int .u8 10] 5 (2, 3)))
    have b4 := below_alloc' (w2.alloc (.cells #[.int .u8 13, .int .u8 10] 5 (2, 3))) (.cells #[.int .u8 13, .int .u8 10] 5 (2, 3))
    have h3 := holdsB_mono (two_holds w2) b4
    have h4 := two_holds (w2.alloc (.cells #[.int .u8 13, .int .u8 10] 5 (2, 3)))
    have z3 : (w2.alloc (.cells #[.int .u8 13, .int .u8 10] 5 (2, 3))).heap.size = w2.heap.size + 1 := by simp
    rw [z3] at k4 h4
    have B4 := hide' (bt' (bt' B2.out b3) b4)
    have N4 := hide' (bt' b3 b4)
    obtain ⟨W4, hW4⟩ : ∃ W4, W4 = (w2.alloc (.cells #[.int .u8 13, .int .u8 10] 5 (2, 3))).alloc (.cells #[.int .u8 13, .int .u8 10] 5 (2, 3)) := ⟨_, rfl⟩
    rw [← hW4] at k4 h3 h4 B4 N4
    have H3 := hide' h3
    have H4 := hide' h4
    have HW4 := hide' hW4
    have hz4 : W4.heap.size = w2.heap.size + 2 := by rw [hW4]; simp
    have HZ4 := hide' hz4
    clear h2 h3 h4 b2 b3 b4 hW4 z3 hz4
    go_wp2_with fail
    have bq := below_alloc' W4 (.cells #[.slice a2 s.size c2, .slice (some ⟨w2.heap.size, 0, none⟩) 2 2, .slice a1 pb.length c1, .slice (some ⟨w2.heap.size + 1, 0, none⟩) 2 2] 22)
    have cC := hide' (concat4 W4.heap.size (quadV (.slice a2 s.size c2) (.slice (some ⟨w2.heap.size, 0, none⟩) 2 2) (.slice a1 pb.length c1) (.slice (some ⟨w2.heap.size + 1, 0, none⟩) 2 2)) (quadB s.data.toList [13, 10] pb [13, 10]) (W4.alloc (.cells #[.slice a2 s.size c2, .slice (some ⟨w2.heap.size, 0, none⟩) 2 2, .slice a1 pb.length c1, .slice (some ⟨w2.heap.size + 1, 0, none⟩) 2 2] 22)) (by
      intro i hi
      match i, hi with
      | 0, _ => simp [quadV]
      | 1, _ => simp [quadV]
      | 2, _ => simp [quadV]
      | 3, _ => simp [quadV]) (by simp) (by
      intro i hi
      match i, hi with
      | 0, _ => have := holdsB_mono (holdsB_mono H2.out N4.out) bq; rw [HSL.out] at this; exact this
      | 1, _ => exact holdsB_mono H3.out bq
      | 2, _ => exact holdsB_mono (holdsB_mono (holdsB_mono H1.out N2.out) N4.out) bq
      | 3, _ => exact holdsB_mono H4.out bq) (by
      have := HSL.out
      simp [catB, quadB]
      omega))
    have E4 : Hid (catB (quadB s.data.toList [13, 10] pb [13, 10]) 4 = s.data.toList ++ 13 :: 10 :: (pb ++ [13, 10])) := by unfold Hid; simp [catB, quadB]
    rw [E4.out] at cC
    have BQ := hide' (bt' B4.out bq)
    clear bq
    refine cC.out.mono ?_
    rintro e w5 ⟨u5, rfl, ho5⟩
    have B5 := hide' (bt' BQ.out ho5.2)
    have O5 := hide' (own_base ho5 BQ.out)
    obtain ⟨a5, c5, hu5, _⟩ := holdsB_parts (holdsB_own ho5)
    subst hu5
    clear ho5 cC
    have hlen : (s.data.toList ++ 13 :: 10 :: (pb ++ [13, 10])).length = s.size + pb.length + 4 := by
      have := HSL.out
      simp only [List.length_append, List.length_cons, List.length_nil]
      omega
    rw [hlen] at O5 ⊢
    by_cases g2 : 8192 < s.size + pb.length + 4
    · have R' := hide' (f2.out (by first | rfl | trivial) g2)
      have t2 : decide ((8192 : Int) < ((s.size + pb.length + 4 : Nat) : Int)) = true := decide_eq_true (by omega)
      have hb : s.size + pb.length + 4 ≤ 1000000000 := by omega
      clear hlen
      generalize s.size + pb.length + 4 = M at g2 t2 hb O5 ⊢
      go_wp2_with fail
      go_ret2
      exact ⟨.slice none 0 0, by rw [R'.out]; rfl, by rw [R'.out]; exact own_nil _ _ B5.out⟩
    · have R' := hide' (f3.out (by first | rfl | trivial) g2)
      have t2 : decide ((8192 : Int) < ((s.size + pb.length + 4 : Nat) : Int)) = false := decide_eq_false (by omega)
      have hb : s.size + pb.length + 4 ≤ 1000000000 := by omega
      clear hlen
      generalize s.size + pb.length + 4 = M at g2 t2 hb O5 ⊢
      go_wp2_with fail
      go_ret2
      exact ⟨.slice a5 M c5, by rw [R'.out]; rfl, by rw [R'.out]; exact O5.out⟩
  · have t1 : (pe != 0) = true := by simpa using g1
    have R' := hide' (f1.out g1)
    clear g1
    go_wp2_with fail
    go_ret2
    exact ⟨.slice none 0 0, by rw [R'.out]; rfl, by rw [R'.out]; exact own_nil _ _ B1.out⟩
end Go.Proofs.YtenegcoapejbmaaGreatDoor
