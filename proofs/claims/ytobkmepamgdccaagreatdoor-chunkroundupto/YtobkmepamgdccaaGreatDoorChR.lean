/- Plain: chunked bodies, written; what is written is read as it was, whatever stands behind it. -/
import Derived.Test.YtobkmepamgdccaaGreatDoorChQ
namespace Go.Proofs.YtobkmepamgdccaaGreatDoor
open Go.RowKit
def hexB (v : Nat) : UInt8 := if v < 10 then UInt8.ofNat (48 + v) else UInt8.ofNat (87 + v)
def hexL : Nat → Nat → List UInt8
  | 0, _ => []
  | f + 1, v => if v = 0 then [] else hexL f (v / 16) ++ [hexB (v % 16)]
/-- a number below 2^32 in hexadecimal digits; 0: none -/
def hexOf (v : Nat) : List UInt8 := hexL 8 v
def encC : Nat → List UInt8 → Nat → List UInt8
  | 0, _, _ => []
  | f + 1, d, s => if d = [] then [] else hexOf (d.take s).length ++ 13 :: 10 :: (d.take s ++ 13 :: 10 :: encC f (d.drop s) s)
def lastC (t : List UInt8) : List UInt8 := 48 :: 13 :: 10 :: (t ++ [13, 10])
def encOf (d : List UInt8) (s : Int) (fs : FL) : List UInt8 × Int :=
  if s < 1 ∨ 65536 < s then ([], 70) else if 65536 < d.length then ([], 71) else if (printP fs).2 ≠ 0 then ([], (printP fs).2)
  else if 8192 < (printP fs).1.length + 2 then ([], 51) else (encC (d.length + 1) d s.toNat ++ lastC (printP fs).1, 0)
theorem hexB_facts : ∀ v : Fin 16, isHex (hexB v.val) = true ∧ (hexI ((hexB v.val).toNat : Int)).toNat = v.val ∧ no10 (hexB v.val) = true := by decide
theorem hexB_at (v : Nat) (h : v < 16) : isHex (hexB v) = true ∧ (hexI ((hexB v).toNat : Int)).toNat = v ∧ no10 (hexB v) = true := hexB_facts ⟨v, h⟩
theorem hexS_snoc (l : List UInt8) (c : UInt8) : hexS (l ++ [c]) = hexS l * 16 + (hexI (c.toNat : Int)).toNat := by unfold hexS; rw [List.foldl_append]; rfl
theorem hexL_facts : ∀ (f v : Nat), v < 16 ^ f → hexS (hexL f v) = v ∧ (hexL f v).length ≤ f ∧ (∀ c ∈ hexL f v, isHex c = true ∧ no10 c = true) ∧ (0 < v → 0 < (hexL f v).length) := by
  intro f
  induction f with
  | zero =>
    intro v h
    have : v = 0 := by simpa using h
    subst this
    exact ⟨rfl, Nat.le_refl _, fun c hc => by simp [hexL] at hc, fun h => by omega⟩
  | succ f ih =>
    intro v h
    by_cases h0 : v = 0
    · subst h0
      simp [hexL, hexS]
    · have h1 : v / 16 < 16 ^ f := by rw [Nat.div_lt_iff_lt_mul (by decide)]; rw [Nat.pow_succ] at h; exact h
      obtain ⟨i1, i2, i3, _⟩ := ih (v / 16) h1
      have hb := hexB_at (v % 16) (Nat.mod_lt _ (by decide))
      have e : hexL (f + 1) v = hexL f (v / 16) ++ [hexB (v % 16)] := by rw [hexL, if_neg h0]
      rw [e]
      refine ⟨?_, ?_, ?_, ?_⟩
      · rw [hexS_snoc, i1, hb.2.1]; omega
      · rw [List.length_append]; simp; omega
      · intro c hc
        rcases List.mem_append.1 hc with hc | hc
        · exact i3 c hc
        · simp at hc; subst hc; exact ⟨hb.1, hb.2.2⟩
      · intro _; simp
theorem hexOf_facts (v : Nat) (h : v ≤ 65536) : hexS (hexOf v) = v ∧ (hexOf v).length ≤ 8 ∧ (∀ c ∈ hexOf v, isHex c = true ∧ no10 c = true) ∧ (0 < v → 0 < (hexOf v).length) := hexL_facts 8 v (Nat.lt_of_le_of_lt h (by decide))
theorem while_all' {p : UInt8 → Bool} {a b : List UInt8} (h : ∀ c ∈ a, p c = true) : (a ++ b).takeWhile p = a ++ b.takeWhile p ∧ (a ++ b).dropWhile p = b.dropWhile p := by
  induction a with
  | nil => exact ⟨rfl, rfl⟩
  | cons c r ih =>
    have h1 := h c (by simp)
    obtain ⟨i1, i2⟩ := ih (fun c hc => h c (by simp [hc]))
    rw [List.cons_append, List.takeWhile_cons, List.dropWhile_cons, h1, if_pos rfl, if_pos rfl, i1, i2]
    exact ⟨rfl, rfl⟩
theorem sizeC_hex {l : List UInt8} (h1 : 0 < l.length) (h2 : l.length ≤ 8) (h3 : ∀ c ∈ l, isHex c = true) : sizeC l = (hexS l : Int) := by
  have e := while_all' (b := []) h3
  rw [List.append_nil] at e
  simp only [List.takeWhile_nil, List.dropWhile_nil, List.append_nil] at e
  unfold sizeC
  rw [e.1, e.2, if_neg]
  rintro (h | h | h)
  · omega
  · omega
  · cases h
/-- a size line that was written -/
theorem lineC_hex {l r : List UInt8} (h1 : 0 < l.length) (h2 : l.length ≤ 8) (h3 : ∀ c ∈ l, isHex c = true ∧ no10 c = true) : lineC (l ++ 13 :: 10 :: r) = (hexS l, l.length + 2, 0) := by
  have e : (l ++ 13 :: 10 :: r).takeWhile no10 = l ++ [13] := by
    rw [(while_all' (b := 13 :: 10 :: r) (fun c hc => (h3 c hc).2)).1]
    rfl
  have hk : lenL (l ++ 13 :: 10 :: r) = l.length + 1 := by unfold lenL; rw [e]; simp
  have hd : (l ++ 13 :: 10 :: r).getD (l.length + 1 - 1) 0 = 13 := by
    rw [Nat.add_sub_cancel, List.getD_eq_getElem?_getD, List.getElem?_append_right (Nat.le_refl _)]
    simp
  have ht : (l ++ 13 :: 10 :: r).take (l.length + 1 - 1) = l := by
    rw [Nat.add_sub_cancel, take_app _ (Nat.le_refl _), List.take_of_length_le (Nat.le_refl _)]
  have hs := sizeC_hex h1 h2 (fun c hc => (h3 c hc).1)
  unfold lineC
  rw [hk, hd, ht, hs, if_neg (by simp), if_neg]
  · simp
  · rintro (h | h | h | h)
    · omega
    · omega
    · exact h rfl
    · omega
theorem chs_enc {d more : List UInt8} {k : Nat} (h0 : 0 < d.length) (hk : k + d.length ≤ 65536) :
    stepC (hexOf d.length ++ 13 :: 10 :: (d ++ 13 :: 10 :: more)) k = ⟨2, d, [], (hexOf d.length).length + 2 + (d.length + 2), 0⟩ := by
  obtain ⟨h1, h2, h3, h4⟩ := hexOf_facts d.length (by omega)
  have e := lineC_hex (r := d ++ 13 :: 10 :: more) (h4 h0) h2 h3
  rw [h1] at e
  have ed : (hexOf d.length ++ 13 :: 10 :: (d ++ 13 :: 10 :: more)).drop ((hexOf d.length).length + 2) = d ++ 13 :: 10 :: more := by
    rw [List.drop_append]; simp
  rw [chs_line e (by omega), if_neg (by omega), ed]
  unfold dataC
  have e2 : (d ++ 13 :: 10 :: more).drop d.length = 13 :: 10 :: more := by simp
  have e3 : (d ++ 13 :: 10 :: more).take d.length = d := by simp
  rw [if_neg (by omega), if_neg (by rw [List.length_append, List.length_cons, List.length_cons]; omega), e2, e3, if_neg (by rw [(pair_iff _).2 ⟨more, rfl⟩]; decide)]
/-- where the trailers end -/
theorem tail_enc {fs : FL} (rest : List UInt8) (h : (printP fs).2 = 0) (hc : (printP fs).1.length + 2 ≤ 8192) : tailC ((printP fs).1 ++ 13 :: 10 :: rest) = (fs, (printP fs).1.length + 2, 0) := by
  have hr := parse_printP fs h
  obtain ⟨e0, hg⟩ := printP_parts fs h
  rw [e0] at hc hr ⊢
  cases fs with
  | nil =>
    have : pairB (printOf [] ++ 13 :: 10 :: rest) = true := (pair_iff _).2 ⟨rest, rfl⟩
    unfold tailC
    rw [if_pos this]
    rfl
  | cons f r =>
    have hg2 : goodF f = true ∧ r.all goodF = true := by
      rw [List.all_cons, Bool.and_eq_true] at hg; exact hg
    obtain ⟨hcl, c, t, ec, hce⟩ := good_clean hg2.1
    have ep : printOf (f :: r) = (f.1 ++ 58 :: 32 :: f.2) ++ 13 :: 10 :: printOf r := by
      unfold printOf
      rw [List.map_cons, List.flatten_cons]
      unfold lineB
      simp
    have ei : Lib.index (printOf (f :: r) ++ 13 :: 10 :: rest) E4 = (((f.1 ++ 58 :: 32 :: f.2).length + (printOf r).length : Nat) : Int) := by
      rw [ep]
      have := idx_head r (f.1 ++ 58 :: 32 :: f.2) rest hcl hg2.2
      rw [← this]
      simp
    have el : (printOf (f :: r)).length = (f.1 ++ 58 :: 32 :: f.2).length + (printOf r).length + 2 := by
      rw [ep, List.length_append, List.length_cons, List.length_cons]; omega
    have hnp : ¬ pairB (printOf (f :: r) ++ 13 :: 10 :: rest) = true := by
      intro e
      obtain ⟨t2, e2⟩ := (pair_iff _).1 e
      rw [ep, ec] at e2
      simp only [List.cons_append, List.cons.injEq] at e2
      rw [e2.1] at hce
      exact absurd hce (by decide)
    have ee : endOf (printOf (f :: r) ++ 13 :: 10 :: rest) 0 = ((printOf (f :: r)).length + 2, 0) := by
      rw [end_some _ 0 _ (by rw [List.drop_zero]; exact ei), if_neg (by omega)]
      congr 1
      omega
    unfold tailC
    rw [if_neg hnp, ee]
    simp only [Nat.add_sub_cancel]
    rw [if_neg (by omega), take_app _ (Nat.le_refl _), List.take_of_length_le (Nat.le_refl _), hr]
    simp
theorem chs_last {fs : FL} (rest : List UInt8) (k : Nat) (h : (printP fs).2 = 0) (hc : (printP fs).1.length + 2 ≤ 8192) :
    stepC (lastC (printP fs).1 ++ rest) k = ⟨3, [], fs, (lastC (printP fs).1).length, 0⟩ := by
  have e : lineC ([48] ++ 13 :: 10 :: ((printP fs).1 ++ 13 :: 10 :: rest)) = (0, 3, 0) := lineC_hex (by decide) (by decide) (by decide)
  have el : lastC (printP fs).1 ++ rest = [48] ++ 13 :: 10 :: ((printP fs).1 ++ 13 :: 10 :: rest) := by unfold lastC; simp
  have ed : ([48] ++ 13 :: 10 :: ((printP fs).1 ++ 13 :: 10 :: rest)).drop 3 = (printP fs).1 ++ 13 :: 10 :: rest := rfl
  have en : (lastC (printP fs).1).length = 3 + ((printP fs).1.length + 2) := by unfold lastC; simp; omega
  rw [el, chs_line e (by decide), if_pos rfl, ed, tail_enc rest h hc, en]
  unfold finC
  simp
theorem enc_next {f s : Nat} {d : List UInt8} (h : d ≠ []) : encC (f + 1) d s = hexOf (d.take s).length ++ 13 :: 10 :: (d.take s ++ 13 :: 10 :: encC f (d.drop s) s) := by rw [encC, if_neg h]
/-- what is written is read -/
theorem dec_enc {fs : FL} (rest : List UInt8) (s : Nat) (hs : 0 < s) (h : (printP fs).2 = 0) (hc : (printP fs).1.length + 2 ≤ 8192) : ∀ (f : Nat) (d out : List UInt8) (p g : Nat), d.length < f → out.length + d.length ≤ 65536 →
    ((encC f d s ++ lastC (printP fs).1) ++ rest).length < g → decG g ((encC f d s ++ lastC (printP fs).1) ++ rest) out p = (out ++ d, fs, p + (encC f d s ++ lastC (printP fs).1).length, 0) := by
  intro f
  induction f with
  | zero => intro d out p g h; omega
  | succ f ih =>
    intro d out p g hf hk hg
    obtain ⟨g, rfl⟩ : ∃ g', g = g' + 1 := ⟨g - 1, by omega⟩
    by_cases hd : d = []
    · subst hd
      have e : encC (f + 1) [] s = [] := by rw [encC, if_pos rfl]
      rw [e, List.nil_append] at hg ⊢
      have hst := chs_last rest out.length h hc
      rw [dec_fin (by rw [hst]), hst, List.append_nil]
    · have hd0 : 0 < d.length := List.length_pos_iff.2 hd
      have ht0 : 0 < (d.take s).length := by rw [List.length_take]; omega
      have htl : (d.take s).length ≤ d.length := by rw [List.length_take]; omega
      have e : (encC (f + 1) d s ++ lastC (printP fs).1) ++ rest = hexOf (d.take s).length ++ 13 :: 10 :: (d.take s ++ 13 :: 10 :: ((encC f (d.drop s) s ++ lastC (printP fs).1) ++ rest)) := by
        rw [enc_next hd]; simp
      have hst := chs_enc (d := d.take s) (more := (encC f (d.drop s) s ++ lastC (printP fs).1) ++ rest) (k := out.length) ht0 (by omega)
      have ed : (hexOf (d.take s).length ++ 13 :: 10 :: (d.take s ++ 13 :: 10 :: ((encC f (d.drop s) s ++ lastC (printP fs).1) ++ rest))).drop ((hexOf (d.take s).length).length + 2 + ((d.take s).length + 2)) = (encC f (d.drop s) s ++ lastC (printP fs).1) ++ rest := by
        have e1 : hexOf (d.take s).length ++ 13 :: 10 :: (d.take s ++ 13 :: 10 :: ((encC f (d.drop s) s ++ lastC (printP fs).1) ++ rest)) = (hexOf (d.take s).length ++ [13, 10] ++ d.take s ++ [13, 10]) ++ ((encC f (d.drop s) s ++ lastC (printP fs).1) ++ rest) := by simp
        rw [e1, List.drop_append]
        have e2 : (hexOf (d.take s).length ++ [13, 10] ++ d.take s ++ [13, 10]).length = (hexOf (d.take s).length).length + 2 + ((d.take s).length + 2) := by simp only [List.length_append, List.length_cons, List.length_nil]; omega
        rw [← e2, List.drop_length, Nat.sub_self, List.drop_zero, List.nil_append]
      have elen : ((encC (f + 1) d s ++ lastC (printP fs).1) ++ rest).length = (hexOf (d.take s).length).length + 2 + ((d.take s).length + 2) + ((encC f (d.drop s) s ++ lastC (printP fs).1) ++ rest).length := by
        rw [e]; simp only [List.length_append, List.length_cons]; omega
      have elen2 : (encC (f + 1) d s ++ lastC (printP fs).1).length = (hexOf (d.take s).length).length + 2 + ((d.take s).length + 2) + (encC f (d.drop s) s ++ lastC (printP fs).1).length := by
        have h1 : ((encC (f + 1) d s ++ lastC (printP fs).1) ++ rest).length = (encC (f + 1) d s ++ lastC (printP fs).1).length + rest.length := List.length_append
        have h2 : ((encC f (d.drop s) s ++ lastC (printP fs).1) ++ rest).length = (encC f (d.drop s) s ++ lastC (printP fs).1).length + rest.length := List.length_append
        omega
      rw [elen] at hg
      rw [elen2, e, dec_chunk (by rw [hst]), hst]
      simp only
      rw [ed, ih (d.drop s) (out ++ d.take s) _ g (by rw [List.length_drop]; omega) (by rw [List.length_append, List.length_drop, List.length_take]; omega) (by omega)]
      rw [List.append_assoc, List.take_append_drop, Nat.add_assoc]
theorem enc_round {d : List UInt8} {s : Int} {fs : FL} {a : List UInt8} (h : encOf d s fs = (a, 0)) (rest : List UInt8) : decOf (a ++ rest) = (d, fs, a.length, 0) := by
  unfold encOf at h
  split at h
  · simp at h
  · rename_i h1
    split at h
    · simp at h
    · rename_i h2
      split at h
      · rename_i h3; simp only [Prod.mk.injEq] at h; exact absurd h.2 h3
      · rename_i h3
        split at h
        · simp at h
        · rename_i h4
          simp only [Prod.mk.injEq, and_true] at h
          subst h
          have := dec_enc (fs := fs) rest s.toNat (by omega) (by simpa using h3) (by omega) (d.length + 1) d [] 0 (((encC (d.length + 1) d s.toNat ++ lastC (printP fs).1) ++ rest).length + 1) (by omega) (by simp; omega) (by omega)
          unfold decOf
          rw [this]
          simp
theorem enc_pos {d : List UInt8} {s : Int} {fs : FL} {a : List UInt8} (h : encOf d s fs = (a, 0)) : 5 ≤ a.length := by
  unfold encOf at h
  split at h
  · simp at h
  · split at h
    · simp at h
    · split at h
      · rename_i h3; simp only [Prod.mk.injEq] at h; exact absurd h.2 h3
      · split at h
        · simp at h
        · simp only [Prod.mk.injEq, and_true] at h
          subst h
          unfold lastC
          simp; omega
theorem enc_short {d : List UInt8} {s : Int} {fs : FL} {a : List UInt8} (h : encOf d s fs = (a, 0)) (rest : List UInt8) : decOf ((a ++ rest).take (a.length - 1)) = ([], [], 0, 0) := by
  have h1 := enc_round h rest
  have h2 := enc_pos h
  unfold decOf at h1
  obtain ⟨j, e1, j0, j1, _, j3⟩ := dec_own _ (a ++ rest) [] 0 (Nat.lt_succ_self _) (by rw [h1]; simp; omega)
  rw [h1] at e1
  simp only [Nat.zero_add] at e1
  subst e1
  exact j3 _ (Nat.lt_succ_self _)
theorem enc_bad {d : List UInt8} {s : Int} {fs : FL} (h : (encOf d s fs).2 ≠ 0) : (encOf d s fs).1 = [] := by
  unfold encOf at h ⊢
  split
  · rfl
  · split
    · rfl
    · split
      · rfl
      · split
        · rfl
        · rename_i h1 h2 h3 h4; rw [if_neg h1, if_neg h2, if_neg h3, if_neg h4] at h; simp at h
end Go.Proofs.YtobkmepamgdccaaGreatDoor
