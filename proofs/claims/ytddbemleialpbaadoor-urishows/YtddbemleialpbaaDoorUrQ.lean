/- Layer 3 in plain words: the normal form of an address is its own normal form; letters, ports and codes that make no difference. -/
import Derived.Test.YtddbemleialpbaaDoorUrP
import Derived.Lib.ItoaNum
namespace Go.Proofs.YtddbemleialpbaaDoor
open Go.RowKit
/-- a text whose codes are each in their one form -/
inductive Clean : List UInt8 → Prop
  | nil : Clean []
  | plain (c : UInt8) (l : List UInt8) : c ≠ 37 → Clean l → Clean (c :: l)
  | code (a b : UInt8) (l : List UInt8) : 0 ≤ hexB a → 0 ≤ hexB b → code a b = [37, a, b] → Clean l → Clean (37 :: a :: b :: l)
theorem clean_recode {r : List UInt8} (h : Clean r) : recode r = some r := by
  induction h with
  | nil => rfl
  | plain c l h _ ih => rw [recode_plain c l h, ih]; rfl
  | code a b l ha hb hc _ ih => rw [recode_code a b l ha hb, ih, hc]; rfl
theorem hex_lt (c : Int) : hexI c < 16 := by
  unfold hexI
  split
  · omega
  · split
    · omega
    · split <;> omega
theorem ofI_toNat (v : Int) (h0 : 0 ≤ v) (h1 : v ≤ 255) : ((ofI v).toNat : Int) = v := by
  unfold ofI; rw [UInt8.toNat_ofNat']; omega
theorem hx_pos (v : Int) (h0 : 0 ≤ v) (h1 : v < 16) : 48 ≤ hxI v ∧ hxI v ≤ 70 ∧ ¬ (58 ≤ hxI v ∧ hxI v ≤ 64) := by
  unfold hxI; split <;> omega
theorem hex_hx (v : Int) (h0 : 0 ≤ v) (h1 : v < 16) : hexI (hxI v) = v := by
  by_cases h : v < 10
  · rw [hxI, if_pos h]; unfold hexI; rw [if_pos (by omega)]; omega
  · rw [hxI, if_neg h]; unfold hexI; rw [if_neg (by omega), if_pos (by omega)]; omega
theorem hexB_hx (v : Int) (h0 : 0 ≤ v) (h1 : v < 16) : hexB (ofI (hxI v)) = v := by
  have := hx_pos v h0 h1
  unfold hexB
  rw [ofI_toNat _ (by omega) (by omega), hex_hx v h0 h1]
theorem plain_not (v : Int) (h : plainI v = true) : v ≠ 37 ∧ 33 ≤ v ∧ v ≤ 126 ∧ v ≠ 35 ∧ v ≠ 47 ∧ v ≠ 63 := by
  unfold plainI alnumI at h
  simp at h
  omega
theorem code_clean (a b : UInt8) (ha : 0 ≤ hexB a) (hb : 0 ≤ hexB b) :
    (∃ c, c ≠ 37 ∧ addrB c = true ∧ code a b = [c]) ∨ (∃ x y, addrB x = true ∧ addrB y = true ∧ code a b = [37, x, y] ∧ 0 ≤ hexB x ∧ 0 ≤ hexB y ∧ code x y = [37, x, y]) := by
  have la : hexB a < 16 := hex_lt _
  have lb : hexB b < 16 := hex_lt _
  by_cases h : plainI (16 * hexB a + hexB b) = true
  · have hn := plain_not _ h
    have ht := ofI_toNat (16 * hexB a + hexB b) (by omega) (by omega)
    refine .inl ⟨ofI (16 * hexB a + hexB b), ?_, ?_, by unfold code; rw [if_pos h]⟩
    · intro e
      rw [e] at ht
      have : ((37 : UInt8).toNat : Int) = 37 := rfl
      omega
    · unfold addrB addrI
      rw [ht]
      exact decide_eq_true ⟨by omega, by omega, by omega⟩
  · refine .inr ⟨ofI (hxI (hexB a)), ofI (hxI (hexB b)), ?_, ?_, by unfold code; rw [if_neg h], ?_, ?_, ?_⟩
    · have := hx_pos _ ha la
      unfold addrB addrI; rw [ofI_toNat _ (by omega) (by omega)]; exact decide_eq_true ⟨by omega, by omega, by omega⟩
    · have := hx_pos _ hb lb
      unfold addrB addrI; rw [ofI_toNat _ (by omega) (by omega)]; exact decide_eq_true ⟨by omega, by omega, by omega⟩
    · rw [hexB_hx _ ha la]; exact ha
    · rw [hexB_hx _ hb lb]; exact hb
    · rw [code, hexB_hx _ ha la, hexB_hx _ hb lb, if_neg h]
/-- what is recoded is in its one form, of good bytes, and begins as it began -/
theorem recode_clean : ∀ (n : Nat) (l r : List UInt8), l.length ≤ n → recode l = some r → l.all addrB = true → Clean r ∧ r.all addrB = true
  | _, [], r, _, h, _ => by simp [recode] at h; subst h; exact ⟨.nil, rfl⟩
  | 0, c :: l, r, hn, _, _ => by simp at hn
  | n + 1, c :: l, r, hn, h, ha => by
    simp only [List.all_cons, Bool.and_eq_true] at ha
    by_cases hc : c = 37
    · subst hc
      match l, h, ha, hn with
      | [], h, _, _ => simp [recode] at h
      | [d], h, _, _ => simp [recode] at h
      | a :: b :: l, h, ha, hn =>
        by_cases hb : hexB a < 0 ∨ hexB b < 0
        · rw [recode_bad a b l hb] at h; cases h
        · rw [recode_code a b l (by omega) (by omega)] at h
          simp only [List.all_cons, Bool.and_eq_true] at ha
          cases hr : recode l with
          | none => rw [hr] at h; cases h
          | some q =>
            rw [hr] at h
            obtain rfl : code a b ++ q = r := by simpa using h
            have ih := recode_clean n l q (by simp at hn; omega) hr ha.2.2.2
            rcases code_clean a b (by omega) (by omega) with ⟨x, hx, hxa, e⟩ | ⟨x, y, hxa, hya, e, h1, h2, h3⟩
            · rw [e]; exact ⟨.plain _ _ hx ih.1, by simp [hxa, ih.2]⟩
            · rw [e]; exact ⟨.code _ _ _ h1 h2 h3 ih.1, by simp [hxa, hya, ih.2]; rfl⟩
    · rw [recode_plain c l hc] at h
      cases hr : recode l with
      | none => rw [hr] at h; cases h
      | some q =>
        rw [hr] at h
        obtain rfl : c :: q = r := by simpa using h
        have ih := recode_clean n l q (by simp at hn; omega) hr ha.2
        exact ⟨.plain _ _ hc ih.1, by simp [ha.1, ih.2]⟩
theorem clean_app {a b : List UInt8} (ha : Clean a) (hb : Clean b) : Clean (a ++ b) := by
  induction ha with
  | nil => exact hb
  | plain c l h _ ih => exact .plain _ _ h ih
  | code x y l h1 h2 h3 _ ih => exact .code _ _ _ h1 h2 h3 ih
theorem clean_cut {c : UInt8} {b : List UInt8} (hc : hexB c < 0) (h37 : c ≠ 37) {l : List UInt8} (h : Clean l) : ∀ {a : List UInt8}, a ++ c :: b = l → Clean a ∧ Clean b := by
  induction h with
  | nil => intro a e; simp at e
  | plain d l hd hl ih =>
    intro a e
    cases a with
    | nil => simp at e; obtain ⟨rfl, rfl⟩ := e; exact ⟨.nil, hl⟩
    | cons d' a =>
      simp only [List.cons_append, List.cons.injEq] at e
      obtain ⟨rfl, e⟩ := e
      have := ih e
      exact ⟨.plain _ _ hd this.1, this.2⟩
  | code x y l hx hy hxy hl ih =>
    intro a e
    match a, e with
    | [], e => simp at e; exact absurd e.1 h37
    | [d], e => simp at e; obtain ⟨_, rfl, _⟩ := e; omega
    | [d, d2], e => simp at e; obtain ⟨_, _, rfl, _⟩ := e; omega
    | d :: d2 :: d3 :: a, e =>
      simp only [List.cons_append, List.cons.injEq] at e
      obtain ⟨rfl, rfl, rfl, e5⟩ := e
      have := ih e5
      exact ⟨.code _ _ _ hx hy hxy this.1, this.2⟩
theorem pieces_plain (c : UInt8) (l : List UInt8) (h : c ≠ 47) (q : List UInt8) (qs : List (List UInt8)) (e : pieces l = q :: qs) : pieces (c :: l) = (c :: q) :: qs := by
  rw [pieces, if_neg h, e]; rfl
theorem clean_pieces {l : List UInt8} (h : Clean l) : ∀ p ∈ pieces l, Clean p := by
  induction h with
  | nil => intro p hp; simp [pieces] at hp; subst hp; exact .nil
  | plain c l hc hl ih =>
    cases hp : pieces l with
    | nil => exact absurd hp (pieces_ne l)
    | cons q qs =>
      rw [hp] at ih
      by_cases e : c = 47
      · subst e
        rw [pieces, if_pos rfl, hp]
        intro p hm
        rcases List.mem_cons.1 hm with rfl | hm
        · exact .nil
        · exact ih p hm
      · rw [pieces_plain c l e q qs hp]
        intro p hm
        rcases List.mem_cons.1 hm with rfl | hm
        · exact .plain _ _ hc (ih q (by simp))
        · exact ih p (by simp [hm])
  | code a b l ha hb hab hl ih =>
    cases hp : pieces l with
    | nil => exact absurd hp (pieces_ne l)
    | cons q qs =>
      rw [hp] at ih
      have n : ∀ x : UInt8, 0 ≤ hexB x → x ≠ 47 := by
        intro x hx e; subst e; revert hx; decide
      rw [pieces_plain 37 (a :: b :: l) (by decide) (a :: b :: q) qs (pieces_plain a (b :: l) (n a ha) (b :: q) qs (pieces_plain b l (n b hb) q qs hp))]
      intro p hm
      rcases List.mem_cons.1 hm with rfl | hm
      · exact .code _ _ _ ha hb hab (ih q (by simp))
      · exact ih p (by simp [hm])
theorem pieces_mem (l : List UInt8) : ∀ p ∈ pieces l, ∀ c ∈ p, c ≠ 47 ∧ c ∈ l := by
  induction l with
  | nil => intro p hp c hc; simp [pieces] at hp; subst hp; simp at hc
  | cons d l ih =>
    cases hp : pieces l with
    | nil => exact absurd hp (pieces_ne l)
    | cons q qs =>
      rw [hp] at ih
      by_cases e : d = 47
      · subst e
        rw [pieces, if_pos rfl, hp]
        intro p hm c hc
        rcases List.mem_cons.1 hm with rfl | hm
        · simp at hc
        · have := ih p hm c hc; exact ⟨this.1, by simp [this.2]⟩
      · rw [pieces_plain d l e q qs hp]
        intro p hm c hc
        rcases List.mem_cons.1 hm with rfl | hm
        · rcases List.mem_cons.1 hc with rfl | hc
          · exact ⟨e, by simp⟩
          · have := ih q (by simp) c hc; exact ⟨this.1, by simp [this.2]⟩
        · have := ih p (by simp [hm]) c hc; exact ⟨this.1, by simp [this.2]⟩
theorem left_aux (P : List UInt8 → Prop) : ∀ (ps st : List (List UInt8)), (∀ p ∈ st, P p) → (∀ p ∈ ps, isDot p = false → P p) → ∀ p ∈ ps.foldl step st, P p
  | [], _, h, _ => h
  | q :: qs, st, h, h2 => by
    rw [List.foldl_cons]
    refine left_aux P qs _ ?_ (fun p hp => h2 p (by simp [hp]))
    intro p hp
    unfold step at hp
    split at hp
    · exact h p hp
    · next h1 =>
      split at hp
      · exact h p (List.dropLast_subset _ hp)
      · next h3 =>
        rcases List.mem_append.1 hp with hp | hp
        · exact h p hp
        · simp at hp; subst hp; exact h2 p (by simp) (by simp [isDot, h1, h3])
/-- the segments that a path keeps -/
def kept (ps : List (List UInt8)) : List (List UInt8) := left ps ++ if lastDot ps then [[]] else []
theorem kept_mem (ps : List (List UInt8)) : ∀ p ∈ kept ps, (p ∈ ps ∨ p = []) ∧ isDot p = false := by
  intro p hp
  unfold kept at hp
  rcases List.mem_append.1 hp with hp | hp
  · have := left_aux (fun p => p ∈ ps ∧ isDot p = false) ps [] (by simp) (fun p h1 h2 => ⟨h1, h2⟩) p hp
    exact ⟨.inl this.1, this.2⟩
  · split at hp
    · simp at hp; subst hp; exact ⟨.inr rfl, rfl⟩
    · simp at hp
theorem kept_ne (ps : List (List UInt8)) (hne : ps ≠ []) : kept ps ≠ [] := by
  unfold kept
  by_cases h : lastDot ps = true
  · rw [if_pos h]; simp
  · rw [if_neg h, List.append_nil]
    rcases List.eq_nil_or_concat ps with e | ⟨qs, q, e⟩
    · exact absurd e hne
    · subst e
      rw [List.concat_eq_append] at h ⊢
      rw [lastDot_snoc] at h
      rw [left_snoc]
      unfold isDot at h
      unfold step
      simp at h
      rw [if_neg h.1, if_neg h.2]
      simp
theorem tidy_kept (ps : List (List UInt8)) : tidyP ps = shut (kept ps) := rfl
theorem shut_cons (q : List UInt8) (qs : List (List UInt8)) : shut (q :: qs) = 47 :: (q ++ shut qs) := by simp [shut]
theorem pieces_shut : ∀ (qs : List (List UInt8)), qs ≠ [] → (∀ q ∈ qs, ∀ c ∈ q, c ≠ 47) → pieces ((shut qs).drop 1) = qs
  | [], h, _ => absurd rfl h
  | [q], _, h => by
    rw [shut_cons, List.drop_succ_cons, List.drop_zero, show shut [] = [] from rfl, List.append_nil]
    exact pieces_one q (h q (by simp))
  | q :: q2 :: qs, _, h => by
    have ih := pieces_shut (q2 :: qs) (by simp) (fun x hx => h x (by simp [hx]))
    rw [shut_cons, List.drop_succ_cons, List.drop_zero] at ih ⊢
    rw [shut_cons, pieces_split q _ (h q (by simp)), ih]
theorem left_id_aux : ∀ (qs st : List (List UInt8)), (∀ q ∈ qs, isDot q = false) → qs.foldl step st = st ++ qs
  | [], st, _ => by simp
  | q :: qs, st, h => by
    have h1 := h q (by simp)
    unfold isDot at h1
    simp at h1
    rw [List.foldl_cons, left_id_aux qs _ (fun x hx => h x (by simp [hx]))]
    unfold step
    rw [if_neg h1.1, if_neg h1.2]
    simp
theorem kept_id (qs : List (List UInt8)) (h : ∀ q ∈ qs, isDot q = false) : kept qs = qs := by
  unfold kept left
  rw [left_id_aux qs [] h]
  have : lastDot qs = false := by
    unfold lastDot
    cases e : qs.getLast? with
    | none => rfl
    | some x => exact h x (List.mem_of_getLast? e)
  rw [this]
  simp
theorem norm_id (qs : List (List UInt8)) (hne : qs ≠ []) (h : ∀ q ∈ qs, isDot q = false) (h47 : ∀ q ∈ qs, ∀ c ∈ q, c ≠ 47) : normPath (shut qs) = shut qs := by
  unfold normPath
  rw [pieces_shut qs hne h47, tidy_kept, kept_id qs h]
theorem while_app (p : UInt8 → Bool) (a b : List UInt8) (ha : ∀ c ∈ a, p c = true) (hb : ∀ c r, b = c :: r → p c = false) : (a ++ b).takeWhile p = a ∧ (a ++ b).dropWhile p = b := by
  induction a with
  | nil =>
    cases b with
    | nil => exact ⟨rfl, rfl⟩
    | cons c r => have := hb c r rfl; simp [this]
  | cons c a ih =>
    have h1 := ha c (by simp)
    have h2 := ih (fun d hd => ha d (by simp [hd]))
    simp [h1, h2]
theorem while_app2 (p : UInt8 → Bool) (l : List UInt8) : l.takeWhile p ++ l.dropWhile p = l := List.takeWhile_append_dropWhile
theorem take_mem (p : UInt8 → Bool) (l : List UInt8) : ∀ c ∈ l.takeWhile p, p c = true := by
  induction l with
  | nil => simp
  | cons d l ih =>
    intro c hc
    by_cases h : p d = true
    · rw [List.takeWhile_cons_of_pos h] at hc
      rcases List.mem_cons.1 hc with rfl | hc
      · exact h
      · exact ih c hc
    · rw [List.takeWhile_cons_of_neg h] at hc; simp at hc
theorem drop_head (p : UInt8 → Bool) (l : List UInt8) : ∀ c r, l.dropWhile p = c :: r → p c = false := by
  induction l with
  | nil => intro c r e; simp at e
  | cons d l ih =>
    intro c r e
    by_cases h : p d = true
    · rw [List.dropWhile_cons_of_pos h] at e; exact ih c r e
    · rw [List.dropWhile_cons_of_neg h] at e
      simp only [List.cons.injEq] at e
      obtain ⟨rfl, _⟩ := e
      simpa using h
theorem noAsk_iff (c : UInt8) : noAsk c = false ↔ c = 63 := by unfold noAsk; simp
/-- what is kept of a rest: its segments, and what stands from the question mark on -/
def segs (r : List UInt8) : List (List UInt8) := kept (pieces ((r.takeWhile noAsk).drop 1))
theorem normal_eq (r : List UInt8) : normal r = shut (segs r) ++ r.dropWhile noAsk := rfl
theorem segs_ne (r : List UInt8) : segs r ≠ [] := kept_ne _ (pieces_ne _)
theorem segs_mem (r : List UInt8) : ∀ q ∈ segs r, isDot q = false ∧ ∀ c ∈ q, c ≠ 47 ∧ c ≠ 63 ∧ c ∈ r := by
  intro q hq
  have h := kept_mem _ q hq
  refine ⟨h.2, fun c hc => ?_⟩
  rcases h.1 with h1 | h1
  · have h2 := pieces_mem _ q h1 c hc
    have h3 := List.mem_of_mem_drop h2.2
    have h4 := take_mem noAsk r c h3
    refine ⟨h2.1, fun e => ?_, ?_⟩
    · subst e; simp [noAsk] at h4
    · exact (List.takeWhile_sublist (l := r) noAsk).subset h3
  · subst h1; simp at hc
theorem shut_mem (qs : List (List UInt8)) : ∀ c ∈ shut qs, c = 47 ∨ ∃ q ∈ qs, c ∈ q := by
  intro c hc
  unfold shut at hc
  rw [List.mem_flatMap] at hc
  obtain ⟨q, hq, hc⟩ := hc
  rcases List.mem_cons.1 hc with rfl | hc
  · exact .inl rfl
  · exact .inr ⟨q, hq, hc⟩
theorem shut_noAsk (r : List UInt8) : ∀ c ∈ shut (segs r), noAsk c = true := by
  intro c hc
  rcases shut_mem _ c hc with rfl | ⟨q, hq, hc⟩
  · rfl
  · have := (segs_mem r q hq).2 c hc; simp [noAsk, this.2.1]
theorem normal_id (r : List UInt8) : normal (normal r) = normal r := by
  have h := while_app noAsk (shut (segs r)) (r.dropWhile noAsk) (shut_noAsk r) (drop_head noAsk r)
  rw [normal_eq r]
  conv => lhs; unfold normal
  rw [h.1, h.2, norm_id _ (segs_ne r) (fun q hq => (segs_mem r q hq).1) (fun q hq c hc => ((segs_mem r q hq).2 c hc).1)]
theorem normal_head (r : List UInt8) : ∃ l, normal r = 47 :: l := by
  rw [normal_eq]
  cases h : segs r with
  | nil => exact absurd h (segs_ne r)
  | cons q qs => rw [shut_cons]; exact ⟨_, rfl⟩
theorem clean_shut (qs : List (List UInt8)) (h : ∀ q ∈ qs, Clean q) : Clean (shut qs) := by
  induction qs with
  | nil => exact .nil
  | cons q qs ih =>
    rw [shut_cons]
    exact .plain _ _ (by decide) (clean_app (h q (by simp)) (ih (fun x hx => h x (by simp [hx]))))
theorem clean_normal (r : List UInt8) (h : Clean r) (hd : ∀ c l, r = c :: l → c = 47 ∨ c = 63) : Clean (normal r) := by
  have hr := while_app2 noAsk r
  have hdh := drop_head noAsk r
  have ht : Clean (r.takeWhile noAsk) ∧ Clean (r.dropWhile noAsk) := by
    cases e : r.dropWhile noAsk with
    | nil => rw [e, List.append_nil] at hr; rw [hr]; exact ⟨h, .nil⟩
    | cons c q =>
      have hc := (noAsk_iff c).1 (hdh c q e)
      subst hc
      rw [e] at hr
      have := clean_cut (by decide) (by decide) h hr
      exact ⟨this.1, .plain _ _ (by decide) this.2⟩
  have ht2 : Clean ((r.takeWhile noAsk).drop 1) := by
    cases e : r.takeWhile noAsk with
    | nil => exact .nil
    | cons c q =>
      have hc : c ≠ 37 := by
        rw [e, List.cons_append] at hr
        rcases hd c _ hr.symm with rfl | rfl <;> decide
      rw [e] at ht
      rw [List.drop_succ_cons, List.drop_zero]
      cases ht.1 with
      | plain _ _ _ hq => exact hq
      | code _ _ _ _ _ _ _ => exact absurd rfl hc
  rw [normal_eq]
  refine clean_app (clean_shut _ fun q hq => ?_) ht.2
  rcases (kept_mem _ q hq).1 with hm | rfl
  · exact clean_pieces ht2 q hm
  · exact .nil
end Go.Proofs.YtddbemleialpbaaDoor
