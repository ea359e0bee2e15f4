/- Layer 3 in plain words: what an address that is read is made of; its shown form; addresses put together. -/
import Derived.Test.YtddbemleialpbaaDoorUrQ
namespace Go.Proofs.YtddbemleialpbaaDoor
open Go.RowKit
theorem num_snoc (l : List UInt8) (c : UInt8) : numOf (l ++ [c]) = numOf l * 10 + ((c.toNat : Int) - 48) := by simp [numOf]
theorem dec_dig (k : Nat) (h : k < 10) : ((UInt8.ofNat (48 + k)).toNat : Int) = 48 + k := by rw [UInt8.toNat_ofNat']; omega
theorem dec_num (n : Nat) : numOf (Lib.decDigits n) = n ∧ (Lib.decDigits n).all digB = true ∧ Lib.decDigits n ≠ [] := by
  induction n using Nat.strongRecOn with
  | ind n ih =>
    by_cases h : n < 10
    · rw [Lib.decDigits_one h]
      have := dec_dig n h
      refine ⟨?_, ?_, by simp⟩
      · rw [show [UInt8.ofNat (48 + n)] = [] ++ [UInt8.ofNat (48 + n)] from rfl, num_snoc, this]; simp [numOf]; omega
      · simp [digB]; omega
    · have ih := ih (n / 10) (by omega)
      rw [Lib.decDigits, dif_neg h]
      have := dec_dig (n % 10) (by omega)
      refine ⟨?_, ?_, by simp⟩
      · rw [num_snoc, ih.1, this]; omega
      · rw [List.all_append, ih.2.1]; simp [digB]; omega
theorem dec_len : ∀ (k n : Nat), n < 10 ^ (k + 1) → (Lib.decDigits n).length ≤ k + 1
  | 0, n, h => by rw [Lib.decDigits_one (by simpa using h)]; simp
  | k + 1, n, h => by
    by_cases h1 : n < 10
    · rw [Lib.decDigits_one h1]; simp
    · rw [Lib.decDigits, dif_neg h1]
      have := dec_len k (n / 10) (by rw [Nat.pow_succ] at h; omega)
      simp; omega
theorem port_dec (p : Int) (h0 : 1 ≤ p) (h1 : p ≤ 65535) : portOf (Lib.itoa p) = p ∧ (Lib.itoa p).all digB = true ∧ Lib.itoa p ≠ [] ∧ (Lib.itoa p).length ≤ 5 := by
  obtain ⟨n, rfl⟩ : ∃ n : Nat, p = n := ⟨p.toNat, by omega⟩
  have e : Lib.itoa (n : Int) = Lib.decDigits n := by unfold Lib.itoa; rw [if_neg (by omega), Int.toNat_natCast]
  have h := dec_num n
  have hl := dec_len 4 n (by omega)
  rw [e]
  refine ⟨?_, h.2.1, h.2.2, hl⟩
  unfold portOf
  rw [if_pos ⟨hl, h.2.1, by rw [h.1]; exact h1⟩, h.1]
theorem num_nonneg (l : List UInt8) (h : l.all digB = true) : 0 ≤ numOf l := by
  suffices H : ∀ (l : List UInt8) (v : Int), l.all digB = true → 0 ≤ v → 0 ≤ l.foldl (fun v c => v * 10 + ((c.toNat : Int) - 48)) v from H l 0 h (Int.le_refl _)
  intro l
  induction l with
  | nil => intro v _ hv; exact hv
  | cons c l ih =>
    intro v ha hv
    simp only [List.all_cons, Bool.and_eq_true] at ha
    have := of_decide_eq_true ha.1
    rw [List.foldl_cons]
    exact ih _ ha.2 (by omega)
theorem portOf_range (d : List UInt8) : 0 ≤ portOf d ∧ portOf d ≤ 65535 := by
  unfold portOf
  split
  · next h => exact ⟨num_nonneg d h.2.1, h.2.2⟩
  · omega
theorem portSaid_range (d : List UInt8) : 0 ≤ portSaid d ∧ portSaid d ≤ 65535 := by
  unfold portSaid
  split
  · omega
  · exact portOf_range d
theorem low_low (c : UInt8) : low (low c) = low c := by
  by_cases h : 65 ≤ (c.toNat : Int) ∧ (c.toNat : Int) ≤ 90
  · have := low_up c h.1 h.2
    exact low_same _ (by omega)
  · rw [low_same c h, low_same c h]
theorem lows_lows (l : List UInt8) : lows (lows l) = lows l := by simp [lows, low_low]
theorem addr_low (c : UInt8) : addrB (low c) = addrB c := by
  by_cases h : 65 ≤ (c.toNat : Int) ∧ (c.toNat : Int) ≤ 90
  · have := low_up c h.1 h.2
    unfold addrB addrI
    rw [this, decide_eq_decide]; omega
  · rw [low_same c h]
theorem host_low (c : UInt8) : hostB (low c) = hostB c := by
  by_cases h : 65 ≤ (c.toNat : Int) ∧ (c.toNat : Int) ≤ 90
  · have := low_up c h.1 h.2
    have e1 : hostB (low c) = true := by unfold hostB hostI alnumI; rw [this]; simp; omega
    have e2 : hostB c = true := by unfold hostB hostI alnumI; simp; omega
    rw [e1, e2]
  · rw [low_same c h]
theorem all_low (p : UInt8 → Bool) (h : ∀ c, p (low c) = p c) (l : List UInt8) : (lows l).all p = l.all p := by
  induction l with
  | nil => rfl
  | cons c l ih =>
    rw [show lows (c :: l) = low c :: lows l from rfl, List.all_cons, List.all_cons, ih, h]
theorem isHost_low (l : List UInt8) : isHost (lows l) = isHost l := by
  unfold isHost; rw [all_low hostB host_low, lows_len]
theorem host_addr (c : UInt8) (h : hostB c = true) : addrB c = true ∧ c ≠ 47 ∧ c ≠ 63 ∧ c ≠ 58 := by
  unfold hostB hostI alnumI at h
  simp at h
  refine ⟨by unfold addrB addrI; exact decide_eq_true (by omega), ?_, ?_, ?_⟩
  all_goals
    intro e
    subst e
    revert h
    decide
theorem dig_addr (c : UInt8) (h : digB c = true) : addrB c = true ∧ c ≠ 47 ∧ c ≠ 63 ∧ c ≠ 58 := by
  have h := of_decide_eq_true h
  refine ⟨by unfold addrB addrI; exact decide_eq_true (by omega), ?_, ?_, ?_⟩
  all_goals
    intro e
    subst e
    revert h
    decide
/-- what is known of an address that is read -/
structure Good (t : Tgt) : Prop where
  ex : ∃ h r : List UInt8, isHost h = true ∧ t.host = lows h ∧ t.path = normal r ∧ Clean r ∧ r.all addrB = true ∧ ∀ c l, r = c :: l → c = 47 ∨ c = 63
  lo : 1 ≤ t.port
  hi : t.port ≤ 65535
theorem recode_head (rest r : List UInt8) (h : recode rest = some r) (hd : ∀ c l, rest = c :: l → c = 47 ∨ c = 63) : ∀ c l, r = c :: l → c = 47 ∨ c = 63 := by
  cases rest with
  | nil => simp [recode] at h; subst h; intro c l e; cases e
  | cons d q =>
    have hd := hd d q rfl
    rw [recode_plain d q (by rcases hd with rfl | rfl <;> decide)] at h
    cases hq : recode q with
    | none => rw [hq] at h; cases h
    | some x =>
      rw [hq] at h
      obtain rfl : d :: x = r := by simpa using h
      intro c l e
      simp only [List.cons.injEq] at e
      obtain ⟨rfl, _⟩ := e
      exact hd
theorem noEnd_iff (c : UInt8) : noEnd c = false ↔ c = 47 ∨ c = 63 := by
  unfold noEnd
  simp only [decide_eq_false_iff_not]
  constructor
  · intro h
    by_cases e : c = 47
    · exact .inl e
    · by_cases e2 : c = 63
      · exact .inr e2
      · exact absurd ⟨e, e2⟩ h
  · rintro (rfl | rfl) ⟨h1, h2⟩
    · exact h1 rfl
    · exact h2 rfl
theorem all_drop (p q : UInt8 → Bool) (l : List UInt8) (h : l.all p = true) : (l.dropWhile q).all p = true := by
  rw [List.all_eq_true] at h ⊢
  intro c hc
  exact h c ((List.dropWhile_sublist (l := l) q).subset hc)
theorem parse_cases (l : List UInt8) : ((parseP l).2 ≠ 0 ∧ (parseP l).1 = Tgt.none) ∨ ((parseP l).2 = 0 ∧ Good (parseP l).1) := by
  unfold parseP
  split
  · exact .inl ⟨by simp, rfl⟩
  split
  · exact .inl ⟨by simp, rfl⟩
  next ha =>
  split
  · exact .inl ⟨by simp, rfl⟩
  unfold readAu
  split
  · exact .inl ⟨by simp, rfl⟩
  next hh =>
  split
  · exact .inl ⟨by simp, rfl⟩
  next hp =>
  have hr := portSaid_range (digsOf ((l.drop 7).takeWhile noEnd))
  have ha2 : (l.drop 7).all addrB = true := by
    have ha : l.all addrB = true := by simpa using ha
    rw [List.all_eq_true] at ha ⊢
    intro c hc
    exact ha c (List.mem_of_mem_drop hc)
  unfold readRest
  split
  · exact .inl ⟨by simp, rfl⟩
  next r hrec =>
  have hd : ∀ c q, (l.drop 7).dropWhile noEnd = c :: q → c = 47 ∨ c = 63 := fun c q e => (noEnd_iff c).1 (drop_head noEnd _ c q e)
  have hc := recode_clean _ _ r (Nat.le_refl _) hrec (all_drop addrB noEnd _ ha2)
  exact .inr ⟨rfl, ⟨_, r, by simpa using hh, rfl, rfl, hc.1, hc.2, recode_head _ r hrec hd⟩, by simp only; omega, hr.2⟩
theorem all_normal (r : List UInt8) (h : r.all addrB = true) : (normal r).all addrB = true := by
  rw [normal_eq, List.all_append, all_drop addrB noAsk r h, Bool.and_true]
  rw [List.all_eq_true] at h ⊢
  intro c hc
  rcases shut_mem _ c hc with rfl | ⟨q, hq, hc⟩
  · rfl
  · exact h c ((segs_mem r q hq).2 c hc).2.2
/-- an address put together: a scheme, a host's text, what stands of the port, and the rest -/
theorem parse_built (pre h pp r : List UInt8) (hp7 : pre.length = 7) (hph : lows pre = http) (hpa : pre.all addrB = true) (hppa : pp.all addrB = true)
    (hh : ∀ c ∈ h, c ≠ 58 ∧ c ≠ 47 ∧ c ≠ 63) (hpp : ∀ c d, pp = c :: d → c = 58) (hpe : ∀ c ∈ pp, c ≠ 47 ∧ c ≠ 63) (hr : ∀ c l, r = c :: l → c = 47 ∨ c = 63) (hl : h.length + pp.length + r.length ≤ 4089) :
    parseP (pre ++ (h ++ (pp ++ r))) = if (h.all addrB && r.all addrB) = false then (Tgt.none, 30) else if isHost h = false then (Tgt.none, 32) else if portSaid (pp.drop 1) = 0 then (Tgt.none, 33) else readRest h (portSaid (pp.drop 1)) (recode r) := by
  have e7 : (pre ++ (h ++ (pp ++ r))).take 7 = pre := by rw [← hp7]; exact List.take_left
  have d7 : (pre ++ (h ++ (pp ++ r))).drop 7 = h ++ (pp ++ r) := by rw [← hp7]; exact List.drop_left
  have hw := while_app noEnd (h ++ pp) r (by
    intro c hc
    rcases List.mem_append.1 hc with hc | hc
    · have := hh c hc; exact decide_eq_true ⟨this.2.1, this.2.2⟩
    · exact decide_eq_true (hpe c hc)) (fun c l e => (noEnd_iff c).2 (hr c l e))
  have hw2 := while_app noCol h pp (fun c hc => decide_eq_true (hh c hc).1) (fun c d e => by rw [hpp c d e]; rfl)
  unfold parseP
  rw [if_neg (by simp; omega), e7, d7, hph, if_neg (by simp : ¬ (http ≠ http)), ← List.append_assoc h pp r, hw.1, hw.2]
  have ea : (pre ++ (h ++ pp ++ r)).all addrB = (h.all addrB && r.all addrB) := by
    simp only [List.all_append, hpa, hppa, Bool.true_and, Bool.and_true]
  rw [ea]
  unfold readAu hostOf digsOf
  rw [hw2.1, hw2.2]
/-- the target as an absolute address, and its host and port -/
def portPart (p : Int) : List UInt8 := if p = 80 then [] else 58 :: Lib.itoa p
def showP (t : Tgt) : List UInt8 := http ++ (t.host ++ (portPart t.port ++ t.path))
def originP (t : Tgt) : List UInt8 := t.host ++ 58 :: Lib.itoa t.port
theorem host_free (h : List UInt8) (hh : isHost h = true) : ∀ c ∈ lows h, addrB c = true ∧ c ≠ 47 ∧ c ≠ 63 ∧ c ≠ 58 := by
  intro c hc
  rw [← isHost_low] at hh
  unfold isHost at hh
  simp only [Bool.and_eq_true] at hh
  exact host_addr c (List.all_eq_true.1 hh.1.1 c hc)
theorem host_len (h : List UInt8) (hh : isHost h = true) : 1 ≤ h.length ∧ h.length ≤ 255 := by
  unfold isHost at hh
  simp at hh
  exact ⟨hh.1.2, hh.2⟩
theorem part_facts (p : Int) (h0 : 1 ≤ p) (h1 : p ≤ 65535) : (portPart p).all addrB = true ∧ (∀ c d, portPart p = c :: d → c = 58) ∧ (∀ c ∈ portPart p, c ≠ 47 ∧ c ≠ 63) ∧ portSaid ((portPart p).drop 1) = p ∧ (portPart p).length ≤ 6 := by
  unfold portPart
  split
  · next e => subst e; exact ⟨rfl, by simp, by simp, rfl, by simp⟩
  · have h := port_dec p h0 h1
    refine ⟨?_, ?_, ?_, ?_, by simp; omega⟩
    · rw [List.all_cons]
      simp only [Bool.and_eq_true]
      refine ⟨by decide, ?_⟩
      rw [List.all_eq_true]
      intro c hc
      exact (dig_addr c (List.all_eq_true.1 h.2.1 c hc)).1
    · intro c d e; simp only [List.cons.injEq] at e; exact e.1.symm
    · intro c hc
      rcases List.mem_cons.1 hc with rfl | hc
      · decide
      · have := dig_addr c (List.all_eq_true.1 h.2.1 c hc); exact ⟨this.2.1, this.2.2.1⟩
    · rw [List.drop_succ_cons, List.drop_zero]
      unfold portSaid
      rw [if_neg h.2.2.1, h.1]
theorem round_parse (t : Tgt) (g : Good t) (hl : (showP t).length ≤ 4096) : parseP (showP t) = (t, 0) := by
  obtain ⟨⟨h, r, hh, e1, e2, hc, ha, hd⟩, h0, h1⟩ := g
  obtain ⟨th, tp, tq⟩ := t
  simp only at e1 e2 h0 h1
  subst e1 e2
  have hf := host_free h hh
  have pf := part_facts tp h0 h1
  obtain ⟨x, hx⟩ := normal_head r
  have hlen : http.length = 7 := rfl
  unfold showP at hl ⊢
  simp only [List.length_append, hlen] at hl ⊢
  rw [parse_built http (lows h) (portPart tp) (normal r) rfl (by decide) (by decide) pf.1 (fun c hc => ⟨(hf c hc).2.2.2, (hf c hc).2.1, (hf c hc).2.2.1⟩) pf.2.1 pf.2.2.1
    (fun c l e => by rw [hx] at e; simp only [List.cons.injEq] at e; exact .inl e.1.symm) (by omega)]
  have a1 : (lows h).all addrB = true := by rw [List.all_eq_true]; exact fun c hc => (hf c hc).1
  rw [a1, all_normal r ha, isHost_low, hh, pf.2.2.2.1, clean_recode (clean_normal r hc hd)]
  rw [if_neg (by simp), if_neg (by simp), if_neg (by omega)]
  unfold readRest
  simp only
  rw [lows_lows, normal_id]
theorem round_auth (t : Tgt) (g : Good t) : authP (originP t) = (⟨t.host, t.port, []⟩, 0) := by
  obtain ⟨⟨h, r, hh, e1, e2, hc, ha, hd⟩, h0, h1⟩ := g
  obtain ⟨th, tp, tq⟩ := t
  simp only at e1 e2 h0 h1
  subst e1 e2
  have hf := host_free h hh
  have hl := host_len h hh
  have pd := port_dec tp h0 h1
  have hw := while_app noCol (lows h) (58 :: Lib.itoa tp) (fun c hc => decide_eq_true (hf c hc).2.2.2) (fun c d e => by simp only [List.cons.injEq] at e; rw [← e.1]; rfl)
  unfold authP originP hostOf digsOf
  simp only
  rw [hw.1, hw.2, List.drop_succ_cons, List.drop_zero, pd.1, isHost_low, hh, if_neg (by simp [lows_len]; omega), if_neg (by simp), if_neg (by omega), lows_lows]
/-- letters in another case, and the default port told or not -/
theorem same_plain (h r : List UInt8) (hh : ∀ c ∈ h, c ≠ 58 ∧ c ≠ 47 ∧ c ≠ 63) (hr : ∀ c l, r = c :: l → c = 47 ∨ c = 63) (hl : h.length + r.length ≤ 4000) :
    parseP ([104, 84, 84, 112, 58, 47, 47] ++ (lows h ++ ([58, 56, 48] ++ r))) = parseP (http ++ (h ++ ([] ++ r))) ∧ parseP (http ++ (h ++ ([58] ++ r))) = parseP (http ++ (h ++ ([] ++ r))) := by
  have hh2 : ∀ c ∈ lows h, c ≠ 58 ∧ c ≠ 47 ∧ c ≠ 63 := by
    intro c hc
    unfold lows at hc
    rw [List.mem_map] at hc
    obtain ⟨d, hd, rfl⟩ := hc
    by_cases hu : 65 ≤ (d.toNat : Int) ∧ (d.toNat : Int) ≤ 90
    · have hx := low_up d hu.1 hu.2
      refine ⟨?_, ?_, ?_⟩
      all_goals
        intro e
        rw [e] at hx
        have k1 : ((58 : UInt8).toNat : Int) = 58 := rfl
        have k2 : ((47 : UInt8).toNat : Int) = 47 := rfl
        have k3 : ((63 : UInt8).toNat : Int) = 63 := rfl
        omega
    · rw [low_same d hu]; exact hh d hd
  rw [parse_built http h [] r rfl (by decide) (by decide) rfl hh (by simp) (by simp) hr (by simp; omega),
    parse_built http h [58] r rfl (by decide) (by decide) (by decide) hh (by simp) (by decide) hr (by simp; omega),
    parse_built [104, 84, 84, 112, 58, 47, 47] (lows h) [58, 56, 48] r rfl (by decide) (by decide) (by decide) hh2 (by simp) (by decide) hr (by simp [lows_len]; omega)]
  rw [all_low addrB addr_low, isHost_low]
  have p1 : portSaid (([58, 56, 48] : List UInt8).drop 1) = 80 := by decide
  have p2 : portSaid (([58] : List UInt8).drop 1) = 80 := by decide
  have p3 : portSaid (([] : List UInt8).drop 1) = 80 := by decide
  rw [p1, p2, p3]
  refine ⟨?_, rfl⟩
  have : readRest (lows h) 80 (recode r) = readRest h 80 (recode r) := by unfold readRest; rw [lows_lows]
  rw [this]
theorem recode_pre (a u v : List UInt8) (h : ∀ c ∈ a, c ≠ 37) (e : recode u = recode v) : recode (a ++ u) = recode (a ++ v) := by
  induction a with
  | nil => exact e
  | cons c a ih =>
    rw [List.cons_append, List.cons_append, recode_plain _ _ (h c (by simp)), recode_plain _ _ (h c (by simp)), ih (fun d hd => h d (by simp [hd]))]
/-- a small letter told as a code -/
theorem codes_plain (a b : List UInt8) (c x y : UInt8) (h0 : 97 ≤ (c.toNat : Int)) (h1 : (c.toNat : Int) ≤ 122) (hx : hexB x = (c.toNat : Int) / 16) (hy : hexB y = (c.toNat : Int) % 16) (ax : addrB x = true) (ay : addrB y = true)
    (ha : ∀ d ∈ a, d ≠ 37) (hl : a.length + b.length ≤ 4000) : parseP (http ++ ([104] ++ ([] ++ (47 :: (a ++ c :: b))))) = parseP (http ++ ([104] ++ ([] ++ (47 :: (a ++ 37 :: x :: y :: b))))) := by
  have e37 : c ≠ 37 := by
    intro e; subst e; revert h0; decide
  have er : recode (c :: b) = recode (37 :: x :: y :: b) := by
    rw [recode_plain c b e37, recode_code x y b (by omega) (by omega)]
    have : code x y = [c] := by
      unfold code
      rw [hx, hy, show 16 * ((c.toNat : Int) / 16) + (c.toNat : Int) % 16 = (c.toNat : Int) by omega]
      have hp : plainI (c.toNat : Int) = true := by unfold plainI alnumI; simp; omega
      rw [if_pos hp]
      unfold ofI
      simp
    rw [this]
    rfl
  have er2 : recode (47 :: (a ++ c :: b)) = recode (47 :: (a ++ 37 :: x :: y :: b)) := recode_pre (47 :: a) (c :: b) (37 :: x :: y :: b) (by
    intro d hd
    rcases List.mem_cons.1 hd with rfl | hd
    · decide
    · exact ha d hd) er
  have ac : addrB c = true := by unfold addrB addrI; exact decide_eq_true (by omega)
  rw [parse_built http [104] [] _ rfl (by decide) (by decide) rfl (by decide) (by simp) (by simp) (fun c l e => by simp only [List.cons.injEq] at e; exact .inl e.1.symm) (by simp; omega),
    parse_built http [104] [] _ rfl (by decide) (by decide) rfl (by decide) (by simp) (by simp) (fun c l e => by simp only [List.cons.injEq] at e; exact .inl e.1.symm) (by simp; omega), er2]
  have : (47 :: (a ++ c :: b)).all addrB = (47 :: (a ++ 37 :: x :: y :: b)).all addrB := by
    simp only [List.all_cons, List.all_append, ac, ax, ay, Bool.true_and]
    rw [show addrB 37 = true from by decide, Bool.true_and]
  rw [this]
end Go.Proofs.YtddbemleialpbaaDoor
