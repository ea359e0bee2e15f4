/- Plain: a rewrite, the power lost at any of its steps, read again. -/
import Derived.Test.YtmejbgnaoaiooaaGreatSwPm
namespace Go.Proofs.YtmejbgnaoaiooaaGreat
/-- a list of records, numbered from 0 on -/
def numR (rs : RL) : RL := rs.zipIdx.map (fun p => ((p.2 : Int), p.1.2.1, p.1.2.2.1, p.1.2.2.2))
theorem numR_len (rs : RL) : (numR rs).length = rs.length := by unfold numR; simp
theorem numR_snoc (rs : RL) (r : Rc) : numR (rs ++ [r]) = numR rs ++ [((rs.length : Int), r.2.1, r.2.2.1, r.2.2.2)] := by
  unfold numR
  rw [List.zipIdx_append, List.map_append]
  simp
theorem encG_one (i : Nat) (r : Rc) : encG i [r] = if (encOf (i : Int) r.2.1 r.2.2.1 r.2.2.2).2 = 0 then ((encOf (i : Int) r.2.1 r.2.2.1 r.2.2.2).1, 0) else ([], (encOf (i : Int) r.2.1 r.2.2.1 r.2.2.2).2) := by
  show (if (encOf (i : Int) r.2.1 r.2.2.1 r.2.2.2).2 = 0 then (if (0 : Int) = 0 then ((encOf (i : Int) r.2.1 r.2.2.1 r.2.2.2).1 ++ [], (0 : Int)) else ([], 0)) else _) = _
  rw [if_pos rfl, List.append_nil]
theorem encG_cons (i : Nat) (q : Rc) (rs : RL) : encG i (q :: rs) = (if (encOf (i : Int) q.2.1 q.2.2.1 q.2.2.2).2 = 0 then (if (encG (i + 1) rs).2 = 0 then ((encOf (i : Int) q.2.1 q.2.2.1 q.2.2.2).1 ++ (encG (i + 1) rs).1, (0 : Int)) else ([], (encG (i + 1) rs).2)) else ([], (encOf (i : Int) q.2.1 q.2.2.1 q.2.2.2).2)) := rfl
/-- where a list is written, its beginning is, and its last record -/
theorem encG_split (rs : RL) (r : Rc) : ∀ i, (encG i (rs ++ [r])).2 = 0 → (encG i rs).2 = 0 ∧ (encOf ((i + rs.length : Nat) : Int) r.2.1 r.2.2.1 r.2.2.2).2 = 0 := by
  induction rs with
  | nil =>
    intro i h
    rw [List.nil_append, encG_one] at h
    refine ⟨rfl, ?_⟩
    show (encOf (i : Int) r.2.1 r.2.2.1 r.2.2.2).2 = 0
    split at h
    · rename_i h1; exact h1
    · exact h
  | cons q rs ih =>
    intro i h
    rw [List.cons_append, encG_cons] at h
    split at h
    · rename_i h1
      split at h
      · rename_i h2
        obtain ⟨g1, g2⟩ := ih (i + 1) h2
        refine ⟨by rw [encG_cons, if_pos h1, if_pos g1], ?_⟩
        rw [show i + (q :: rs).length = i + 1 + rs.length by simp; omega]
        exact g2
      · rename_i h2; exact absurd h h2
    · rename_i h1; exact absurd h h1
/-- what is written of a list is read as it, numbered -/
theorem lif_enc : ∀ (n : Nat) (rs : RL), rs.length = n → (encG 0 rs).2 = 0 → Lif (numR rs) (encG 0 rs).1 0 0 := by
  intro n
  induction n with
  | zero =>
    intro rs hl _
    obtain rfl := List.eq_nil_of_length_eq_zero hl
    exact lif_nil
  | succ n ih =>
    intro rs hl he
    obtain ⟨ps, r, rfl⟩ : ∃ ps r, rs = ps ++ [r] := ⟨rs.dropLast, rs.getLast (by intro e; rw [e] at hl; cases hl), (List.dropLast_concat_getLast _).symm⟩
    have hpl : ps.length = n := by simpa using hl
    obtain ⟨g1, g2⟩ := encG_split ps r 0 he
    have hs := encG_snoc ps r 0 g1 g2
    have hp := ih ps hpl g1
    rw [hs, numR_snoc]
    have he2 : encOf ((numR ps).length : Int) r.2.1 r.2.2.1 r.2.2.2 = ((encOf ((0 + ps.length : Nat) : Int) r.2.1 r.2.2.1 r.2.2.2).1, 0) := by
      rw [numR_len, Nat.zero_add] at *
      rw [← g2]
    have hh := lif_app hp he2
    rw [numR_len] at hh
    exact hh
/-- a disk with a log and a new one beside it -/
def s2 (R pw : Int) (n : Nat) (bs d : List UInt8) (f e : Nat) : Dk := ⟨[(lgN, 0), (nwN, 1)], lN, [[(lgN, 0), (nwN, 1)]], [bs, d], [f, e], R, [], pw, n⟩
def s4 (R pw : Int) (n : Nat) (bs d : List UInt8) (f e : Nat) : Dk := ⟨[(lgN, 1)], lN, [[(lgN, 0), (nwN, 1)], [(lgN, 1)]], [bs, d], [f, e], R, [], pw, n⟩
def s5 (R pw : Int) (n : Nat) (bs d : List UInt8) (f e : Nat) : Dk := ⟨[(lgN, 1)], [(lgN, 1)], [], [bs, d], [f, e], R, [], pw, n⟩
/-- what a rewrite's disk may leave -/
def Tfs (bs d : List UInt8) (fs : FilL) : Prop := fs = [(lgN, bs)] ∨ (∃ p, p.length ≤ d.length ∧ fs = [(lgN, bs), (nwN, p)]) ∨ fs = [(lgN, d)]
theorem left_lw (R pw : Int) (n : Nat) (bs : List UInt8) (k : Int) (keep : List Int) : (sL R pw n bs bs.length).left k keep = [(lgN, bs)] := by
  have e : leftNames (sL R pw n bs bs.length) k = lN := by
    unfold leftNames
    split
    · rfl
    · simp [sL]
  unfold Dk.left
  rw [e]
  show [(lgN, List.take (min bs.length (bs.length + (keep.getD 0 0).toNat)) bs)] = _
  rw [Nat.min_eq_left (by omega), List.take_length]
theorem left_2 (R pw : Int) (n : Nat) (bs d d' : List UInt8) (e : Nat) (hd : d.length ≤ d'.length) (k : Int) (keep : List Int) : Tfs bs d' ((s2 R pw n bs d bs.length e).left k keep) := by
  unfold Dk.left leftNames
  split
  · left
    show [(lgN, List.take (min bs.length (bs.length + (keep.getD 0 0).toNat)) bs)] = _
    rw [Nat.min_eq_left (by omega), List.take_length]
  · rw [if_neg (by simp [s2])]
    have e1 : (s2 R pw n bs d bs.length e).pend.getD (min k.toNat (s2 R pw n bs d bs.length e).pend.length - 1) [] = [(lgN, 0), (nwN, 1)] := by
      have : min k.toNat (s2 R pw n bs d bs.length e).pend.length - 1 = 0 := by show min k.toNat 1 - 1 = 0; omega
      rw [this]; rfl
    rw [e1]
    refine .inr (.inl ⟨List.take (min d.length (e + (keep.getD 1 0).toNat)) d, by rw [List.length_take]; omega, ?_⟩)
    show [(lgN, List.take (min bs.length (bs.length + (keep.getD 0 0).toNat)) bs), (nwN, List.take (min d.length (e + (keep.getD 1 0).toNat)) d)] = _
    rw [Nat.min_eq_left (by omega), List.take_length]
theorem left_4 (R pw : Int) (n : Nat) (bs d : List UInt8) (k : Int) (keep : List Int) : Tfs bs d ((s4 R pw n bs d bs.length d.length).left k keep) := by
  unfold Dk.left leftNames
  split
  · left
    show [(lgN, List.take (min bs.length (bs.length + (keep.getD 0 0).toNat)) bs)] = _
    rw [Nat.min_eq_left (by omega), List.take_length]
  · rename_i hk
    rw [if_neg (by simp [s4])]
    by_cases h1 : k.toNat = 1
    · have e1 : (s4 R pw n bs d bs.length d.length).pend.getD (min k.toNat (s4 R pw n bs d bs.length d.length).pend.length - 1) [] = [(lgN, 0), (nwN, 1)] := by
        have : min k.toNat (s4 R pw n bs d bs.length d.length).pend.length - 1 = 0 := by show min k.toNat 2 - 1 = 0; omega
        rw [this]; rfl
      rw [e1]
      refine .inr (.inl ⟨List.take (min d.length (d.length + (keep.getD 1 0).toNat)) d, by rw [List.length_take]; omega, ?_⟩)
      show [(lgN, List.take (min bs.length (bs.length + (keep.getD 0 0).toNat)) bs), (nwN, List.take (min d.length (d.length + (keep.getD 1 0).toNat)) d)] = _
      rw [Nat.min_eq_left (by omega), List.take_length]
    · have e1 : (s4 R pw n bs d bs.length d.length).pend.getD (min k.toNat (s4 R pw n bs d bs.length d.length).pend.length - 1) [] = [(lgN, 1)] := by
        have : min k.toNat (s4 R pw n bs d bs.length d.length).pend.length - 1 = 1 := by show min k.toNat 2 - 1 = 1; omega
        rw [this]; rfl
      rw [e1]
      refine .inr (.inr ?_)
      show [(lgN, List.take (min d.length (d.length + (keep.getD 1 0).toNat)) d)] = _
      rw [Nat.min_eq_left (by omega), List.take_length]
theorem left_5 (R pw : Int) (n : Nat) (bs d : List UInt8) (k : Int) (keep : List Int) : (s5 R pw n bs d bs.length d.length).left k keep = [(lgN, d)] := by
  have e : leftNames (s5 R pw n bs d bs.length d.length) k = [(lgN, 1)] := by
    unfold leftNames
    split
    · rfl
    · simp [s5]
  unfold Dk.left
  rw [e]
  show [(lgN, List.take (min d.length (d.length + (keep.getD 1 0).toNat)) d)] = _
  rw [Nat.min_eq_left (by omega), List.take_length]
theorem w_create (R pw : Int) (n : Nat) (bs : List UInt8) (f : Nat) (h : (sL R pw n bs f).down = false) : (sL R pw n bs f).step ⟨1, nwN, [], []⟩ = (s2 R pw (n + 1) bs [] f 0, 0) := by
  rw [stp _ h rfl (by decide)]; rfl
theorem w_app (R pw : Int) (n : Nat) (bs : List UInt8) (f e : Nat) (d : List UInt8) (h : (s2 R pw n bs [] f e).down = false) (hR : ((bs.length + d.length : Nat) : Int) ≤ R) : (s2 R pw n bs [] f e).step ⟨2, nwN, [], d⟩ = (s2 R pw (n + 1) bs d f e, 0) := by
  rw [stp _ h rfl (by simp; decide)]
  show (if d ≠ [] ∧ R < ((bs.length + (0 + 0) + d.length : Nat) : Int) then _ else _) = _
  rw [if_neg (fun hh => by have := hh.2; omega)]
  rfl
theorem w_sync (R pw : Int) (n : Nat) (bs d : List UInt8) (f e : Nat) (h : (s2 R pw n bs d f e).down = false) : (s2 R pw n bs d f e).step ⟨3, nwN, [], []⟩ = (s2 R pw (n + 1) bs d f d.length, 0) := by
  rw [stp _ h rfl (by decide)]; rfl
theorem w_ren (R pw : Int) (n : Nat) (bs d : List UInt8) (f e : Nat) (h : (s2 R pw n bs d f e).down = false) : (s2 R pw n bs d f e).step ⟨5, nwN, lgN, []⟩ = (s4 R pw (n + 1) bs d f e, 0) := by
  rw [stp _ h rfl (by decide)]; rfl
theorem w_names (R pw : Int) (n : Nat) (bs d : List UInt8) (f e : Nat) (h : (s4 R pw n bs d f e).down = false) : (s4 R pw n bs d f e).step ⟨4, [], [], []⟩ = (s5 R pw (n + 1) bs d f e, 0) := by
  rw [stp _ h rfl (by decide)]; rfl
/-- the new log is filled and put in its place, or the power went -/
theorem repl_cases (R pw : Int) (n : Nat) (bs d : List UInt8) (f : Nat) (c : Int) (hR : ((bs.length + d.length : Nat) : Int) ≤ R) :
    (∃ k, replT d (s2 R pw n bs [] f 0, c) = ((s4 R pw k bs d f d.length, c), 0)) ∨ (∃ k dd e, dd.length ≤ d.length ∧ replT d (s2 R pw n bs [] f 0, c) = ((s2 R pw k bs dd f e, c), 93)) := by
  have rem : ∀ k dd e, (s2 R pw k bs dd f e).down = true → remT ((s2 R pw k bs dd f e, c), 93) = ((s2 R pw k bs dd f e, c), 93) := by
    intro k dd e h
    unfold remT; dsimp only; rw [stp_down _ h]
  have bad : ∀ k (dd : List UInt8) e, dd.length ≤ d.length → (s2 R pw k bs dd f e).down = true → fillT d (s2 R pw n bs [] f 0, c) = ((s2 R pw k bs dd f e, c), 93) → ∃ k dd e, dd.length ≤ d.length ∧ replT d (s2 R pw n bs [] f 0, c) = ((s2 R pw k bs dd f e, c), 93) := by
    intro k dd e hdd h hf
    exact ⟨k, dd, e, hdd, by unfold replT; rw [hf, if_neg (by simp)]; exact rem k dd e h⟩
  by_cases h1 : (s2 R pw n bs [] f 0).down = true
  · refine .inr (bad _ _ _ (Nat.zero_le _) h1 ?_)
    unfold fillT
    have e1 : opT ⟨2, nwN, [], d⟩ (s2 R pw n bs [] f 0, c) = ((s2 R pw n bs [] f 0, c), 93) := by unfold opT; dsimp only; rw [stp_down _ h1]
    rw [runT_bad (by rw [e1]; simp), e1]
  · rw [Bool.not_eq_true] at h1
    have e1 : opT ⟨2, nwN, [], d⟩ (s2 R pw n bs [] f 0, c) = ((s2 R pw (n + 1) bs d f 0, c), 0) := by unfold opT; dsimp only; rw [w_app R pw n bs f 0 d h1 hR]
    by_cases h2 : (s2 R pw (n + 1) bs d f 0).down = true
    · refine .inr (bad _ _ _ (Nat.le_refl _) h2 ?_)
      have e2 : opT ⟨3, nwN, [], []⟩ (s2 R pw (n + 1) bs d f 0, c) = ((s2 R pw (n + 1) bs d f 0, c), 93) := by unfold opT; dsimp only; rw [stp_down _ h2]
      unfold fillT
      rw [runT_ok (by rw [e1]), e1]
      dsimp only
      rw [runT_bad (by rw [e2]; simp), e2]
    · rw [Bool.not_eq_true] at h2
      have e2 : opT ⟨3, nwN, [], []⟩ (s2 R pw (n + 1) bs d f 0, c) = ((s2 R pw (n + 1 + 1) bs d f d.length, c), 0) := by unfold opT; dsimp only; rw [w_sync _ _ _ _ _ _ _ h2]
      by_cases h3 : (s2 R pw (n + 1 + 1) bs d f d.length).down = true
      · refine .inr (bad _ _ _ (Nat.le_refl _) h3 ?_)
        have e3 : opT ⟨5, nwN, lgN, []⟩ (s2 R pw (n + 1 + 1) bs d f d.length, c) = ((s2 R pw (n + 1 + 1) bs d f d.length, c), 93) := by unfold opT; dsimp only; rw [stp_down _ h3]
        unfold fillT
        rw [runT_ok (by rw [e1]), e1]
        dsimp only
        rw [runT_ok (by rw [e2]), e2]
        dsimp only
        rw [runT_bad (by rw [e3]; simp), e3]
      · rw [Bool.not_eq_true] at h3
        have e3 : opT ⟨5, nwN, lgN, []⟩ (s2 R pw (n + 1 + 1) bs d f d.length, c) = ((s4 R pw (n + 1 + 1 + 1) bs d f d.length, c), 0) := by unfold opT; dsimp only; rw [w_ren _ _ _ _ _ _ _ h3]
        refine .inl ⟨n + 1 + 1 + 1, ?_⟩
        have ef : fillT d (s2 R pw n bs [] f 0, c) = ((s4 R pw (n + 1 + 1 + 1) bs d f d.length, c), 0) := by
          unfold fillT
          rw [runT_ok (by rw [e1]), e1]
          dsimp only
          rw [runT_ok (by rw [e2]), e2]
          dsimp only
          rw [runT_ok (by rw [e3]), e3, runT_nil]
        unfold replT
        rw [ef, if_pos rfl]
/-- what a rewrite comes to -/
theorem rew_cases (R pw : Int) (n : Nat) (bs : List UInt8) (rs : RL) (c : Int) (hR : ((bs.length + (encG 0 rs).1.length : Nat) : Int) ≤ R) :
    ((rewT rs (sL R pw n bs bs.length, c)).2 = 0 ∧ (encG 0 rs).2 = 0 ∧ ∀ k keep, (rewT rs (sL R pw n bs bs.length, c)).1.1.left k keep = [(lgN, (encG 0 rs).1)]) ∨
    ((rewT rs (sL R pw n bs bs.length, c)).2 ≠ 0 ∧ (encG 0 rs).2 = 0 ∧ ∀ k keep, Tfs bs (encG 0 rs).1 ((rewT rs (sL R pw n bs bs.length, c)).1.1.left k keep)) ∨
    ((rewT rs (sL R pw n bs bs.length, c)).2 ≠ 0 ∧ ∀ k keep, (rewT rs (sL R pw n bs bs.length, c)).1.1.left k keep = [(lgN, bs)]) := by
  by_cases hz : (encG 0 rs).2 = 0
  · have er : rewT rs (sL R pw n bs bs.length, c) = rewR rs.length (encG 0 rs).1 (sL R pw n bs bs.length, c) := by unfold rewT; rw [if_pos hz]
    rw [er]
    generalize (encG 0 rs).1 = d at hR
    unfold rewR
    by_cases h1 : (sL R pw n bs bs.length).down = true
    · have e1 : opT ⟨1, nwN, [], []⟩ (sL R pw n bs bs.length, c) = ((sL R pw n bs bs.length, c), 93) := by unfold opT; dsimp only; rw [stp_down _ h1]
      rw [runT_bad (by rw [e1]; simp), e1]
      exact .inr (.inr ⟨by simp, fun k keep => left_lw R pw n bs k keep⟩)
    · rw [Bool.not_eq_true] at h1
      have e1 : opT ⟨1, nwN, [], []⟩ (sL R pw n bs bs.length, c) = ((s2 R pw (n + 1) bs [] bs.length 0, c), 0) := by unfold opT; dsimp only; rw [w_create _ _ _ _ _ h1]
      rw [runT_ok (by rw [e1]), e1]
      dsimp only
      rcases repl_cases R pw (n + 1) bs d bs.length c hR with ⟨j, e2⟩ | ⟨j, dd, e, hdd, e2⟩
      · rw [runT_ok (by rw [e2]), e2]
        dsimp only
        rw [runT_ok (by rfl)]
        by_cases h3 : (s4 R pw j bs d bs.length d.length).down = true
        · have e3 : opT ⟨4, [], [], []⟩ (setT (rs.length : Int) (s4 R pw j bs d bs.length d.length, c)).1 = ((s4 R pw j bs d bs.length d.length, (rs.length : Int)), 93) := by unfold opT setT; dsimp only; rw [stp_down _ h3]
          rw [runT_bad (by rw [e3]; simp), e3]
          exact .inr (.inl ⟨by simp, hz, fun k keep => left_4 R pw j bs d k keep⟩)
        · rw [Bool.not_eq_true] at h3
          have e3 : opT ⟨4, [], [], []⟩ (setT (rs.length : Int) (s4 R pw j bs d bs.length d.length, c)).1 = ((s5 R pw (j + 1) bs d bs.length d.length, (rs.length : Int)), 0) := by unfold opT setT; dsimp only; rw [w_names _ _ _ _ _ _ _ h3]
          rw [runT_ok (by rw [e3]), e3, runT_nil]
          exact .inl ⟨rfl, hz, fun k keep => left_5 R pw (j + 1) bs d k keep⟩
      · rw [runT_bad (by rw [e2]; simp), e2]
        exact .inr (.inl ⟨by simp, hz, fun k keep => left_2 R pw j bs dd d e hdd k keep⟩)
  · have er : rewT rs (sL R pw n bs bs.length, c) = ((sL R pw n bs bs.length, c), (encG 0 rs).2) := by unfold rewT; rw [if_neg hz]
    rw [er]
    exact .inr (.inr ⟨hz, fun k keep => left_lw R pw n bs k keep⟩)
/-- a whole log is read as it is -/
theorem rd_whole {T : RL} {bs : List UInt8} {f fm : Nat} (h : Lif T bs f fm) {s : Dk} (c : Int) (hr : s.read lgN = (bs, 0)) : rdT (s, c) = (((s, c), 0), T) := by
  have hk : sndK bs = T.length := stops_one (sndK_stops bs) h.stops
  unfold rdT
  dsimp only
  rw [hr, if_neg (by simp), if_neg (by simp)]
  dsimp only
  rw [hk, if_pos h.all, h.rep]
theorem open_whole {T : RL} {bs : List UInt8} {f fm : Nat} (h : Lif T bs f fm) (R pw : Int) (n : Nat) (g : Nat) (hd : (sL R pw n bs g).down = false) : openT rdT (sL R pw n bs g) = (((sL R pw n bs g, 0), T), 0) := by
  rw [open_two (l_list _ _ _ _ _)]
  have hr : (sL R pw n bs g).read lgN = (bs, 0) := by unfold Dk.read; rw [if_neg (by rw [hd]; simp), if_neg (by decide)]; rfl
  unfold stepBo
  dsimp only
  rw [rd_whole h 0 hr]
/-- the log of what a rewrite's disk has left -/
theorem open_T {T A : RL} {bs d : List UInt8} {f fm f' fm' : Nat} (h : Lif T bs f fm) (h' : Lif A d f' fm') (R : Int) {fs : FilL} (ht : Tfs bs d fs) : (openT rdT (newS fs R [] (-1))).2 = 0 ∧ ((openT rdT (newS fs R [] (-1))).1.2 = T ∨ (openT rdT (newS fs R [] (-1))).1.2 = A) := by
  have nd : ∀ s : Dk, s.power = -1 → s.down = false := fun s hs => by unfold Dk.down; rw [hs]; simp
  rcases ht with rfl | ⟨p, _, rfl⟩ | rfl
  · have e : newS [(lgN, bs)] R [] (-1) = sL R (-1) 0 bs bs.length := rfl
    rw [e, open_whole h R (-1) 0 bs.length (nd _ rfl)]
    exact ⟨rfl, .inl rfl⟩
  · obtain ⟨s, hs⟩ : ∃ s : Dk, s = newS [(lgN, bs), (nwN, p)] R [] (-1) := ⟨_, rfl⟩
    obtain ⟨t, ht⟩ : ∃ t : Dk, t = ⟨[(lgN, 0)], [(lgN, 0), (nwN, 1)], [[(lgN, 0)]], [bs, p], [bs.length, p.length], R, [], -1, 1⟩ := ⟨_, rfl⟩
    have hrm : s.step ⟨6, nwN, [], []⟩ = (t, 0) := by
      rw [hs, stp _ (nd _ rfl) rfl (by decide), ht]; rfl
    have hu : remU (s, 0) = ((t, 0), 0) := by
      unfold remU
      rw [if_pos (by rw [hs]; show nwN ∈ (newS [(lgN, bs), (nwN, p)] R [] (-1)).list; unfold Dk.list; rw [if_neg (by rw [nd _ rfl]; simp)]; show nwN ∈ [lgN, nwN]; decide)]
      unfold opT; dsimp only; rw [hrm]
    have hr : t.read lgN = (bs, 0) := by
      rw [ht]; unfold Dk.read; rw [if_neg (by rw [nd _ rfl]; simp), if_neg (by decide)]; rfl
    rw [← hs]
    unfold openT
    have e1 : stepA remU ((s, 0), []) = (((t, 0), []), 0) := by unfold stepA; rw [hu]
    rw [runT_ok (by rw [e1]), e1]
    dsimp only
    have e2 : stepBo rdT ((t, 0), []) = (((t, 0), T), 0) := by unfold stepBo; dsimp only; rw [rd_whole h 0 hr]
    rw [runT_ok (by rw [e2]), e2, runT_nil]
    exact ⟨rfl, .inl rfl⟩
  · have e : newS [(lgN, d)] R [] (-1) = sL R (-1) 0 d d.length := rfl
    rw [e, open_whole h' R (-1) 0 d.length (nd _ rfl)]
    exact ⟨rfl, .inr rfl⟩
end Go.Proofs.YtmejbgnaoaiooaaGreat
