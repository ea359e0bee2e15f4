/- Plain: Open of a new disk, Add, what is left, Open of what is left. -/
import Derived.Test.YtijnjgnckipghaaGreatSwPl
namespace Go.Proofs.YtijnjgnckipghaaGreat
theorem remU_no {st : LSt} (h : nwN ∉ st.1.list) : remU st = (st, 0) := by unfold remU; rw [if_neg h]
theorem open_two {RD : LSt → (LSt × Int) × RL} {s : Dk} (h : nwN ∉ s.list) : openT RD s = stepBo RD ((s, 0), []) := by
  unfold openT
  have e : stepA remU ((s, 0), []) = (((s, 0), []), 0) := by unfold stepA; rw [remU_no h]
  rw [runT_ok (by rw [e]), e]
  dsimp only
  by_cases hz : (stepBo RD ((s, 0), [])).2 = 0
  · rw [runT_ok hz, runT_nil]
    conv => rhs; rw [← Prod.eta (stepBo RD ((s, 0), []))]
    rw [hz]
  · rw [runT_bad hz]
theorem e_list (R pw : Int) (n : Nat) : nwN ∉ (sE R pw n).list := by
  unfold Dk.list
  split
  · simp
  · simp [sE]
theorem l_list (R pw : Int) (n : Nat) (bs : List UInt8) (f : Nat) : nwN ∉ (sL R pw n bs f).list := by
  unfold Dk.list
  split
  · simp
  · show nwN ∉ [lgN]; decide
/-- the log of a new disk: begun, or the power went -/
theorem open_fresh (R pw : Int) (n : Nat) : ((openT rdT (sE R pw n)).2 = 0 ∧ (openT rdT (sE R pw n)).1.2 = [] ∧ (openT rdT (sE R pw n)).1.1.1 = sL R pw (n + 3) [] 0) ∨ ((openT rdT (sE R pw n)).2 ≠ 0 ∧ (openT rdT (sE R pw n)).1.2 = [] ∧ ((openT rdT (sE R pw n)).1.1.1 = sE R pw n ∨ ∃ k, (openT rdT (sE R pw n)).1.1.1 = sC R pw k)) := by
  rw [open_two (e_list R pw n)]
  unfold stepBo
  dsimp only
  by_cases hd : (sE R pw n).down = true
  · have hr : (sE R pw n).read lgN = ([], 93) := by unfold Dk.read; rw [if_pos hd]
    have e : rdT (sE R pw n, 0) = (((sE R pw n, 0), 93), []) := by
      unfold rdT; dsimp only; rw [hr, if_neg (by decide), if_pos (by decide)]
    rw [e]
    exact .inr ⟨by simp, rfl, .inl rfl⟩
  · rw [Bool.not_eq_true] at hd
    have hr : ((sE R pw n).read lgN).2 = 90 := by unfold Dk.read; rw [if_neg (by rw [hd]; simp), if_neg (by decide)]; rfl
    have e : rdT (sE R pw n, 0) = (beginT (sE R pw n, 0), []) := by unfold rdT; rw [if_pos hr]
    rw [e]
    dsimp only
    unfold beginT
    have e1 : opT ⟨1, lgN, [], []⟩ (sE R pw n, 0) = ((sC R pw (n + 1), 0), 0) := by unfold opT; dsimp only; rw [e_create R pw n hd]
    rw [runT_ok (by rw [e1]), e1]
    dsimp only
    by_cases h2 : (sC R pw (n + 1)).down = true
    · have e2 : opT ⟨3, lgN, [], []⟩ (sC R pw (n + 1), 0) = ((sC R pw (n + 1), 0), 93) := by unfold opT; dsimp only; rw [stp_down _ h2]
      rw [runT_bad (by rw [e2]; simp), e2]
      exact .inr ⟨by simp, rfl, .inr ⟨_, rfl⟩⟩
    · rw [Bool.not_eq_true] at h2
      have e2 : opT ⟨3, lgN, [], []⟩ (sC R pw (n + 1), 0) = ((sC R pw (n + 1 + 1), 0), 0) := by unfold opT; dsimp only; rw [c_sync R pw _ h2]
      rw [runT_ok (by rw [e2]), e2]
      dsimp only
      by_cases h3 : (sC R pw (n + 1 + 1)).down = true
      · have e3 : opT ⟨4, [], [], []⟩ (sC R pw (n + 1 + 1), 0) = ((sC R pw (n + 1 + 1), 0), 93) := by unfold opT; dsimp only; rw [stp_down _ h3]
        rw [runT_bad (by rw [e3]; simp), e3]
        exact .inr ⟨by simp, rfl, .inr ⟨_, rfl⟩⟩
      · rw [Bool.not_eq_true] at h3
        have e3 : opT ⟨4, [], [], []⟩ (sC R pw (n + 1 + 1), 0) = ((sL R pw (n + 1 + 1 + 1) [] 0, 0), 0) := by unfold opT; dsimp only; rw [c_names R pw _ h3]
        rw [runT_ok (by rw [e3]), e3, runT_nil]
        exact .inl ⟨rfl, rfl, rfl⟩
/-- what an Add does -/
theorem add_step {T : RL} {bs : List UInt8} {f fm : Nat} (h : Lif T bs f fm) (R pw : Int) (n : Nat) (op no : Int) (id : List UInt8) :
    ((addT op no id (sL R pw n bs f, (T.length : Int))).2 ≠ 0 ∧ (addT op no id (sL R pw n bs f, (T.length : Int))).2 ≠ 93 ∧ ∃ k, (addT op no id (sL R pw n bs f, (T.length : Int))).1 = (sL R pw k bs f, (T.length : Int))) ∨
    ((addT op no id (sL R pw n bs f, (T.length : Int))).2 = 93 ∧ ∃ k, (addT op no id (sL R pw n bs f, (T.length : Int))).1 = (sL R pw k bs f, (T.length : Int))) ∨
    ((addT op no id (sL R pw n bs f, (T.length : Int))).2 = 93 ∧ ∃ k x, (addT op no id (sL R pw n bs f, (T.length : Int))).1 = (sL R pw k (bs ++ x) f, (T.length : Int) + 1) ∧ Lif (T ++ [((T.length : Int), op, no, id)]) (bs ++ x) f fm) ∨
    ((addT op no id (sL R pw n bs f, (T.length : Int))).2 = 0 ∧ ∃ k x, (addT op no id (sL R pw n bs f, (T.length : Int))).1 = (sL R pw k (bs ++ x) (bs ++ x).length, (T.length : Int) + 1) ∧ Lif (T ++ [((T.length : Int), op, no, id)]) (bs ++ x) (bs ++ x).length (T.length + 1)) := by
  by_cases hz : (encOf (T.length : Int) op no id).2 = 0
  · obtain ⟨x, hx⟩ : ∃ x, x = (encOf (T.length : Int) op no id).1 := ⟨_, rfl⟩
    have he : encOf (T.length : Int) op no id = (x, 0) := by rw [hx, ← hz]
    have ea : addT op no id (sL R pw n bs f, (T.length : Int)) = addR x (sL R pw n bs f, (T.length : Int)) := by unfold addT; dsimp only; rw [if_pos hz, ← hx]
    rw [ea]
    unfold addR
    dsimp only
    by_cases hd : (sL R pw n bs f).down = true
    · have e1 : opT ⟨2, lgN, [], x⟩ (sL R pw n bs f, (T.length : Int)) = ((sL R pw n bs f, (T.length : Int)), 93) := by unfold opT; dsimp only; rw [stp_down _ hd]
      rw [runT_bad (by rw [e1]; simp), e1]
      exact .inr (.inl ⟨rfl, _, rfl⟩)
    · rw [Bool.not_eq_true] at hd
      by_cases hr : x ≠ [] ∧ R < ((bs.length + x.length : Nat) : Int)
      · have e1 : opT ⟨2, lgN, [], x⟩ (sL R pw n bs f, (T.length : Int)) = ((sL R pw (n + 1) bs f, (T.length : Int)), 92) := by unfold opT; dsimp only; rw [l_app R pw n bs f x hd, if_pos hr]
        rw [runT_bad (by rw [e1]; simp), e1]
        exact .inl ⟨by simp, by simp, _, rfl⟩
      · have e1 : opT ⟨2, lgN, [], x⟩ (sL R pw n bs f, (T.length : Int)) = ((sL R pw (n + 1) (bs ++ x) f, (T.length : Int)), 0) := by unfold opT; dsimp only; rw [l_app R pw n bs f x hd, if_neg hr]
        rw [runT_ok (by rw [e1]), e1]
        dsimp only
        rw [runT_ok (by rfl)]
        show _ ∨ _ ∨ _ ∨ _
        have hl := lif_app h he
        by_cases h2 : (sL R pw (n + 1) (bs ++ x) f).down = true
        · have e2 : opT ⟨3, lgN, [], []⟩ (setT ((T.length : Int) + 1) (sL R pw (n + 1) (bs ++ x) f, (T.length : Int))).1 = ((sL R pw (n + 1) (bs ++ x) f, (T.length : Int) + 1), 93) := by unfold opT setT; dsimp only; rw [stp_down _ h2]
          rw [runT_bad (by rw [e2]; simp), e2]
          exact .inr (.inr (.inl ⟨rfl, _, x, rfl, hl⟩))
        · rw [Bool.not_eq_true] at h2
          have e2 : opT ⟨3, lgN, [], []⟩ (setT ((T.length : Int) + 1) (sL R pw (n + 1) (bs ++ x) f, (T.length : Int))).1 = ((sL R pw (n + 1 + 1) (bs ++ x) (bs ++ x).length, (T.length : Int) + 1), 0) := by unfold opT setT; dsimp only; rw [l_sync R pw _ _ _ h2]
          rw [runT_ok (by rw [e2]), e2, runT_nil]
          refine .inr (.inr (.inr ⟨rfl, _, x, rfl, ?_⟩))
          have := lif_sync hl
          rw [show (T ++ [((T.length : Int), op, no, id)]).length = T.length + 1 by simp] at this
          exact this
  · have ea : addT op no id (sL R pw n bs f, (T.length : Int)) = ((sL R pw n bs f, (T.length : Int)), (encOf (T.length : Int) op no id).2) := by unfold addT; dsimp only; rw [if_neg hz]
    rw [ea]
    refine .inl ⟨hz, ?_, _, rfl⟩
    show (encOf (T.length : Int) op no id).2 ≠ 93
    unfold encOf
    split
    · split
      · simp
      · simp
    · simp
/-- what is left of a log's disk -/
def Lft (T : RL) (fm : Nat) (fs : FilL) : Prop := (fs = [] ∧ fm = 0) ∨ ∃ p K, fs = [(lgN, p)] ∧ fm ≤ K ∧ K ≤ T.length ∧ Stops p K ∧ repR p K = T.take K ∧ p.length ≤ 4111 * T.length
theorem left_e (R pw : Int) (n : Nat) (k : Int) (keep : List Int) : Lft [] 0 ((sE R pw n).left k keep) := by
  refine .inl ⟨?_, rfl⟩
  unfold Dk.left leftNames
  split
  · rfl
  · rfl
theorem left_c (R pw : Int) (n : Nat) (k : Int) (keep : List Int) : Lft [] 0 ((sC R pw n).left k keep) := by
  unfold Dk.left leftNames
  split
  · exact .inl ⟨rfl, rfl⟩
  · rename_i hk
    rw [if_neg (by simp [sC])]
    have e : (sC R pw n).pend.getD (min k.toNat (sC R pw n).pend.length - 1) [] = lN := by
      have : min k.toNat (sC R pw n).pend.length - 1 = 0 := by show min k.toNat 1 - 1 = 0; omega
      rw [this]; rfl
    rw [e]
    refine .inr ⟨[], 0, ?_, Nat.le_refl _, Nat.le_refl _, lif_nil.stops, rfl, Nat.zero_le _⟩
    show [(lgN, List.take _ [])] = _
    rw [List.take_nil]
theorem left_l {T : RL} {bs : List UInt8} {f fm : Nat} (h : Lif T bs f fm) (R pw : Int) (n : Nat) (k : Int) (keep : List Int) : Lft T fm ((sL R pw n bs f).left k keep) := by
  have e : leftNames (sL R pw n bs f) k = lN := by
    unfold leftNames
    split
    · rfl
    · simp [sL]
  obtain ⟨j, hj⟩ : ∃ j, j = min bs.length (f + (keep.getD 0 0).toNat) := ⟨_, rfl⟩
  obtain ⟨K, h1, h2, h3, h4⟩ := cut_rep (j := j) h.stops h.all h.fmL (by rw [hj]; have := h.firm; have := atR_le bs fm; omega)
  refine .inr ⟨bs.take j, K, ?_, h1, h2, h3, by rw [h4, h.rep], ?_⟩
  · unfold Dk.left
    rw [e]
    show [(lgN, List.take (min bs.length (f + (keep.getD 0 0).toNat)) bs)] = _
    rw [hj]
  · rw [List.length_take]; have := h.len; omega
theorem encG_snoc (rs : RL) (r : Rc) : ∀ i, (encG i rs).2 = 0 → (encOf ((i + rs.length : Nat) : Int) r.2.1 r.2.2.1 r.2.2.2).2 = 0 → encG i (rs ++ [r]) = ((encG i rs).1 ++ (encOf ((i + rs.length : Nat) : Int) r.2.1 r.2.2.1 r.2.2.2).1, 0) := by
  induction rs with
  | nil =>
    intro i _ h
    show (if (encOf (i : Int) r.2.1 r.2.2.1 r.2.2.2).2 = 0 then (if (0 : Int) = 0 then ((encOf (i : Int) r.2.1 r.2.2.1 r.2.2.2).1 ++ [], (0 : Int)) else ([], 0)) else ([], (encOf (i : Int) r.2.1 r.2.2.1 r.2.2.2).2)) = _
    have h' : (encOf (i : Int) r.2.1 r.2.2.1 r.2.2.2).2 = 0 := h
    rw [if_pos h', if_pos rfl, List.append_nil]
    rfl
  | cons q rs ih =>
    intro i h1 h2
    have e1 : (encOf (i : Int) q.2.1 q.2.2.1 q.2.2.2).2 = 0 ∧ (encG (i + 1) rs).2 = 0 := by
      have h3 : (encG i (q :: rs)).2 = (if (encOf (i : Int) q.2.1 q.2.2.1 q.2.2.2).2 = 0 then (if (encG (i + 1) rs).2 = 0 then ((encOf (i : Int) q.2.1 q.2.2.1 q.2.2.2).1 ++ (encG (i + 1) rs).1, (0 : Int)) else ([], (encG (i + 1) rs).2)) else ([], (encOf (i : Int) q.2.1 q.2.2.1 q.2.2.2).2)).2 := rfl
      rw [h3] at h1
      split at h1
      · rename_i ha
        split at h1
        · rename_i hb; exact ⟨ha, hb⟩
        · rename_i hb; exact absurd h1 hb
      · rename_i ha; exact absurd h1 ha
    have e2 := ih (i + 1) e1.2 (by rw [show i + 1 + rs.length = i + (q :: rs).length by simp; omega]; exact h2)
    have e3 : encG i (q :: rs) = ((encOf (i : Int) q.2.1 q.2.2.1 q.2.2.2).1 ++ (encG (i + 1) rs).1, 0) := by
      show (if _ then (if _ then _ else _) else _) = _
      rw [if_pos e1.1, if_pos e1.2]
    have e4 : encG i (q :: rs ++ [r]) = ((encOf (i : Int) q.2.1 q.2.2.1 q.2.2.2).1 ++ (encG (i + 1) (rs ++ [r])).1, 0) := by
      have h0 : (encG (i + 1) (rs ++ [r])).2 = 0 := by rw [e2]
      show (if (encOf (i : Int) q.2.1 q.2.2.1 q.2.2.2).2 = 0 then (if (encG (i + 1) (rs ++ [r])).2 = 0 then ((encOf (i : Int) q.2.1 q.2.2.1 q.2.2.2).1 ++ (encG (i + 1) (rs ++ [r])).1, (0 : Int)) else ([], (encG (i + 1) (rs ++ [r])).2)) else ([], (encOf (i : Int) q.2.1 q.2.2.1 q.2.2.2).2)) = _
      rw [if_pos e1.1, if_pos h0]
    rw [e4, e2, e3, show i + 1 + rs.length = i + (q :: rs).length by simp; omega, List.append_assoc]
/-- what was read is written as the sound part's bytes -/
theorem encG_rep {bs : List UInt8} : ∀ K, (∀ i, i < K → okR bs i) → encG 0 (repR bs K) = (bs.take (atR bs K), 0) := by
  intro K
  induction K with
  | zero => intro _; rfl
  | succ K ih =>
    intro h
    have h1 := ih (fun i hi => h i (by omega))
    obtain ⟨hn, hs⟩ := h K (by omega)
    obtain ⟨p1, p2, _⟩ := dec_plain _ hn
    have e : encOf ((0 + (repR bs K).length : Nat) : Int) (rcOf (recR bs K)).2.1 (rcOf (recR bs K)).2.2.1 (rcOf (recR bs K)).2.2.2 = ((bs.drop (atR bs K)).take (recR bs K).n, 0) := by
      rw [repR_len, Nat.zero_add, show ((K : Nat) : Int) = ((recR bs K).seq : Int) by rw [hs]]; exact p1
    rw [repR_succ, encG_snoc _ _ 0 (by rw [h1]) (by rw [e]), h1, e, atR_succ, List.take_add]
/-- a log that has more than its sound part is rewritten -/
theorem rew_ok {p : List UInt8} {K : Nat} (h : Stops p K) (R : Int) (f : Nat) (hR : ((p.length + p.length : Nat) : Int) ≤ R) : (rewT (repR p K) (sL R (-1) 0 p f, 0)).2 = 0 := by
  have he := encG_rep K h.1
  obtain ⟨d, hd⟩ : ∃ d, d = p.take (atR p K) := ⟨_, rfl⟩
  have hdl : d.length ≤ p.length := by rw [hd, List.length_take]; omega
  rw [← hd] at he
  unfold rewT
  rw [he, if_pos rfl]
  dsimp only
  unfold rewR
  have nd : ∀ s : Dk, s.power = -1 → s.down = false := fun s hs => by unfold Dk.down; rw [hs]; simp
  obtain ⟨s1, h1⟩ : ∃ s1 : Dk, s1 = ⟨[(lgN, 0), (nwN, 1)], lN, [[(lgN, 0), (nwN, 1)]], [p, []], [f, 0], R, [], -1, 1⟩ := ⟨_, rfl⟩
  have e1 : opT ⟨1, nwN, [], []⟩ (sL R (-1) 0 p f, 0) = ((s1, 0), 0) := by
    unfold opT; dsimp only; rw [stp _ (nd _ rfl) rfl (by decide), h1]; rfl
  rw [runT_ok (by rw [e1]), e1]
  dsimp only
  obtain ⟨s2, h2⟩ : ∃ s2 : Dk, s2 = ⟨[(lgN, 0), (nwN, 1)], lN, [[(lgN, 0), (nwN, 1)]], [p, d], [f, 0], R, [], -1, 2⟩ := ⟨_, rfl⟩
  have e2 : opT ⟨2, nwN, [], d⟩ (s1, 0) = ((s2, 0), 0) := by
    unfold opT; dsimp only
    have q : s1.step ⟨2, nwN, [], d⟩ = (s2, 0) := by
      rw [stp _ (nd _ (by rw [h1])) (by rw [h1]) (by simp; decide), h1]
      show (if d ≠ [] ∧ R < ((p.length + (0 + 0) + d.length : Nat) : Int) then _ else _) = _
      rw [if_neg (fun hh => by have := hh.2; omega), h2]
      rfl
    rw [q]
  obtain ⟨s3, h3⟩ : ∃ s3 : Dk, s3 = ⟨[(lgN, 0), (nwN, 1)], lN, [[(lgN, 0), (nwN, 1)]], [p, d], [f, d.length], R, [], -1, 3⟩ := ⟨_, rfl⟩
  have e3 : opT ⟨3, nwN, [], []⟩ (s2, 0) = ((s3, 0), 0) := by
    unfold opT; dsimp only
    have q : s2.step ⟨3, nwN, [], []⟩ = (s3, 0) := by
      rw [stp _ (nd _ (by rw [h2])) (by rw [h2]) (by decide), h2, h3]; rfl
    rw [q]
  obtain ⟨s4, h4⟩ : ∃ s4 : Dk, s4 = ⟨[(lgN, 1)], lN, [[(lgN, 0), (nwN, 1)], [(lgN, 1)]], [p, d], [f, d.length], R, [], -1, 4⟩ := ⟨_, rfl⟩
  have e4 : opT ⟨5, nwN, lgN, []⟩ (s3, 0) = ((s4, 0), 0) := by
    unfold opT; dsimp only
    have q : s3.step ⟨5, nwN, lgN, []⟩ = (s4, 0) := by
      rw [stp _ (nd _ (by rw [h3])) (by rw [h3]) (by decide), h3, h4]; rfl
    rw [q]
  have ef : fillT d (s1, 0) = ((s4, 0), 0) := by
    unfold fillT
    rw [runT_ok (by rw [e2]), e2]
    dsimp only
    rw [runT_ok (by rw [e3]), e3]
    dsimp only
    rw [runT_ok (by rw [e4]), e4, runT_nil]
  have er : replT d (s1, 0) = ((s4, 0), 0) := by unfold replT; rw [ef, if_pos rfl]
  rw [runT_ok (by rw [er]), er]
  dsimp only
  rw [runT_ok (by rfl)]
  have e5 : (opT ⟨4, [], [], []⟩ (setT ((repR p K).length : Int) (s4, 0)).1).2 = 0 := by
    unfold opT setT; dsimp only
    rw [stp _ (nd _ (by rw [h4])) (by rw [h4]) (by decide), h4]; rfl
  rw [runT_ok e5, runT_nil]
/-- the log of what is left -/
theorem open_left {T : RL} {fm : Nat} {fs : FilL} (h : Lft T fm fs) (R : Int) (hR : ((4111 * T.length + 4111 * T.length : Nat) : Int) ≤ R) :
    (openT rdT (newS fs R [] (-1))).2 = 0 ∧ ∃ K, fm ≤ K ∧ K ≤ T.length ∧ (openT rdT (newS fs R [] (-1))).1.2 = T.take K := by
  rcases h with ⟨rfl, rfl⟩ | ⟨p, K, rfl, h1, h2, h3, h4, h5⟩
  · have e : newS [] R [] (-1) = sE R (-1) 0 := rfl
    rw [e]
    rcases open_fresh R (-1) 0 with ⟨g1, g2, _⟩ | ⟨g1, _⟩
    · exact ⟨g1, 0, Nat.le_refl _, Nat.zero_le _, by rw [g2]; rfl⟩
    · exfalso
      apply g1
      rw [open_two (e_list R (-1) 0)]
      rfl
  · have e : newS [(lgN, p)] R [] (-1) = sL R (-1) 0 p p.length := rfl
    rw [e, open_two (l_list _ _ _ _ _)]
    have hr : (sL R (-1) 0 p p.length).read lgN = (p, 0) := rfl
    have hk : sndK p = K := stops_one (sndK_stops p) h3
    unfold stepBo
    dsimp only
    unfold rdT
    dsimp only
    rw [hr, if_neg (by simp), if_neg (by simp)]
    dsimp only
    rw [hk]
    by_cases ha : atR p K = p.length
    · rw [if_pos ha]
      exact ⟨rfl, K, h1, h2, h4⟩
    · rw [if_neg ha]
      exact ⟨rew_ok h3 R p.length (by omega), K, h1, h2, h4⟩
end Go.Proofs.YtijnjgnckipghaaGreat
