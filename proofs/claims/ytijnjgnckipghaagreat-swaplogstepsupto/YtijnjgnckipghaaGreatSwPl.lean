/- Plain: a life of a log: begun, records added, the power lost, read again. -/
import Derived.Test.YtijnjgnckipghaaGreatSwRd
import Derived.Test.YtijnjgnckipghaaGreatSwV
namespace Go.Proofs.YtijnjgnckipghaaGreat
def lN : NL := [(lgN, 0)]
def sE (R pw : Int) (n : Nat) : Dk := ⟨[], [], [], [], [], R, [], pw, n⟩
def sC (R pw : Int) (n : Nat) : Dk := ⟨lN, [], [lN], [[]], [0], R, [], pw, n⟩
def sL (R pw : Int) (n : Nat) (bs : List UInt8) (f : Nat) : Dk := ⟨lN, lN, [], [bs], [f], R, [], pw, n⟩
theorem stp {s : Dk} (o : DOp) (hd : s.down = false) (hf : s.fails = []) (hg : ¬ ((o.what ≠ 4 ∧ goodN o.name = false) ∨ (o.what = 5 ∧ goodN o.to = false))) :
    s.step o = (match atN s.now o.name with
    | none => if o.what = 1 ∨ o.what = 4 then { s with n := s.n + 1 }.act o 0 else ({ s with n := s.n + 1 }, 90)
    | some k => if o.what = 1 then ({ s with n := s.n + 1 }, 91) else { s with n := s.n + 1 }.act o k) := by
  unfold Dk.step
  rw [if_neg (by rw [hd]; simp), if_neg (by unfold Dk.fault; rw [hf]; simp), if_neg hg]
  rfl
theorem stp_down {s : Dk} (o : DOp) (hd : s.down = true) : s.step o = (s, 93) := by unfold Dk.step; rw [if_pos hd]
theorem at_lN : atN lN lgN = some 0 := by decide
theorem at_nil (x : Nm) : atN [] x = none := rfl
theorem e_create (R pw : Int) (n : Nat) (h : (sE R pw n).down = false) : (sE R pw n).step ⟨1, lgN, [], []⟩ = (sC R pw (n + 1), 0) := by
  rw [stp _ h rfl (by decide)]; rfl
theorem c_sync (R pw : Int) (n : Nat) (h : (sC R pw n).down = false) : (sC R pw n).step ⟨3, lgN, [], []⟩ = (sC R pw (n + 1), 0) := by
  rw [stp _ h rfl (by decide)]; rfl
theorem c_names (R pw : Int) (n : Nat) (h : (sC R pw n).down = false) : (sC R pw n).step ⟨4, [], [], []⟩ = (sL R pw (n + 1) [] 0, 0) := by
  rw [stp _ h rfl (by decide)]; rfl
theorem l_sync (R pw : Int) (n : Nat) (bs : List UInt8) (f : Nat) (h : (sL R pw n bs f).down = false) : (sL R pw n bs f).step ⟨3, lgN, [], []⟩ = (sL R pw (n + 1) bs bs.length, 0) := by
  rw [stp _ h rfl (by decide)]; rfl
theorem l_app (R pw : Int) (n : Nat) (bs : List UInt8) (f : Nat) (d : List UInt8) (h : (sL R pw n bs f).down = false) :
    (sL R pw n bs f).step ⟨2, lgN, [], d⟩ = if d ≠ [] ∧ R < ((bs.length + d.length : Nat) : Int) then (sL R pw (n + 1) bs f, 92) else (sL R pw (n + 1) (bs ++ d) f, 0) := by
  rw [stp _ h rfl (by simp [lgN]; decide)]
  show (if _ then _ else _) = _
  rfl
/-- the log's states while it lives: bytes of records T, all but for the last ones safe -/
structure Lif (T : RL) (bs : List UInt8) (f fm : Nat) : Prop where
  stops : Stops bs T.length
  all : atR bs T.length = bs.length
  rep : repR bs T.length = T
  fmL : fm ≤ T.length
  firm : atR bs fm ≤ f
  len : bs.length ≤ 4111 * T.length
theorem lif_nil : Lif [] [] 0 0 where
  stops := ⟨fun i hi => absurd hi (by simp), fun h => h.1 rfl⟩
  all := rfl
  rep := rfl
  fmL := Nat.le_refl _
  firm := Nat.le_refl _
  len := Nat.zero_le _
theorem lif_app {T : RL} {bs : List UInt8} {f fm : Nat} (h : Lif T bs f fm) {op no : Int} {id x : List UInt8} (he : encOf (T.length : Int) op no id = (x, 0)) : Lif (T ++ [((T.length : Int), op, no, id)]) (bs ++ x) f fm := by
  have hm := stops_more h.stops he
  have ht : bs.take (atR bs T.length) = bs := by rw [h.all, List.take_length]
  rw [ht] at hm
  have hl : (T ++ [((T.length : Int), op, no, id)]).length = T.length + 1 := by simp
  have hb := sound_behind h.stops.1 x fm h.fmL
  rw [ht] at hb
  obtain ⟨_, _, _, g4, g5⟩ := enc_inv he
  have hx : x.length ≤ 4111 := by rw [g5, recL_len]; omega
  refine ⟨by rw [hl]; exact hm.1, by rw [hl, hm.2.1, h.all, List.length_append], by rw [hl, hm.2.2, h.rep], by rw [hl]; have := h.fmL; omega, by rw [hb.1]; exact h.firm, ?_⟩
  rw [hl, List.length_append]
  have := h.len
  omega
theorem lif_sync {T : RL} {bs : List UInt8} {f fm : Nat} (h : Lif T bs f fm) : Lif T bs bs.length T.length := ⟨h.stops, h.all, h.rep, Nat.le_refl _, by rw [h.all]; exact Nat.le_refl _, h.len⟩
/-- of a beginning of a log's bytes a beginning of its records is read -/
theorem cut_rep {bs : List UInt8} {L fm j : Nat} (h : Stops bs L) (ha : atR bs L = bs.length) (hf : fm ≤ L) (hj : atR bs fm ≤ j) : ∃ K, fm ≤ K ∧ K ≤ L ∧ Stops (bs.take j) K ∧ repR (bs.take j) K = (repR bs L).take K := by
  have hex : ∃ K, K ≤ L ∧ atR bs K ≤ j ∧ (K = L ∨ j < atR bs (K + 1)) := by
    have key : ∀ M, M ≤ L → ∃ K, K ≤ L ∧ atR bs K ≤ j ∧ (K = L ∨ j < atR bs (K + 1)) ∨ atR bs M ≤ j := by
      intro M
      induction M with
      | zero => intro _; exact ⟨0, .inr (Nat.zero_le _)⟩
      | succ M ih =>
        intro hM
        obtain ⟨K, h1 | h1⟩ := ih (by omega)
        · exact ⟨K, .inl h1⟩
        · by_cases h2 : atR bs (M + 1) ≤ j
          · exact ⟨0, .inr h2⟩
          · exact ⟨M, .inl ⟨by omega, h1, .inr (by omega)⟩⟩
    obtain ⟨K, h1 | h1⟩ := key L (Nat.le_refl _)
    · exact ⟨K, h1⟩
    · exact ⟨L, Nat.le_refl _, h1, .inl rfl⟩
  obtain ⟨K, hK, hKj, hend⟩ := hex
  have hfK : fm ≤ K := by
    rcases Nat.lt_or_ge K fm with h1 | h1
    · rcases hend with h2 | h2
      · omega
      · have := atR_mono bs (show K + 1 ≤ fm by omega)
        omega
    · exact h1
  have hok : ∀ i, i < K → okR bs i := fun i hi => h.1 i (by omega)
  have hsp : bs.take j = bs.take (atR bs K) ++ (bs.drop (atR bs K)).take (j - atR bs K) := by
    conv => lhs; rw [show j = atR bs K + (j - atR bs K) by omega]
    rw [List.take_add]
  refine ⟨K, hfK, hK, ?_, ?_⟩
  · rw [hsp]
    refine ⟨sound_ok hok _, fun hh => ?_⟩
    have hn := hh.1
    rw [sound_next hok] at hn
    apply hn
    rcases hend with h2 | h2
    · rw [h2, ha, List.drop_length, List.take_nil, dec_nil]; rfl
    · have hm : (recR bs K).n ≠ 0 := by
        rw [atR_succ] at h2
        omega
      obtain ⟨p1, p2, _⟩ := dec_plain _ hm
      obtain ⟨g1, g2, g3, g4, g5⟩ := enc_inv p1
      rw [atR_succ] at h2
      have hl : (recR bs K).n = (recR bs K).id.length + 15 := by have := dec_n _ hm; unfold recR at this ⊢; omega
      have e : (bs.drop (atR bs K)).take (j - atR bs K) = ((bs.drop (atR bs K)).take (recR bs K).n).take (j - atR bs K) := by rw [List.take_take, Nat.min_eq_left (by omega)]
      rw [e]
      unfold recR at hl h2 ⊢
      rw [g5, dec_cut _ _ _ _ (by omega) g4 _ (by omega)]
      rfl
  · rw [hsp]
    obtain ⟨_, h2⟩ := sound_behind hok ((bs.drop (atR bs K)).take (j - atR bs K)) K (Nat.le_refl _)
    rw [repR_congr h2]
    unfold repR
    rw [← List.map_take, List.take_range, Nat.min_eq_left hK]
end Go.Proofs.YtijnjgnckipghaaGreat
