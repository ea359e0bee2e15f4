/- Plain: the document's Open, and that it does what the program's does. -/
import Derived.Test.YtijnjgnckipghaaGreatSwSp
import Derived.Test.YtijnjgnckipghaaGreatSwRd
namespace Go.Proofs.YtijnjgnckipghaaGreat
def begOps : List DOp := [⟨1, lgN, [], []⟩, ⟨3, lgN, [], []⟩, ⟨4, [], [], []⟩]
theorem run_stps : ∀ (os : List DOp) (s : Dk) (c : Int), runT (os.map opT) (s, c) = (((stpsT os s).1, c), (stpsT os s).2.2) := by
  intro os
  induction os with
  | nil => intro s c; rfl
  | cons o r ih =>
    intro s c
    rw [List.map_cons]
    by_cases h : (s.step o).2 = 0
    · rw [runT_ok (show (opT o (s, c)).2 = 0 from h), stps_ok h]
      exact ih (s.step o).1 c
    · rw [runT_bad (show (opT o (s, c)).2 ≠ 0 from h), stps_bad h]
      rfl
theorem begin_ref (s : Dk) (c : Int) : beginT (s, c) = (((stpsT begOps s).1, c), (stpsT begOps s).2.2) := run_stps begOps s c
/-- the count makes no difference to what a rewrite does to the disk -/
theorem rewT_any (rs : RL) (s : Dk) (c c' : Int) : (rewT rs (s, c)).1.1 = (rewT rs (s, c')).1.1 ∧ (rewT rs (s, c)).2 = (rewT rs (s, c')).2 := by
  unfold rewT
  split
  · rw [rew_ref, rew_ref]
    exact ⟨rfl, rfl⟩
  · exact ⟨rfl, rfl⟩
theorem rewT_count {rs : RL} {s : Dk} {c : Int} (h : (rewT rs (s, c)).2 = 0) : (rewT rs (s, c)).1.2 = (rs.length : Int) := by
  unfold rewT at h ⊢
  split at h
  · rename_i hz
    rw [if_pos hz]
    rw [rew_ref] at h ⊢
    have key : ∀ (os : List DOp) (s : Dk), (stpsT os s).2.2 = 0 → (stpsT os s).2.1 = os.length := by
      intro os
      induction os with
      | nil => intro s _; rfl
      | cons o r ih =>
        intro s h
        by_cases g : (s.step o).2 = 0
        · rw [stps_ok g] at h ⊢
          show (stpsT r (s.step o).1).2.1 + 1 = _
          rw [ih _ h]; rfl
        · rw [stps_bad g] at h
          exact absurd h g
    have h5 := key (rewOps (encG 0 rs).1) s h
    unfold refRewR
    dsimp only
    rw [if_pos (by rw [h5]; show 4 ≤ 5; decide)]
  · rename_i hz; exact absurd h hz
/-- the document's Open: the disk and the count behind it, the records, the error -/
noncomputable def refRd (s : Dk) : LSt × RL × Int :=
  if (s.read lgN).2 = 90 then (((stpsT begOps s).1, 0), [], (stpsT begOps s).2.2)
  else if (s.read lgN).2 ≠ 0 then ((s, 0), [], (s.read lgN).2)
  else if atR (s.read lgN).1 (sndK (s.read lgN).1) < (s.read lgN).1.length then
    (if (rewT (repR (s.read lgN).1 (sndK (s.read lgN).1)) (s, (sndK (s.read lgN).1 : Int))).2 = 0 then ((rewT (repR (s.read lgN).1 (sndK (s.read lgN).1)) (s, (sndK (s.read lgN).1 : Int))).1, repR (s.read lgN).1 (sndK (s.read lgN).1), 0)
     else ((rewT (repR (s.read lgN).1 (sndK (s.read lgN).1)) (s, (sndK (s.read lgN).1 : Int))).1, [], (rewT (repR (s.read lgN).1 (sndK (s.read lgN).1)) (s, (sndK (s.read lgN).1 : Int))).2))
  else ((s, (sndK (s.read lgN).1 : Int)), repR (s.read lgN).1 (sndK (s.read lgN).1), 0)
theorem rd_ref (s : Dk) : (rdT (s, 0)).1.2 = (refRd s).2.2 ∧ (rdT (s, 0)).1.1.1 = (refRd s).1.1 ∧ ((rdT (s, 0)).1.2 = 0 → (rdT (s, 0)).2 = (refRd s).2.1 ∧ (refRd s).1.2 = ((rdT (s, 0)).2.length : Int)) := by
  unfold rdT refRd
  dsimp only
  by_cases h1 : (s.read lgN).2 = 90
  · rw [if_pos h1, if_pos h1, begin_ref]
    exact ⟨rfl, rfl, fun _ => ⟨rfl, rfl⟩⟩
  · rw [if_neg h1, if_neg h1]
    by_cases h2 : (s.read lgN).2 ≠ 0
    · rw [if_pos h2, if_pos h2]
      exact ⟨rfl, rfl, fun e => absurd e h2⟩
    · rw [if_neg h2, if_neg h2]
      have hle := atR_le (s.read lgN).1 (sndK (s.read lgN).1)
      by_cases h3 : atR (s.read lgN).1 (sndK (s.read lgN).1) = (s.read lgN).1.length
      · rw [if_pos h3, if_neg (by omega)]
        exact ⟨rfl, rfl, fun _ => ⟨rfl, by show ((sndK _ : Nat) : Int) = _; rw [repR_len]⟩⟩
      · rw [if_neg h3, if_pos (by omega)]
        obtain ⟨g1, g2⟩ := rewT_any (repR (s.read lgN).1 (sndK (s.read lgN).1)) s 0 (sndK (s.read lgN).1 : Int)
        dsimp only
        by_cases h4 : (rewT (repR (s.read lgN).1 (sndK (s.read lgN).1)) (s, (sndK (s.read lgN).1 : Int))).2 = 0
        · rw [if_pos h4]
          exact ⟨by rw [g2]; exact h4, g1, fun _ => ⟨rfl, rewT_count h4⟩⟩
        · rw [if_neg h4]
          exact ⟨g2, g1, fun e => absurd (g2 ▸ e) h4⟩
end Go.Proofs.YtijnjgnckipghaaGreat
