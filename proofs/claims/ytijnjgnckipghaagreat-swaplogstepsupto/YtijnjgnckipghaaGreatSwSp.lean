/- Plain: the document's log, step by step, and that it does what the program does. -/
import Derived.Test.YtijnjgnckipghaaGreatSwZ
namespace Go.Proofs.YtijnjgnckipghaaGreat
/-- steps in their order, up to the first error; how many answered OK -/
def stpsT : List DOp → Dk → Dk × Nat × Int
  | [], s => (s, 0, 0)
  | o :: r, s => if (s.step o).2 = 0 then ((stpsT r (s.step o).1).1, (stpsT r (s.step o).1).2.1 + 1, (stpsT r (s.step o).1).2.2) else ((s.step o).1, 0, (s.step o).2)
theorem stps_ok {o : DOp} {r : List DOp} {s : Dk} (h : (s.step o).2 = 0) : stpsT (o :: r) s = ((stpsT r (s.step o).1).1, (stpsT r (s.step o).1).2.1 + 1, (stpsT r (s.step o).1).2.2) := by
  show (if _ then _ else _) = _
  rw [if_pos h]
theorem stps_bad {o : DOp} {r : List DOp} {s : Dk} (h : (s.step o).2 ≠ 0) : stpsT (o :: r) s = ((s.step o).1, 0, (s.step o).2) := by
  show (if _ then _ else _) = _
  rw [if_neg h]
def refAddR (b : List UInt8) (st : LSt) : LSt × Int :=
  (((stpsT [⟨2, lgN, [], b⟩, ⟨3, lgN, [], []⟩] st.1).1, if 1 ≤ (stpsT [⟨2, lgN, [], b⟩, ⟨3, lgN, [], []⟩] st.1).2.1 then st.2 + 1 else st.2), (stpsT [⟨2, lgN, [], b⟩, ⟨3, lgN, [], []⟩] st.1).2.2)
theorem add_ref (b : List UInt8) (st : LSt) : addR b st = refAddR b st := by
  obtain ⟨s, c⟩ := st
  unfold addR refAddR
  dsimp only
  by_cases h1 : (s.step ⟨2, lgN, [], b⟩).2 = 0
  · rw [runT_ok (show (opT ⟨2, lgN, [], b⟩ (s, c)).2 = 0 from h1), runT_ok (by rfl)]
    rw [stps_ok h1]
    by_cases h2 : ((s.step ⟨2, lgN, [], b⟩).1.step ⟨3, lgN, [], []⟩).2 = 0
    · rw [runT_ok (show (opT ⟨3, lgN, [], []⟩ (setT (c + 1) (opT ⟨2, lgN, [], b⟩ (s, c)).1).1).2 = 0 from h2), runT_nil, stps_ok h2]
      rfl
    · rw [runT_bad (show (opT ⟨3, lgN, [], []⟩ (setT (c + 1) (opT ⟨2, lgN, [], b⟩ (s, c)).1).1).2 ≠ 0 from h2), stps_bad h2]
      rfl
  · rw [runT_bad (show (opT ⟨2, lgN, [], b⟩ (s, c)).2 ≠ 0 from h1), stps_bad h1]
    rfl
def rewOps (b : List UInt8) : List DOp := [⟨1, nwN, [], []⟩, ⟨2, nwN, [], b⟩, ⟨3, nwN, [], []⟩, ⟨5, nwN, lgN, []⟩, ⟨4, [], [], []⟩]
def refRewR (n : Nat) (b : List UInt8) (st : LSt) : LSt × Int :=
  (((if 1 ≤ (stpsT (rewOps b) st.1).2.1 ∧ (stpsT (rewOps b) st.1).2.1 < 4 then ((stpsT (rewOps b) st.1).1.step ⟨6, nwN, [], []⟩).1 else (stpsT (rewOps b) st.1).1), if 4 ≤ (stpsT (rewOps b) st.1).2.1 then (n : Int) else st.2), (stpsT (rewOps b) st.1).2.2)
theorem rew_ref (n : Nat) (b : List UInt8) (st : LSt) : rewR n b st = refRewR n b st := by
  obtain ⟨s, c⟩ := st
  unfold rewR refRewR rewOps
  dsimp only
  by_cases h1 : (s.step ⟨1, nwN, [], []⟩).2 = 0
  · rw [runT_ok (show (opT ⟨1, nwN, [], []⟩ (s, c)).2 = 0 from h1), stps_ok h1]
    obtain ⟨s1, e1⟩ : ∃ s1, s1 = (s.step ⟨1, nwN, [], []⟩).1 := ⟨_, rfl⟩
    have o1 : (opT ⟨1, nwN, [], []⟩ (s, c)).1 = (s1, c) := by unfold opT; rw [e1]
    rw [o1, ← e1]
    by_cases h2 : (s1.step ⟨2, nwN, [], b⟩).2 = 0
    · rw [stps_ok h2]
      obtain ⟨s2, e2⟩ : ∃ s2, s2 = (s1.step ⟨2, nwN, [], b⟩).1 := ⟨_, rfl⟩
      have o2 : (opT ⟨2, nwN, [], b⟩ (s1, c)).1 = (s2, c) := by unfold opT; rw [e2]
      rw [← e2]
      by_cases h3 : (s2.step ⟨3, nwN, [], []⟩).2 = 0
      · rw [stps_ok h3]
        obtain ⟨s3, e3⟩ : ∃ s3, s3 = (s2.step ⟨3, nwN, [], []⟩).1 := ⟨_, rfl⟩
        have o3 : (opT ⟨3, nwN, [], []⟩ (s2, c)).1 = (s3, c) := by unfold opT; rw [e3]
        rw [← e3]
        by_cases h4 : (s3.step ⟨5, nwN, lgN, []⟩).2 = 0
        · rw [stps_ok h4]
          obtain ⟨s4, e4⟩ : ∃ s4, s4 = (s3.step ⟨5, nwN, lgN, []⟩).1 := ⟨_, rfl⟩
          have o4 : (opT ⟨5, nwN, lgN, []⟩ (s3, c)).1 = (s4, c) := by unfold opT; rw [e4]
          rw [← e4]
          have ef : fillT b (s1, c) = ((s4, c), 0) := by
            unfold fillT
            rw [runT_ok (show (opT ⟨2, nwN, [], b⟩ (s1, c)).2 = 0 from h2), o2, runT_ok (show (opT ⟨3, nwN, [], []⟩ (s2, c)).2 = 0 from h3), o3, runT_ok (show (opT ⟨5, nwN, lgN, []⟩ (s3, c)).2 = 0 from h4), o4, runT_nil]
          have er : replT b (s1, c) = ((s4, c), 0) := by unfold replT; rw [ef, if_pos rfl]
          rw [runT_ok (by rw [er]), er]
          dsimp only
          rw [runT_ok (by rfl)]
          by_cases h5 : (s4.step ⟨4, [], [], []⟩).2 = 0
          · rw [runT_ok (show (opT ⟨4, [], [], []⟩ (setT (n : Int) (s4, c)).1).2 = 0 from h5), runT_nil, stps_ok h5]
            rfl
          · rw [runT_bad (show (opT ⟨4, [], [], []⟩ (setT (n : Int) (s4, c)).1).2 ≠ 0 from h5), stps_bad h5]
            rfl
        · rw [stps_bad h4]
          have ef : fillT b (s1, c) = opT ⟨5, nwN, lgN, []⟩ (s3, c) := by
            unfold fillT
            rw [runT_ok (show (opT ⟨2, nwN, [], b⟩ (s1, c)).2 = 0 from h2), o2, runT_ok (show (opT ⟨3, nwN, [], []⟩ (s2, c)).2 = 0 from h3), o3, runT_bad (show (opT ⟨5, nwN, lgN, []⟩ (s3, c)).2 ≠ 0 from h4)]
          have er : replT b (s1, c) = remT (opT ⟨5, nwN, lgN, []⟩ (s3, c)) := by unfold replT; rw [ef, if_neg (show (opT ⟨5, nwN, lgN, []⟩ (s3, c)).2 ≠ 0 from h4)]
          rw [runT_bad (by rw [er]; exact h4), er]
          rfl
      · rw [stps_bad h3]
        have ef : fillT b (s1, c) = opT ⟨3, nwN, [], []⟩ (s2, c) := by
          unfold fillT
          rw [runT_ok (show (opT ⟨2, nwN, [], b⟩ (s1, c)).2 = 0 from h2), o2, runT_bad (show (opT ⟨3, nwN, [], []⟩ (s2, c)).2 ≠ 0 from h3)]
        have er : replT b (s1, c) = remT (opT ⟨3, nwN, [], []⟩ (s2, c)) := by unfold replT; rw [ef, if_neg (show (opT ⟨3, nwN, [], []⟩ (s2, c)).2 ≠ 0 from h3)]
        rw [runT_bad (by rw [er]; exact h3), er]
        rfl
    · rw [stps_bad h2]
      have ef : fillT b (s1, c) = opT ⟨2, nwN, [], b⟩ (s1, c) := by
        unfold fillT
        rw [runT_bad (show (opT ⟨2, nwN, [], b⟩ (s1, c)).2 ≠ 0 from h2)]
      have er : replT b (s1, c) = remT (opT ⟨2, nwN, [], b⟩ (s1, c)) := by unfold replT; rw [ef, if_neg (show (opT ⟨2, nwN, [], b⟩ (s1, c)).2 ≠ 0 from h2)]
      rw [runT_bad (by rw [er]; exact h2), er]
      rfl
  · rw [runT_bad (show (opT ⟨1, nwN, [], []⟩ (s, c)).2 ≠ 0 from h1), stps_bad h1]
    rfl
end Go.Proofs.YtijnjgnckipghaaGreat
