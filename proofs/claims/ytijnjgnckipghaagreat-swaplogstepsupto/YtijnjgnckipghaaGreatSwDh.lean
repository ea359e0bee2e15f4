/- Plain: what the log's steps keep of a disk, and how much it grows. -/
import Derived.Test.YtijnjgnckipghaaGreatSwDg
namespace Go.Proofs.YtijnjgnckipghaaGreat
theorem addT_keeps {s : Dk} {c : Int} {m : Nat} (op no : Int) (id : List UInt8) (hw : Wf s) (hb : Bd m s) : Wf (addT op no id (s, c)).1.1 ∧ Bd (m + id.length + 29) (addT op no id (s, c)).1.1 ∧ (addT op no id (s, c)).1.1.fails = s.fails := by
  unfold addT
  split
  · rw [add_ref]
    have h := stps_keeps [(2, lgN, [], (encOf c op no id).1), (3, lgN, [], [])] hw hb
    have hl := enc_len c op no id
    refine ⟨h.1, bd_mono h.2.1 ?_, h.2.2⟩
    simp only [bulkO, lgN, List.length_cons, List.length_nil]
    omega
  · exact ⟨hw, bd_mono hb (by omega), rfl⟩
theorem rewT_keeps {s : Dk} {c : Int} {m : Nat} (rs : RL) (hw : Wf s) (hb : Bd m s) : Wf (rewT rs (s, c)).1.1 ∧ Bd (m + bulkR rs + 60) (rewT rs (s, c)).1.1 ∧ (rewT rs (s, c)).1.1.fails = s.fails := by
  unfold rewT
  split
  · rename_i hz
    rw [rew_ref]
    have h := stps_keeps [(1, nwN, [], []), (2, nwN, [], (encG 0 rs).1), (3, nwN, [], []), (5, nwN, lgN, []), (4, [], [], [])] hw hb
    have hl : (encG 0 rs).1.length ≤ bulkR rs := by
      have := encH_len rs 0 []
      rw [encH_nil _ (encG_bad _ _)] at this
      simpa using this
    have e : stpsT (rewOps (encG 0 rs).1) s = stpsT (opsD [(1, nwN, [], []), (2, nwN, [], (encG 0 rs).1), (3, nwN, [], []), (5, nwN, lgN, []), (4, [], [], [])]) s := rfl
    have hB : Bd (m + bulkR rs + 58) (stpsT (rewOps (encG 0 rs).1) s).1 := by
      rw [e]
      refine bd_mono h.2.1 ?_
      simp only [bulkO, lgN, nwN, List.length_cons, List.length_nil]
      omega
    have hW : Wf (stpsT (rewOps (encG 0 rs).1) s).1 := by rw [e]; exact h.1
    have hF : (stpsT (rewOps (encG 0 rs).1) s).1.fails = s.fails := by rw [e]; exact h.2.2
    unfold refRewR
    dsimp only
    split
    · exact ⟨wf_step hW _, bd_mono (bd_step hB ⟨6, nwN, [], []⟩) (by simp only [List.length_nil]; omega), (step_fails _ _).trans hF⟩
    · exact ⟨hW, bd_mono hB (by omega), hF⟩
  · exact ⟨hw, bd_mono hb (by omega), rfl⟩
theorem refRd_keeps {s : Dk} {m : Nat} (hw : Wf s) (hb : Bd m s) : Wf (refRd s).1.1 ∧ Bd (m + m + 60) (refRd s).1.1 ∧ (refRd s).1.1.fails = s.fails := by
  unfold refRd
  split
  · have h := stps_keeps [(1, lgN, [], []), (3, lgN, [], []), (4, [], [], [])] hw hb
    refine ⟨h.1, bd_mono h.2.1 ?_, h.2.2⟩
    simp only [bulkO, lgN, List.length_cons, List.length_nil]
    omega
  · split
    · exact ⟨hw, bd_mono hb (by omega), rfl⟩
    · have hK := sndK_stops (s.read lgN).1
      have hbk := bulk_rep (sndK (s.read lgN).1) hK.1
      have hal := atR_le (s.read lgN).1 (sndK (s.read lgN).1)
      have hrl := read_len hb lgN
      have h := rewT_keeps (c := (sndK (s.read lgN).1 : Int)) (repR (s.read lgN).1 (sndK (s.read lgN).1)) hw hb
      split
      · split
        · exact ⟨h.1, bd_mono h.2.1 (by omega), h.2.2⟩
        · exact ⟨h.1, bd_mono h.2.1 (by omega), h.2.2⟩
      · exact ⟨hw, bd_mono hb (by omega), rfl⟩
theorem refOpen_keeps {s : Dk} {m : Nat} (hw : Wf s) (hb : Bd m s) : Wf (refOpen s).1.1 ∧ Bd (m + m + 70) (refOpen s).1.1 ∧ (refOpen s).1.1.fails = s.fails := by
  have hr : Wf (remU (s, 0)).1.1 ∧ Bd (m + 2) (remU (s, 0)).1.1 ∧ (remU (s, 0)).1.1.fails = s.fails := by
    unfold remU
    split
    · exact ⟨wf_step hw _, bd_step hb ⟨6, nwN, [], []⟩, step_fails _ _⟩
    · exact ⟨hw, bd_mono hb (by omega), rfl⟩
  unfold refOpen
  split
  · have h := refRd_keeps hr.1 hr.2.1
    exact ⟨h.1, bd_mono h.2.1 (by omega), h.2.2.trans hr.2.2⟩
  · exact ⟨hr.1, bd_mono hr.2.1 (by omega), hr.2.2⟩
end Go.Proofs.YtijnjgnckipghaaGreat
