/- Plain: a life of Appends and Syncs alone; the document's walk over names, one by one. -/
import Derived.Test.YtikkmnclcbanfaaDkR
namespace Go.Proofs.Ytikkmnclcbanfaa
open Go.RowKit
/-- behind Appends and Syncs alone: the names are those of the beginning, each file begins with what it held, all that safe -/
structure Beg (fs : FilL) (s : Dk) : Prop where
  now : s.now = numbered fs
  safe : s.safe = numbered fs
  pend : s.pend = []
  len : s.data.length = fs.length
  flen : s.firm.length = fs.length
  data : ∀ i, (fs.map (fun f => f.2)).getD i [] <+: s.data.getD i []
  firm : ∀ i, ((fs.map (fun f => f.2)).getD i []).length ≤ s.firm.getD i 0
theorem beg_new (fs : FilL) (room : Int) (fails : List Int) (power : Int) : Beg fs (newS fs room fails power) :=
  ⟨rfl, rfl, rfl, by simp [newS], by simp [newS], fun i => List.prefix_refl _, fun i => by
    show _ ≤ (fs.map (fun f => f.2.length)).getD i 0
    simp only [List.getD, List.getElem?_map]
    cases fs[i]? <;> simp⟩
theorem beg_step {fs : FilL} {s : Dk} (h : Beg fs s) (o : DOp) (hw : o.what = 2 ∨ o.what = 3) : Beg fs (s.step o).1 := by
  rcases step_cases s o with ⟨n, e⟩ | ⟨k, e, hk⟩
  · rw [e]; exact ⟨h.now, h.safe, h.pend, h.len, h.flen, h.data, h.firm⟩
  · rw [e]
    have hm : (o.name, k) ∈ s.now := by
      rcases hk with hk | hk | hk
      · omega
      · omega
      · exact hk
    unfold Dk.act
    rw [if_neg (by omega)]
    by_cases h2 : o.what = 2
    · rw [if_pos h2]
      split
      · exact ⟨h.now, h.safe, h.pend, h.len, h.flen, h.data, h.firm⟩
      · refine ⟨h.now, h.safe, h.pend, by simp [h.len], h.flen, fun i => ?_, h.firm⟩
        show _ <+: (s.data.set k (s.data.getD k [] ++ o.data)).getD i []
        rw [getD_set]
        split
        · rename_i ej
          rw [← ej.1]
          exact List.IsPrefix.trans (h.data i) (List.prefix_append _ _)
        · exact h.data i
    · rw [if_neg h2, if_pos (by omega)]
      refine ⟨h.now, h.safe, h.pend, h.len, by simp [h.flen], h.data, fun i => ?_⟩
      show _ ≤ (s.firm.set k (s.data.getD k []).length).getD i 0
      rw [getD_setN]
      split
      · rename_i ej
        rw [← ej.1]
        exact (h.data i).length_le
      · exact h.firm i
/-- what is left then: the files of the beginning by name, each a beginning of what is seen that has what it held -/
theorem beg_left {fs : FilL} {s : Dk} (h : Beg fs s) (hw : Wf s) (k : Int) (keep : List Int) : (s.left k keep).length = fs.length ∧ (s.left k keep).map (fun f => f.1) = fs.map (fun f => f.1) ∧
    ∀ i (hi : i < (s.left k keep).length), ((s.left k keep)[i]).2 = (s.data.getD i []).take (leftLen s keep i) ∧ ((fs.map (fun f => f.2)).getD i []).length ≤ leftLen s keep i ∧ leftLen s keep i ≤ (s.data.getD i []).length := by
  have e : leftNames s k = numbered fs := by
    unfold leftNames
    rw [h.pend, if_pos rfl, h.safe]
    split <;> rfl
  have el : s.left k keep = (numbered fs).map (fun p => (p.1, (s.data.getD p.2 []).take (leftLen s keep p.2))) := by unfold Dk.left; rw [e]
  refine ⟨by rw [el, List.length_map, num_len], by rw [el, List.map_map, ← num_fst]; rfl, fun i hi => ?_⟩
  have hl := leftLen_le s hw keep i
  have hf := h.firm i
  refine ⟨?_, by omega, hl.2⟩
  simp only [el, List.getElem_map, num_get]
/-! the document's walk over names -/
def nmGo (name : Nm) (no : Nat) : NL → Bool → NL → NL
  | out, put, [] => if put = true then out else out ++ [(name, no)]
  | out, put, q :: r => if q.1 = name then nmGo name no out put r else if put = false ∧ lessN name q.1 = true then nmGo name no (out ++ [(name, no), q]) true r else nmGo name no (out ++ [q]) put r
theorem nm_true (name : Nm) (no : Nat) : ∀ (l out : NL), nmGo name no out true l = out ++ delN l name := by
  intro l
  induction l with
  | nil => intro out; simp [nmGo, delN]
  | cons q r ih =>
    intro out
    unfold nmGo
    by_cases h : q.1 = name
    · rw [if_pos h, ih]
      unfold delN
      rw [List.filter_cons, if_neg (by simp [h])]
    · rw [if_neg h, if_neg (by simp), ih]
      unfold delN
      rw [List.filter_cons, if_pos (by simp [h])]
      simp
theorem nm_false (name : Nm) (no : Nat) : ∀ (l out : NL), nmGo name no out false l = out ++ putN l name no := by
  intro l
  induction l with
  | nil => intro out; simp [nmGo, putN, delN, insN]
  | cons q r ih =>
    intro out
    unfold nmGo
    by_cases h : q.1 = name
    · rw [if_pos h, ih]
      unfold putN delN
      rw [List.filter_cons, if_neg (by simp [h])]
    · rw [if_neg h]
      have hd : delN (q :: r) name = q :: delN r name := by unfold delN; rw [List.filter_cons, if_pos (by simp [h])]
      by_cases hl : lessN name q.1 = true
      · rw [if_pos ⟨rfl, hl⟩, nm_true]
        unfold putN
        rw [hd]
        unfold insN
        rw [if_pos hl]
        simp
      · rw [if_neg (fun e => hl e.2), ih]
        unfold putN
        rw [hd]
        have : insN name no (q :: delN r name) = q :: insN name no (delN r name) := by rw [insN, if_neg hl]
        rw [this]
        simp
/-- 'greater than name', in the words of the comparison that the language makes -/
theorem gt_less (a name : Nm) (h : a ≠ name) : (!(Op.bytesLess a name || a == name)) = lessN name a := by
  have e : (a == name) = false := by simpa using h
  rw [e, Bool.or_false]
  show (!(lessN a name)) = lessN name a
  rcases less_total a name with h1 | h1 | h1
  · exact absurd h1 h
  · rw [h1, less_asymm a name h1]; rfl
  · rw [h1, less_asymm name a h1]; rfl
end Go.Proofs.Ytikkmnclcbanfaa
