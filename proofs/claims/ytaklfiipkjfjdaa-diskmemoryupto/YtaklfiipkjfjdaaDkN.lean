/- Plain: a step by the check that all share; what each kind of step does behind it. The disk's blocks where one file changes. -/
import Derived.Test.YtaklfiipkjfjdaaDkI
namespace Go.Proofs.Ytaklfiipkjfjdaa
open Go.RowKit
def opNames (o : DOp) : List Nm := if o.what = 4 then [] else if o.what = 5 then [o.to, o.name] else [o.name]
theorem names_bad (o : DOp) : (opNames o).any (fun n => !goodN n) = true ↔ ((o.what ≠ 4 ∧ goodN o.name = false) ∨ (o.what = 5 ∧ goodN o.to = false)) := by
  unfold opNames
  by_cases h4 : o.what = 4
  · rw [if_pos h4]
    simp only [List.any_nil, Bool.false_eq_true, false_iff]
    rintro (h | h)
    · exact h.1 h4
    · omega
  · rw [if_neg h4]
    by_cases h5 : o.what = 5
    · rw [if_pos h5]
      cases h1 : goodN o.name <;> cases h2 : goodN o.to <;> simp [h1, h2, h5]
    · rw [if_neg h5]
      cases h1 : goodN o.name <;> simp [h1, h4, h5]
theorem step_e (s : Dk) (o : DOp) (h : stepE s (opNames o) ≠ 0) : s.step o = (cntS s, stepE s (opNames o)) := by
  unfold stepE cntS Dk.step at *
  by_cases hd : s.down = true
  · rw [if_pos hd, if_pos hd, if_pos hd]
  · rw [if_neg hd] at h
    rw [if_neg hd, if_neg hd, if_neg hd]
    by_cases hf : s.fault = true
    · rw [if_pos hf, if_pos hf]
    · rw [if_neg hf] at h
      rw [if_neg hf, if_neg hf]
      by_cases hb : (opNames o).any (fun n => !goodN n) = true
      · rw [if_pos hb, if_pos ((names_bad o).1 hb)]
      · rw [if_neg hb] at h
        exact absurd rfl h
theorem step_z (s : Dk) (o : DOp) (h : stepE s (opNames o) = 0) : cntS s = { s with n := s.n + 1 } ∧ s.step o = (match atN s.now o.name with
    | none => if o.what = 1 ∨ o.what = 4 then { s with n := s.n + 1 }.act o 0 else ({ s with n := s.n + 1 }, 90)
    | some k => if o.what = 1 then ({ s with n := s.n + 1 }, 91) else { s with n := s.n + 1 }.act o k) := by
  unfold stepE cntS Dk.step at *
  by_cases hd : s.down = true
  · rw [if_pos hd] at h; cases h
  · rw [if_neg hd] at h
    rw [if_neg hd, if_neg hd]
    by_cases hf : s.fault = true
    · rw [if_pos hf] at h; cases h
    · rw [if_neg hf] at h
      rw [if_neg hf]
      by_cases hb : (opNames o).any (fun n => !goodN n) = true
      · rw [if_pos hb] at h; cases h
      · rw [if_neg (fun e => hb ((names_bad o).2 e))]
        exact ⟨rfl, rfl⟩
theorem z_good {s : Dk} {ns : List Nm} (h : stepE s ns = 0) : ∀ n ∈ ns, goodN n = true := by
  unfold stepE at h
  split at h
  · cases h
  · split at h
    · cases h
    · split at h
      · cases h
      · rename_i hb
        intro n hn
        cases e : goodN n with
        | true => rfl
        | false => exact absurd (List.any_eq_true.2 ⟨n, hn, by rw [e]; rfl⟩) hb
theorem good_len {n : Nm} (h : goodN n = true) : n.length ≤ 64 := by
  unfold goodN at h
  simp only [Bool.and_eq_true, decide_eq_true_eq] at h
  exact h.2.2
def Bd (m : Nat) (s : Dk) : Prop := s.n ≤ m ∧ s.data.length ≤ m ∧ s.now.length ≤ m ∧ s.safe.length ≤ m ∧ s.pend.length ≤ m ∧ ∀ i, (s.data.getD i []).length ≤ m
theorem bd_cnt {m : Nat} {s : Dk} (h : Bd m s) : Bd (m + 1) (cntS s) := by
  obtain ⟨h1, h2, h3, h4, h5, h6⟩ := h
  unfold cntS
  split
  · exact ⟨by omega, by omega, by omega, by omega, by omega, fun i => by have := h6 i; omega⟩
  · exact ⟨by show s.n + 1 ≤ _; omega, by show s.data.length ≤ _; omega, by show s.now.length ≤ _; omega, by show s.safe.length ≤ _; omega, by show s.pend.length ≤ _; omega, fun i => by show (s.data.getD i []).length ≤ _; have := h6 i; omega⟩
theorem bd_mono {m k : Nat} {s : Dk} (h : Bd m s) (hk : m ≤ k) : Bd k s := by
  obtain ⟨h1, h2, h3, h4, h5, h6⟩ := h
  exact ⟨by omega, by omega, by omega, by omega, by omega, fun i => by have := h6 i; omega⟩
theorem bd_act {m : Nat} {s : Dk} (h : Bd m s) (o : DOp) (k : Nat) : Bd (m + 1 + o.data.length) (s.act o k).1 := by
  obtain ⟨h1, h2, h3, h4, h5, h6⟩ := h
  have hB : Bd (m + 1 + o.data.length) s := ⟨by omega, by omega, by omega, by omega, by omega, fun i => by have := h6 i; omega⟩
  unfold Dk.act
  split
  · refine ⟨by show s.n ≤ _; omega, by show (s.data ++ [[]]).length ≤ _; rw [List.length_append]; simp; omega, ?_, by show s.safe.length ≤ _; omega, by show (s.pend ++ [_]).length ≤ _; rw [List.length_append]; simp; omega, fun i => ?_⟩
    · show (putN s.now o.name s.data.length).length ≤ _
      have := putN_len s.now o.name s.data.length
      omega
    · show ((s.data ++ [[]]).getD i []).length ≤ _
      have := h6 i
      rcases Nat.lt_or_ge i s.data.length with hi | hi
      · have e9 : (s.data ++ [[]]).getD i [] = s.data.getD i [] := by simp only [List.getD, List.getElem?_append_left hi]
        rw [e9]; omega
      · have e9 : (s.data ++ [[]]).getD i [] = [] := by
          simp only [List.getD, List.getElem?_append_right hi]
          cases i - s.data.length <;> simp
        rw [e9]; simp
  · split
    · split
      · exact hB
      · refine ⟨by show s.n ≤ _; omega, by show (s.data.set _ _).length ≤ _; simp; omega, by show s.now.length ≤ _; omega, by show s.safe.length ≤ _; omega, by show s.pend.length ≤ _; omega, fun i => ?_⟩
        show ((s.data.set k (s.data.getD k [] ++ o.data)).getD i []).length ≤ _
        rw [getD_set]
        have a1 := h6 i
        have a2 := h6 k
        split
        · rw [List.length_append]; omega
        · omega
    · split
      · exact hB
      · split
        · exact ⟨by show s.n ≤ _; omega, by show s.data.length ≤ _; omega, by show s.now.length ≤ _; omega, by show s.now.length ≤ _; omega, Nat.zero_le _, fun i => by show (s.data.getD i []).length ≤ _; have := h6 i; omega⟩
        · split
          · split
            · exact hB
            · refine ⟨by show s.n ≤ _; omega, by show s.data.length ≤ _; omega, ?_, by show s.safe.length ≤ _; omega, by show (s.pend ++ [_]).length ≤ _; rw [List.length_append]; simp; omega, fun i => by show (s.data.getD i []).length ≤ _; have := h6 i; omega⟩
              show (putN (delN s.now o.name) o.to k).length ≤ _
              have a1 := putN_len (delN s.now o.name) o.to k
              have a2 := delN_len s.now o.name
              omega
          · refine ⟨by show s.n ≤ _; omega, by show s.data.length ≤ _; omega, ?_, by show s.safe.length ≤ _; omega, by show (s.pend ++ [_]).length ≤ _; rw [List.length_append]; simp; omega, fun i => by show (s.data.getD i []).length ≤ _; have := h6 i; omega⟩
            show (delN s.now o.name).length ≤ _
            have a2 := delN_len s.now o.name
            omega
theorem bd_step {m : Nat} {s : Dk} (h : Bd m s) (o : DOp) : Bd (m + 2 + o.data.length) (s.step o).1 := by
  by_cases e : stepE s (opNames o) = 0
  · obtain ⟨h1, h2⟩ := step_z s o e
    have hB : Bd (m + 1) { s with n := s.n + 1 } := by rw [← h1]; exact bd_cnt h
    rw [h2]
    split
    · split
      · exact bd_mono (bd_act hB o 0) (by omega)
      · exact bd_mono hB (by omega)
    · split
      · exact bd_mono hB (by omega)
      · exact bd_mono (bd_act hB o _) (by omega)
  · rw [step_e s o e]
    exact bd_mono (bd_cnt h) (by omega)
theorem dkV_file {o o' : Ow} {g m0 m1 m2 : Nat} {pv : Value} {fb : Nat → Nat} {s : Dk} {cs : List Chg} {W W' : World} (h : DkV o g m0 m1 m2 pv fb s cs W) (k : Nat) {d' : List UInt8} {f' : Nat} (hle : o.le o')
    (hs : Same o (fun r => r ≠ .file k ∧ r ≠ .row k) W W') (hf : FileAt o' W' (fb k) k d' f') (hlt : ∀ x, o'.has x → x < W'.heap.size) (hw : Wf { s with data := s.data.set k d', firm := s.firm.set k f' }) :
    DkV o' g m0 m1 m2 pv fb { s with data := s.data.set k d', firm := s.firm.set k f' } cs W' where
  blk := by
    have := blk_same h.blk hs h.og (by simp)
    show Blk g W' [.int .i64 s.room, .int .i64 s.power, .map (some m0), .int .i64 (s.n : Int), .int .i64 ((s.data.set k d').length : Int), .map (some m1), .map (some m2), pv]
    rw [List.length_set]
    exact this
  fails := fails_same h.fails hs h.o0 (by simp)
  seen := tbl_same h.seen hs h.o1 (by simp)
  safe := tbl_same h.safe hs h.o2 (by simp)
  pend := pend_le (pend_same h.pend hs (by simp) (by simp)) hle
  files := fun i hi => by
    have hi' : i < s.data.length := by simpa using hi
    have hfl : i < s.firm.length := by rw [h.wf.len]; exact hi'
    show FileAt o' W' (fb i) i ((s.data.set k d').getD i []) ((s.firm.set k f').getD i 0)
    rw [getD_set, getD_setN]
    by_cases e : i = k
    · subst e
      rw [if_pos ⟨rfl, hi'⟩, if_pos ⟨rfl, hfl⟩]
      exact hf
    · rw [if_neg (fun h => e h.1), if_neg (fun h => e h.1)]
      exact file_le (file_same (h.files i hi') hs ⟨by simpa using e, by simp⟩ ⟨by simp, by simpa using e⟩) hle
  og := hle _ _ h.og
  o0 := hle _ _ h.o0
  o1 := hle _ _ h.o1
  o2 := hle _ _ h.o2
  lt := hlt
  wf := hw
  once := h.once
  sc := h.sc
  rm := h.rm
theorem off_low {P : Nat → Prop} {W W' : World} {n : Nat} (h : Off (fun k => P k ∨ n ≤ k) W W') (hn : W.heap.size ≤ n) : Off P W W' :=
  ⟨h.os, h.tape, h.output, h.size, fun k hk hp => h.block k hk (fun e => by rcases e with e | e; exact hp e; omega)⟩
theorem grow_g {o : Ow} {g : Nat} {W W' : World} (h : Off (fun k => k = g) W W') (hg : o g = some .disk) : Grow o W o W' :=
  ⟨h.mono (fun i e => by rw [e]; exact has_of hg), fun _ _ e => e, fun _ e => .inl e⟩
theorem set_self (l : List (List UInt8)) (k : Nat) : l.set k (l.getD k []) = l := by
  apply List.ext_getElem?
  intro i
  by_cases h : i = k
  · subst h
    by_cases hl : i < l.length
    · simp [hl]
    · simp [hl]
  · rw [List.getElem?_set_ne (Ne.symm h)]
theorem set_selfN (l : List Nat) (k : Nat) : l.set k (l.getD k 0) = l := by
  apply List.ext_getElem?
  intro i
  by_cases h : i = k
  · subst h
    by_cases hl : i < l.length
    · simp [hl]
    · simp [hl]
  · rw [List.getElem?_set_ne (Ne.symm h)]
end Go.Proofs.Ytaklfiipkjfjdaa
