/- Plain: a life of Appends and Syncs alone; what is read and left there. -/
import Derived.Test.YtbpegpklbenblaaDmL
import Derived.Test.YtbpegpklbenblaaDrA
namespace Go.Proofs.Ytbpegpklbenblaa
open Go.RowKit
def begOp (o : OpT) : Bool := decide (meant o.1 = 2) || decide (meant o.1 = 3)
def stepB (s : Dk) (o : OpT) : Dk := if begOp o = true then (s.step (dop o)).1 else s
def runB (s : Dk) (os : List OpT) : Dk := os.foldl stepB s
theorem runB_snoc (s : Dk) (os : List OpT) (j : Nat) (h : j < os.length) : runB s (os.take (j + 1)) = stepB (runB s (os.take j)) os[j] := by
  unfold runB
  rw [List.take_succ_eq_append_getElem h, List.foldl_append]
  rfl
theorem bd_runB : ∀ (os : List OpT) {m : Nat} {s : Dk}, Bd m s → Bd (m + bulkO os) (runB s os) := by
  intro os
  induction os with
  | nil => intro m s h; exact h
  | cons o r ih =>
    intro m s h
    have h0 : Bd (m + 2 + o.2.2.2.length) (stepB s o) := by
      unfold stepB
      split
      · exact bd_step h (dop o)
      · exact bd_mono h (by omega)
    have h1 := ih h0
    refine bd_mono h1 ?_
    show m + 2 + o.2.2.2.length + bulkO r ≤ m + (o.2.1.length + o.2.2.1.length + o.2.2.2.length + 4 + bulkO r)
    omega
theorem beg_runB {fs : FilL} : ∀ (os : List OpT) {s : Dk}, Beg fs s → Beg fs (runB s os) := by
  intro os
  induction os with
  | nil => intro s h; exact h
  | cons o r ih =>
    intro s h
    refine ih (s := stepB s o) ?_
    unfold stepB
    split
    · rename_i hb
      refine beg_step h (dop o) ?_
      unfold begOp at hb
      show meant o.1 = 2 ∨ meant o.1 = 3
      simpa using hb
    · exact h
theorem beg_list {fs : FilL} {s : Dk} (h : Beg fs s) (hd : s.down = false) : s.list = fs.map (fun f => f.1) := by
  unfold Dk.list
  rw [hd, h.now, ← num_fst]
  rfl
theorem left_fst {fs l : FilL} (h : l.map (fun f => f.1) = fs.map (fun f => f.1)) (i : Nat) (hi : i < l.length) (hj : i < fs.length) : l[i].1 = fs[i].1 := by
  have e : (l.map (fun f => f.1))[i]? = (fs.map (fun f => f.1))[i]? := by rw [h]
  simpa [List.getElem?_eq_getElem hi, List.getElem?_eq_getElem hj] using e
theorem beg_read {fs : FilL} {s : Dk} (h : Beg fs s) (hw : Wf s) (hd : s.down = false) (i : Nat) (hi : i < fs.length) : s.read fs[i].1 = (s.data.getD i [], 0) := by
  have hl : i < (numbered fs).length := by rw [num_len]; exact hi
  have hm : ((numbered fs)[i]'hl) ∈ s.now := by rw [h.now]; exact List.getElem_mem hl
  have e := num_get fs i hl
  rw [e] at hm
  have ha : atN s.now fs[i].1 = some i := at_mem hw.now.1 hm
  have hg : goodN fs[i].1 = true := (hw.now.2 _ hm).2
  unfold Dk.read
  rw [hd, hg, ha]
  simp
theorem beg_whole {fs : FilL} {s : Dk} (h : Beg fs s) (hw : Wf s) (hb : ∀ i, (s.data.getD i []).length ≤ 1000000000) (n : Nat) (hn : n = fs.length) (i : Nat) (hi : i < (s.left 1099511627776 (List.replicate n 1099511627776)).length) : ((s.left 1099511627776 (List.replicate n 1099511627776))[i]).2 = s.data.getD i [] := by
  obtain ⟨e1, _, e3⟩ := beg_left h hw 1099511627776 (List.replicate n 1099511627776)
  rw [(e3 i hi).1]
  have hi2 : i < n := by omega
  have e4 : (List.replicate n (1099511627776 : Int)).getD i 0 = 1099511627776 := by simp [List.getD, hi2]
  have e5 : leftLen s (List.replicate n 1099511627776) i = (s.data.getD i []).length := by
    unfold leftLen
    rw [e4]
    have := hb i
    have e6 : (1099511627776 : Int).toNat = 1099511627776 := rfl
    omega
  rw [e5, List.take_length]
theorem fi_at {w : World} {ao : Option Addr} {n cap : Nat} {fs : FL} (h : HoldsFi w (.slice ao n cap) fs) (j : Nat) (hj : j < fs.length) : ∃ b off, ao = some ⟨b, off, none⟩ ∧ b < w.heap.size ∧ ∃ da dc, w.cell? ⟨b, off + j * 2, none⟩ = some (.string ⟨fs[j].1.toArray⟩) ∧ w.cell? ⟨b, off + j * 2 + 1, none⟩ = some (.slice da fs[j].2.length dc) ∧ HoldsB w (.slice da fs[j].2.length dc) fs[j].2 := by
  obtain ⟨ao', cap', e, _, _, hc⟩ := h
  simp only [Value.slice.injEq] at e
  obtain ⟨rfl, _, rfl⟩ := e
  obtain ⟨b, off, rfl, hlt, hcell⟩ := hc (fun e => by rw [e] at hj; cases hj)
  obtain ⟨h1, u, h2, h3⟩ := hcell j hj
  obtain ⟨da, dc, hu, _⟩ := id h3
  subst hu
  exact ⟨b, off, rfl, hlt, da, dc, h1, h2, h3⟩
theorem fi_len {w : World} {ao : Option Addr} {n cap : Nat} {fs : FL} (h : HoldsFi w (.slice ao n cap) fs) : n = fs.length := by
  obtain ⟨_, _, e, _⟩ := h
  simp only [Value.slice.injEq] at e
  exact e.2.1
/-- a row of bytes that was answered, cut at its end -/
theorem own_take {w0 w : World} {v : Value} {bs : List UInt8} (h : Own w0 v bs w) (i : Nat) (hi : i ≤ bs.length) : ∃ ao cap, v = .slice ao bs.length cap ∧ ∃ pa pc, (∀ w, Sem.run Try.prog (Instr.slice 40 (.slice ao bs.length cap) none (some (.int .i64 (i : Int))) none) w = .ok (.slice pa i pc) w) ∧ HoldsB w (.slice pa i pc) (bs.take i) := by
  have h1 := holdsB_own h
  obtain ⟨ao, cap, hv, _⟩ := id h1
  subst hv
  refine ⟨ao, cap, rfl, takeB w ao bs.length cap bs h1 rfl (fun ad e => ?_) i hi⟩
  rcases h.1.2 with ⟨e1, _⟩ | ⟨x, c, cur, e1, _⟩
  · simp only [Value.slice.injEq] at e1
    rw [e1.1] at e
    cases e
  · simp only [Value.slice.injEq] at e1
    rw [e1.1] at e
    exact ⟨x, (Option.some.inj e).symm⟩
end Go.Proofs.Ytbpegpklbenblaa
