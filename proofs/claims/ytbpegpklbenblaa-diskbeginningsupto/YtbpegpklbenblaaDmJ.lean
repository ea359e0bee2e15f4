/- A script's run in plain words; bounds of what is left; one round of the laws' loop. -/
import Derived.Test.YtbpegpklbenblaaDmI
import Derived.Test.YtbpegpklbenblaaBdC
namespace Go.Proofs.Ytbpegpklbenblaa
open Go.RowKit
def dop (o : OpT) : DOp := ⟨meant o.1, o.2.1, o.2.2.1, o.2.2.2⟩
def runD (s : Dk) (os : List OpT) : Dk := os.foldl (fun s o => (s.step (dop o)).1) s
theorem run_snoc (s : Dk) (os : List OpT) (j : Nat) (h : j < os.length) : runD s (os.take (j + 1)) = ((runD s (os.take j)).step (dop os[j])).1 := by
  unfold runD
  rw [List.take_succ_eq_append_getElem h, List.foldl_append]
  rfl
theorem bd_run : ∀ (os : List OpT) {m : Nat} {s : Dk}, Bd m s → Bd (m + bulkO os) (runD s os) := by
  intro os
  induction os with
  | nil => intro m s h; exact h
  | cons o r ih =>
    intro m s h
    have h1 := ih (bd_step h (dop o))
    refine bd_mono h1 ?_
    show m + 2 + (dop o).data.length + bulkO r ≤ m + (o.2.1.length + o.2.2.1.length + o.2.2.2.length + 4 + bulkO r)
    show m + 2 + o.2.2.2.length + bulkO r ≤ _
    omega
theorem bulk_take : ∀ (os : List OpT) (j : Nat), bulkO (os.take j) ≤ bulkO os := by
  intro os
  induction os with
  | nil => intro j; simp
  | cons o r ih =>
    intro j
    cases j with
    | zero => exact Nat.zero_le _
    | succ j =>
      show _ + bulkO (r.take j) ≤ _ + bulkO r
      have := ih j
      omega
theorem bulk_mem : ∀ (os : List OpT) (o : OpT), o ∈ os → o.2.1.length + o.2.2.1.length + o.2.2.2.length + 4 ≤ bulkO os := by
  intro os
  induction os with
  | nil => intro o h; cases h
  | cons x r ih =>
    intro o h
    show _ ≤ x.2.1.length + x.2.2.1.length + x.2.2.2.length + 4 + bulkO r
    rcases List.mem_cons.1 h with rfl | h
    · omega
    · have := ih o h; omega
theorem bulk_len : ∀ (os : List OpT), os.length ≤ bulkO os := by
  intro os
  induction os with
  | nil => exact Nat.le_refl _
  | cons x r ih =>
    show r.length + 1 ≤ x.2.1.length + x.2.2.1.length + x.2.2.2.length + 4 + bulkO r
    omega
theorem left_bd {o : Ow} {g : Nat} {s : Dk} {W : World} {m : Nat} (h : Dsk o g s W) (hB : Bd m s) (k : Int) (keep : List Int) : (s.left k keep).length ≤ m + m ∧ ∀ f ∈ s.left k keep, f.1.length ≤ 64 ∧ f.2.length ≤ m := by
  obtain ⟨m0, m1, m2, pv, fb, cs, v⟩ := h
  obtain ⟨h1, h2, h3, h4, h5, h6⟩ := hB
  have hw := leftNames_wf v.wf k
  constructor
  · unfold Dk.left
    rw [List.length_map, left_names v.sc k]
    have a1 := appAll_len (cs.take (min k.toNat cs.length)) s.safe
    have a2 : s.pend.length = cs.length := by rw [v.sc.1, scan_len]
    have a3 : (cs.take (min k.toNat cs.length)).length ≤ cs.length := by rw [List.length_take]; omega
    omega
  · intro f hf
    unfold Dk.left at hf
    obtain ⟨p, hp, rfl⟩ := List.mem_map.1 hf
    refine ⟨good_len (hw.2 p hp).2, ?_⟩
    show ((s.data.getD p.2 []).take _).length ≤ m
    rw [List.length_take]
    have := h6 p.2
    omega
theorem dsk_wf {o : Ow} {g : Nat} {s : Dk} {W : World} (h : Dsk o g s W) : Wf s ∧ Once s.now ∧ 0 ≤ s.room ∧ s.room ≤ 1073741824 := by
  obtain ⟨m0, m1, m2, pv, fb, cs, v⟩ := h
  exact ⟨v.wf, v.once, v.rm⟩
theorem meant_in (a : Int) : 1 ≤ meant a ∧ meant a ≤ 6 := by
  unfold meant
  split <;> omega
/-- one op of a script that came in, as it is read -/
theorem op_at {w : World} {b off cap : Nat} {os : List OpT} (h : HoldsO w (.slice (some ⟨b, off, none⟩) os.length cap) os) (j : Nat) (hj : j < os.length) :
    ∃ da dl dc, (w.cell? ⟨b, off + j * 4, none⟩ = some (.int .i64 os[j].1) ∧ w.cell? ⟨b, off + j * 4 + 1, none⟩ = some (.string ⟨os[j].2.1.toArray⟩) ∧ w.cell? ⟨b, off + j * 4 + 2, none⟩ = some (.string ⟨os[j].2.2.1.toArray⟩) ∧ w.cell? ⟨b, off + j * 4 + 3, none⟩ = some (.slice da dl dc)) ∧ HoldsB w (.slice da dl dc) os[j].2.2.2 := by
  obtain ⟨ao, cap', e, _, _, hc⟩ := h
  obtain ⟨b', off', e2, hlt, hcell⟩ := hc (fun e => by rw [e] at hj; cases hj)
  simp only [Value.slice.injEq] at e
  obtain ⟨rfl, _, rfl⟩ := e
  simp only [Option.some.injEq, Addr.mk.injEq, and_true] at e2
  obtain ⟨rfl, rfl⟩ := e2
  obtain ⟨h1, h2, h3, u, h4, h5⟩ := hcell j hj
  obtain ⟨da, dc, hu, _⟩ := id h5
  subst hu
  exact ⟨da, _, dc, ⟨h1, h2, h3, h4⟩, h5⟩
/-- do, of an op as it is meant -/
theorem doMC {o : Ow} {g : Nat} {s : Dk} {W0 W : World} (h : Liv o g s W0 W) (op : OpT) (da : Option Addr) (dl dc : Nat) (hs : op.2.1.length ≤ 140737488351232) (ht : op.2.2.1.length ≤ 140737488351232) (hB : Bd 90000000 s) (hd : HoldsB W (.slice da dl dc) op.2.2.2) (hdl : op.2.2.2.length ≤ 1000000000) :
    Calls Try.prog 15 #[.pointer (some ⟨g, 0, none⟩), .agg #[.int .i64 (meant op.1), .string ⟨op.2.1.toArray⟩, .string ⟨op.2.2.1.toArray⟩, .slice da dl dc]] W fun e W' => e = .returned (.int .i64 (s.step (dop op)).2) ∧ ∃ o', Liv o' g (s.step (dop op)).1 W0 W' ∧ Grow o W o' W' := by
  refine (doOpC h.dsk (meant op.1) (meant_in _) ⟨op.2.1.toArray⟩ ⟨op.2.2.1.toArray⟩ da dl dc op.2.2.2 (by rw [size_l]; exact hs) (by rw [size_l]; exact ht) hB hd hdl).mono ?_
  intro e W' sp
  have e1 : (⟨meant op.1, (⟨op.2.1.toArray⟩ : ByteArray).data.toList, (⟨op.2.2.1.toArray⟩ : ByteArray).data.toList, op.2.2.2⟩ : DOp) = dop op := by simp [dop]
  rw [e1] at sp
  obtain ⟨o', hl, hg⟩ := liv_step h sp
  exact ⟨sp.1, o', hl, hg⟩
end Go.Proofs.Ytbpegpklbenblaa
