/- The blocks of a beginning and two fates; what a new disk lists; SameTexts of texts that are alike. Plain: a step that fails; the blocks of a beginning and a fate; bounds. Plain: a life of Appends and Syncs alone; what is read and left there. Plain: what was synced, bytes and name, behind more calls. -/
import Derived.Test.YtijnjgnckipghaaGreatBdE
import Derived.Test.YtijnjgnckipghaaGreatBdG
namespace Go.Proofs.YtijnjgnckipghaaGreat
open Go.RowKit
/-- the blocks of the arguments that are structs -/
structure Bas3 (w : World) (fv : Value) (room : Int) (zv : Value) (power k1 : Int) (kv1 : Value) (k2 : Int) (kv2 : Value) (W : World) : Prop where
  p0 : Blk w.heap.size W [fv, .int .i64 room, zv, .int .i64 power]
  p1 : Blk (w.heap.size + 1) W [.int .i64 k1, kv1]
  p2 : Blk (w.heap.size + 1 + 1) W [.int .i64 k2, kv2]
  bel : Below w.heap.size w W
theorem bas3_below {w : World} {fv : Value} {room : Int} {zv : Value} {power k1 : Int} {kv1 : Value} {k2 : Int} {kv2 : Value} {W W' : World} (h : Bas3 w fv room zv power k1 kv1 k2 kv2 W) (hb : Below W.heap.size W W') : Bas3 w fv room zv power k1 kv1 k2 kv2 W' :=
  ⟨cells_below h.p0 hb, cells_below h.p1 hb, cells_below h.p2 hb, h.bel.trans (hb.mono h.bel.size)⟩
theorem ho_slice {w : World} {ov : Value} {os : List OpT} (h : HoldsO w ov os) : ∃ ao cap, ov = .slice ao os.length cap ∧ (0 < os.length → ∃ b off, ao = some ⟨b, off, none⟩) := by
  obtain ⟨ao, cap, rfl, _, _, hc⟩ := h
  refine ⟨ao, cap, rfl, fun hp => ?_⟩
  obtain ⟨b, off, e, _⟩ := hc (fun e => by rw [e] at hp; cases hp)
  exact ⟨b, off, e⟩
theorem new_list (fs : FilL) (room : Int) : (newS fs room [] (-1)).list = fs.map (fun f => f.1) ∧ (newS fs room [] (-1)).n = 0 ∧ (newS fs room [] (-1)).down = false := by
  have hd : (newS fs room [] (-1)).down = false := by
    unfold Dk.down newS
    simp
  refine ⟨?_, rfl, hd⟩
  unfold Dk.list
  rw [hd]
  show (numbered fs).map (fun p => p.1) = _
  exact num_fst fs
theorem newE_left {fs fs' : FilL} {room : Int} (h : newE fs room = 0) (hk : filesOk fs' = true) : newE fs' room = 0 := by
  unfold newE at h ⊢
  split at h
  · cases h
  · rename_i hr
    rw [if_neg hr, if_pos hk]
theorem sameTe (va vb : Value) (xs : List (List UInt8)) (w : World) (ha : Holds w va xs) (hb : Holds w vb xs) (la : xs.length ≤ 1000000000000000) :
    Calls Tryz.prog 34 #[va, vb] w fun e w' => e = .returned (.bool true) ∧ Below w.heap.size w w' := by
  refine (sameTexts va vb xs xs w ha hb la la).mono ?_
  rintro e w' ⟨rfl, n, rfl⟩
  exact ⟨by simp, below_drewN _ _⟩
end Go.Proofs.YtijnjgnckipghaaGreat
namespace Go.Proofs.YtijnjgnckipghaaGreat
open Go.RowKit
theorem act_room (s : Dk) (o : DOp) (k : Nat) : (s.act o k).1.room = s.room := by
  unfold Dk.act Dk.named
  split
  · rfl
  split
  · split <;> rfl
  split
  · rfl
  split
  · rfl
  split
  · split <;> rfl
  rfl
theorem step_room (s : Dk) (o : DOp) : (s.step o).1.room = s.room := by
  rcases step_cases s o with ⟨n, h⟩ | ⟨k, h, _⟩
  · rw [h]
  · rw [h, act_room]
theorem step_down (s : Dk) (o : DOp) (h : s.down = true) : (s.step o).1 = s := by
  unfold Dk.step
  rw [if_pos h]
theorem bad_same (s : Dk) (o : DOp) (h : (s.step o).2 ≠ 0) : (s.step o).1.used = s.used ∧ (∀ k keep, (s.step o).1.left k keep = s.left k keep) ∧ ((s.step o).1.down = false → (s.step o).1.list = s.list) := by
  obtain ⟨n, e⟩ := step_bad s o h
  have e2 := step_down s o
  rw [e] at e2 ⊢
  refine ⟨rfl, fun k keep => rfl, fun hd => ?_⟩
  have hs : s.down = false := by
    cases hx : s.down with
    | false => rfl
    | true => rw [e2 hx, hx] at hd; cases hd
  unfold Dk.list
  rw [hd, hs]
theorem keep_sub {o o' : Ow} {n : Nat} {wB wE wF : World} (hlt : ∀ k, o.has k → k < n) (hb : Below wB.heap.size wB wE) (hg : Grow o wE o' wF) : Sub (mask (fun k => k < n) wB) wF :=
  ((mask_mono (W := wB) hlt).trans (off_mask (S := o.has) (S' := o.has) (off_of hb) (fun _ hk => .inl hk))).trans ((off_mask (S := o.has) (S' := o.has) hg.off (fun _ hk => .inl hk)).trans (mask_sub _ _))
/-- the blocks of the arguments that are structs -/
structure Bas2 (w : World) (fv : Value) (room : Int) (zv : Value) (power k1 : Int) (kv1 : Value) (W : World) : Prop where
  p0 : Blk w.heap.size W [fv, .int .i64 room, zv, .int .i64 power]
  p1 : Blk (w.heap.size + 1) W [.int .i64 k1, kv1]
  bel : Below w.heap.size w W
theorem bas2_below {w : World} {fv : Value} {room : Int} {zv : Value} {power k1 : Int} {kv1 : Value} {W W' : World} (h : Bas2 w fv room zv power k1 kv1 W) (hb : Below W.heap.size W W') : Bas2 w fv room zv power k1 kv1 W' :=
  ⟨cells_below h.p0 hb, cells_below h.p1 hb, h.bel.trans (hb.mono h.bel.size)⟩
theorem sum_le_mul (l : List Nat) (m : Nat) (h : ∀ x ∈ l, x ≤ m) : l.sum ≤ l.length * m := by
  induction l with
  | nil => simp
  | cons a r ih =>
    have h1 := h a (by simp)
    have h2 := ih (fun x hx => h x (by simp [hx]))
    rw [List.sum_cons, List.length_cons, Nat.add_mul]
    omega
theorem used_bd {s : Dk} (h : Bd 1048576 s) : s.used ≤ 1099511627776 := by
  unfold Dk.used
  have h1 := sum_le_mul (s.now.map (fun p => (s.data.getD p.2 []).length)) 1048576 (fun x hx => by
    obtain ⟨p, _, rfl⟩ := List.mem_map.1 hx
    exact h.2.2.2.2.2 p.2)
  rw [List.length_map] at h1
  have h2 := h.2.2.1
  have h3 : s.now.length * 1048576 ≤ 1048576 * 1048576 := Nat.mul_le_mul_right _ h2
  omega
theorem list_len {m : Nat} {s : Dk} (h : Bd m s) : s.list.length ≤ m := by
  unfold Dk.list
  split
  · exact Nat.zero_le _
  · rw [List.length_map]; exact h.2.2.1
end Go.Proofs.YtijnjgnckipghaaGreat
namespace Go.Proofs.YtijnjgnckipghaaGreat
open Go.RowKit
def begOp (o : OpT) : Bool := decide (meant o.1 = 2) || decide (meant o.1 = 3)
def stepB (s : Dk) (o : OpT) : Dk := if begOp o = true then (s.step (dop o)).1 else s
def runB (s : Dk) (os : List OpT) : Dk := os.foldl stepB s
theorem runB_snoc (s : Dk) (os : List OpT) (j : Nat) (h : j < os.length) : runB s (os.take (j + 1)) = stepB (runB s (os.take j)) os[j] := by
  unfold runB
  rw [List.take_succ_eq_append_getElem h, List.foldl_append]
  rfl
theorem bd_runB : ∀ (os : List OpT) {m : Nat} {s : Dk}, Bd m s → Bd (m + bulkO os) (runB s os) := by
  intro os
  induction os with
  | nil => intro m s h; exact h
  | cons o r ih =>
    intro m s h
    have h0 : Bd (m + 2 + o.2.2.2.length) (stepB s o) := by
      unfold stepB
      split
      · exact bd_step h (dop o)
      · exact bd_mono h (by omega)
    have h1 := ih h0
    refine bd_mono h1 ?_
    show m + 2 + o.2.2.2.length + bulkO r ≤ m + (o.2.1.length + o.2.2.1.length + o.2.2.2.length + 4 + bulkO r)
    omega
theorem beg_runB {fs : FilL} : ∀ (os : List OpT) {s : Dk}, Beg fs s → Beg fs (runB s os) := by
  intro os
  induction os with
  | nil => intro s h; exact h
  | cons o r ih =>
    intro s h
    refine ih (s := stepB s o) ?_
    unfold stepB
    split
    · rename_i hb
      refine beg_step h (dop o) ?_
      unfold begOp at hb
      show meant o.1 = 2 ∨ meant o.1 = 3
      simpa using hb
    · exact h
theorem beg_list {fs : FilL} {s : Dk} (h : Beg fs s) (hd : s.down = false) : s.list = fs.map (fun f => f.1) := by
  unfold Dk.list
  rw [hd, h.now, ← num_fst]
  rfl
theorem left_fst {fs l : FilL} (h : l.map (fun f => f.1) = fs.map (fun f => f.1)) (i : Nat) (hi : i < l.length) (hj : i < fs.length) : l[i].1 = fs[i].1 := by
  have e : (l.map (fun f => f.1))[i]? = (fs.map (fun f => f.1))[i]? := by rw [h]
  simpa [List.getElem?_eq_getElem hi, List.getElem?_eq_getElem hj] using e
theorem beg_read {fs : FilL} {s : Dk} (h : Beg fs s) (hw : Wf s) (hd : s.down = false) (i : Nat) (hi : i < fs.length) : s.read fs[i].1 = (s.data.getD i [], 0) := by
  have hl : i < (numbered fs).length := by rw [num_len]; exact hi
  have hm : ((numbered fs)[i]'hl) ∈ s.now := by rw [h.now]; exact List.getElem_mem hl
  have e := num_get fs i hl
  rw [e] at hm
  have ha : atN s.now fs[i].1 = some i := at_mem hw.now.1 hm
  have hg : goodN fs[i].1 = true := (hw.now.2 _ hm).2
  unfold Dk.read
  rw [hd, hg, ha]
  simp
theorem beg_whole {fs : FilL} {s : Dk} (h : Beg fs s) (hw : Wf s) (hb : ∀ i, (s.data.getD i []).length ≤ 1000000000) (n : Nat) (hn : n = fs.length) (i : Nat) (hi : i < (s.left 1099511627776 (List.replicate n 1099511627776)).length) : ((s.left 1099511627776 (List.replicate n 1099511627776))[i]).2 = s.data.getD i [] := by
  obtain ⟨e1, _, e3⟩ := beg_left h hw 1099511627776 (List.replicate n 1099511627776)
  rw [(e3 i hi).1]
  have hi2 : i < n := by omega
  have e4 : (List.replicate n (1099511627776 : Int)).getD i 0 = 1099511627776 := by simp [List.getD, hi2]
  have e5 : leftLen s (List.replicate n 1099511627776) i = (s.data.getD i []).length := by
    unfold leftLen
    rw [e4]
    have := hb i
    have e6 : (1099511627776 : Int).toNat = 1099511627776 := rfl
    omega
  rw [e5, List.take_length]
theorem fi_at {w : World} {ao : Option Addr} {n cap : Nat} {fs : FL} (h : HoldsFi w (.slice ao n cap) fs) (j : Nat) (hj : j < fs.length) : ∃ b off, ao = some ⟨b, off, none⟩ ∧ b < w.heap.size ∧ ∃ da dc, w.cell? ⟨b, off + j * 2, none⟩ = some (.string ⟨fs[j].1.toArray⟩) ∧ w.cell? ⟨b, off + j * 2 + 1, none⟩ = some (.slice da fs[j].2.length dc) ∧ HoldsB w (.slice da fs[j].2.length dc) fs[j].2 := by
  obtain ⟨ao', cap', e, _, _, hc⟩ := h
  simp only [Value.slice.injEq] at e
  obtain ⟨rfl, _, rfl⟩ := e
  obtain ⟨b, off, rfl, hlt, hcell⟩ := hc (fun e => by rw [e] at hj; cases hj)
  obtain ⟨h1, u, h2, h3⟩ := hcell j hj
  obtain ⟨da, dc, hu, _⟩ := id h3
  subst hu
  exact ⟨b, off, rfl, hlt, da, dc, h1, h2, h3⟩
theorem fi_len {w : World} {ao : Option Addr} {n cap : Nat} {fs : FL} (h : HoldsFi w (.slice ao n cap) fs) : n = fs.length := by
  obtain ⟨_, _, e, _⟩ := h
  simp only [Value.slice.injEq] at e
  exact e.2.1
/-- a row of bytes that was answered, cut at its end -/
theorem own_take {w0 w : World} {v : Value} {bs : List UInt8} (h : Own w0 v bs w) (i : Nat) (hi : i ≤ bs.length) : ∃ ao cap, v = .slice ao bs.length cap ∧ ∃ pa pc, (∀ w, Sem.run Tryz.prog (Instr.slice 67 (.slice ao bs.length cap) none (some (.int .i64 (i : Int))) none) w = .ok (.slice pa i pc) w) ∧ HoldsB w (.slice pa i pc) (bs.take i) := by
  have h1 := holdsB_own h
  obtain ⟨ao, cap, hv, _⟩ := id h1
  subst hv
  refine ⟨ao, cap, rfl, takeBd w ao bs.length cap bs h1 rfl (fun ad e => ?_) i hi⟩
  rcases h.1.2 with ⟨e1, _⟩ | ⟨x, c, cur, e1, _⟩
  · simp only [Value.slice.injEq] at e1
    rw [e1.1] at e
    cases e
  · simp only [Value.slice.injEq] at e1
    rw [e1.1] at e
    exact ⟨x, (Option.some.inj e).symm⟩
end Go.Proofs.YtijnjgnckipghaaGreat
namespace Go.Proofs.YtijnjgnckipghaaGreat
open Go.RowKit
theorem act_power (s : Dk) (o : DOp) (k : Nat) : (s.act o k).1.power = s.power := by
  unfold Dk.act Dk.named
  split
  · rfl
  split
  · split <;> rfl
  split
  · rfl
  split
  · rfl
  split
  · split <;> rfl
  rfl
theorem step_power (s : Dk) (o : DOp) : (s.step o).1.power = s.power := by
  rcases step_cases s o with ⟨n, h⟩ | ⟨k, h, _⟩
  · rw [h]
  · rw [h, act_power]
theorem up_down {s : Dk} (h : s.power < 0) : s.down = false := by
  unfold Dk.down
  rw [decide_eq_false_iff_not]
  omega
theorem sync_ok {s : Dk} {nm t : Nm} {d : List UInt8} (h : (s.step ⟨3, nm, t, d⟩).2 = 0) : ∃ k, goodN nm = true ∧ atN s.now nm = some k ∧ (s.step ⟨3, nm, t, d⟩).1 = { s with n := s.n + 1, firm := s.firm.set k (s.data.getD k []).length } := by
  unfold Dk.step at h ⊢
  split at h
  · cases h
  rename_i h1
  rw [if_neg h1]
  split at h
  · cases h
  rename_i h2
  rw [if_neg h2]
  split at h
  · cases h
  rename_i h3
  rw [if_neg h3]
  have hg : goodN nm = true := by
    cases e : goodN nm with
    | true => rfl
    | false => exact absurd (.inl ⟨by show (3 : Int) ≠ 4; decide, e⟩) h3
  cases e : atN s.now nm with
  | none =>
    rw [e] at h
    simp at h
  | some k =>
    refine ⟨k, hg, rfl, ?_⟩
    simp only
    rfl
theorem names_ok {s : Dk} {nm t : Nm} {d : List UInt8} (h : (s.step ⟨4, nm, t, d⟩).2 = 0) : (s.step ⟨4, nm, t, d⟩).1 = { s with n := s.n + 1, safe := s.now, pend := [] } := by
  unfold Dk.step at h ⊢
  split at h
  · cases h
  rename_i h1
  rw [if_neg h1]
  split at h
  · cases h
  rename_i h2
  rw [if_neg h2]
  split at h
  · cases h
  rename_i h3
  rw [if_neg h3]
  cases e : atN s.now nm with
  | none => simp only; rfl
  | some k => simp only; rfl
theorem kept_start {s : Dk} (h : Wf s) (hp : s.power < 0) {nm t n2 t2 : Nm} {d d2 : List UInt8} (e1 : (s.step ⟨3, nm, t, d⟩).2 = 0) (e2 : ((s.step ⟨3, nm, t, d⟩).1.step ⟨4, n2, t2, d2⟩).2 = 0) :
    ∃ k held, Kept ((s.step ⟨3, nm, t, d⟩).1.step ⟨4, n2, t2, d2⟩).1 nm k held ∧ ((s.step ⟨3, nm, t, d⟩).1.step ⟨4, n2, t2, d2⟩).1.read nm = (held, 0) ∧ held = s.data.getD k [] := by
  obtain ⟨k, hg, ha, es⟩ := sync_ok e1
  have en := names_ok e2
  have hd := up_down (s := ((s.step ⟨3, nm, t, d⟩).1.step ⟨4, n2, t2, d2⟩).1) (by rw [step_power, step_power]; exact hp)
  refine ⟨k, s.data.getD k [], ?_, ?_, rfl⟩
  · rw [en, es]
    have hm := at_some ha
    have hk := (h.now.2 _ hm).1
    refine ⟨hm, hm, fun l hl => (by cases hl), List.prefix_refl _, ?_⟩
    show _ ≤ (s.firm.set k (s.data.getD k []).length).getD k 0
    rw [getD_setN, if_pos ⟨rfl, by rw [h.len]; exact hk⟩]
    exact Nat.le_refl _
  · unfold Dk.read
    rw [hd, hg]
    have e3 : ((s.step ⟨3, nm, t, d⟩).1.step ⟨4, n2, t2, d2⟩).1.now = s.now := by rw [en, es]
    have e4 : ((s.step ⟨3, nm, t, d⟩).1.step ⟨4, n2, t2, d2⟩).1.data = s.data := by rw [en, es]
    rw [e3, e4, ha]
    simp
theorem left_one {s : Dk} (h : Wf s) (f : Int) (keep : List Int) {a b : Nm × List UInt8} (ha : a ∈ s.left f keep) (hb : b ∈ s.left f keep) (e : a.1 = b.1) : a = b := by
  unfold Dk.left at ha hb
  obtain ⟨p, hp, rfl⟩ := List.mem_map.1 ha
  obtain ⟨q, hq, rfl⟩ := List.mem_map.1 hb
  have := sorted_one (leftNames_wf h f).1 hp hq e
  rw [this]
/-- the file is left, wherever its name is met -/
theorem kept_found {s : Dk} (h : Wf s) {nm : Nm} {k : Nat} {held : List UInt8} (hk : Kept s nm k held) (f : Int) (keep : List Int) : (∀ i (hi : i < (s.left f keep).length), ((s.left f keep)[i]).1 = nm → held <+: ((s.left f keep)[i]).2) ∧ ∃ i, ∃ hi : i < (s.left f keep).length, ((s.left f keep)[i]).1 = nm := by
  obtain ⟨d, hm, hp⟩ := kept_left h hk f keep
  refine ⟨fun i hi e => ?_, ?_⟩
  · have := left_one h f keep (List.getElem_mem hi) hm e
    rw [this]
    exact hp
  · obtain ⟨i, hi, e⟩ := List.getElem_of_mem hm
    exact ⟨i, hi, by rw [e]⟩
theorem takeB_any (W : World) (ao : Option Addr) (n cap : Nat) (bs : List UInt8) (h : HoldsB W (.slice ao n cap) bs) (hn : n = bs.length) (i : Nat) (hi : i ≤ n) :
    ∃ pa pc, (∀ w, Sem.run Tryz.prog (Instr.slice 67 (.slice ao n cap) none (some (.int .i64 (i : Int))) none) w = .ok (.slice pa i pc) w) ∧ HoldsB W (.slice pa i pc) (bs.take i) := by
  subst hn
  obtain ⟨ao', cap', e, h0, hcp, hc⟩ := id h
  simp only [Value.slice.injEq, true_and] at e
  obtain ⟨rfl, rfl⟩ := e
  cases ao with
  | none =>
    have hb : bs = [] := by
      apply Classical.byContradiction
      intro h
      obtain ⟨b, off, e, _⟩ := hc h
      cases e
    have hc0 := h0 rfl
    subst hc0 hb
    have : i = 0 := by simpa using hi
    subst this
    exact ⟨none, 0, takeB_none, holdsB_pre h 0 hi⟩
  | some ad =>
    by_cases hb : bs = []
    · subst hb
      have : i = 0 := by simpa using hi
      subst this
      have hel : Tryz.prog.elem 67 = 5 := by kernel_rfl
      refine ⟨if cap = 0 then some ad else some (ad.add 0), cap, fun w => ?_, ⟨if cap = 0 then some ad else some (ad.add 0), cap, by simp, fun e => (by split at e <;> cases e), Nat.zero_le _, fun h => absurd (by simp) h⟩⟩
      have hh := run_slice_h (P := Tryz.prog) w 67 (some ad) 0 cap (by rw [hel]; exact Tryz.underlying67) .i64 0 (by omega) (by omega)
      rw [hel, Tryz.sizeOf5] at hh
      simp only [Result.andThen, sliced] at hh
      simpa using hh
    · obtain ⟨b, off, e, hlt, hcell⟩ := hc hb
      cases e
      exact ⟨some ⟨b, off, none⟩, cap, fun w => takeB_run b off bs.length cap i hi hcp w, holdsB_pre h i hi⟩
end Go.Proofs.YtijnjgnckipghaaGreat
