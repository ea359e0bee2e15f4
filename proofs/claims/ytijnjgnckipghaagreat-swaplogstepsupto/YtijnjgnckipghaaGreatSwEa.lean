/- A log and the document's log, side by side: what SwaplogSteps' loop keeps. -/
import Derived.Test.YtijnjgnckipghaaGreatSwDe
import Derived.Test.YtijnjgnckipghaaGreatSwDf
import Derived.Test.YtijnjgnckipghaaGreatSwDh
import Derived.Test.YtijnjgnckipghaaGreatDsA
namespace Go.Proofs.YtijnjgnckipghaaGreat
open Go.RowKit
theorem openM {o : Ow} {g : Nat} {s : Dk} {W : World} (h : Dsk o g s W) (m : Nat) (hB : Bd m s) (hm : m ≤ 1100000) :
    Calls Tryz.prog 7 #[lptr g] W fun e W' => OpPost o g (openT rdT s) W e W' := by
  refine (openC h m (7 * m + 100) hB (by omega) (by omega) rdT (fun lb o' w hl _ => ?_)).mono ?_
  · refine (readG hl (m + 2) (by omega) (remU_bd (st := (s, 0)) hB)).mono ?_
    rintro e W' ⟨p1, p2⟩
    exact ⟨p1, bd_mono p2 (by omega)⟩
  · rintro e W' ⟨p1, p2⟩
    exact p1
theorem refRd_none (s : Dk) (h : (refRd s).2.2 ≠ 0) : (refRd s).2.1 = [] := by
  unfold refRd at h ⊢
  split
  · rfl
  · rename_i h1
    rw [if_neg h1] at h
    split
    · rfl
    · rename_i h2
      rw [if_neg h2] at h
      split
      · rename_i h3
        rw [if_pos h3] at h
        split
        · rename_i h4; rw [if_pos h4] at h; exact absurd rfl h
        · rfl
      · rename_i h3
        rw [if_neg h3] at h
        exact absurd rfl h
theorem refOpen_none (s : Dk) (h : (refOpen s).2.2 ≠ 0) : (refOpen s).2.1 = [] := by
  unfold refOpen at h ⊢
  split
  · rename_i h1
    rw [if_pos h1] at h
    exact refRd_none _ h
  · rfl
theorem bulkR_lenX (rs : RL) : rs.length ≤ bulkR rs := by
  induction rs with
  | nil => exact Nat.zero_le _
  | cons r rs ih => simp only [bulkR, List.length_cons]; omega
theorem bulkQ_bulkX (rs : RL) : bulkR rs ≤ 4 * bulkQ rs := by
  induction rs with
  | nil => exact Nat.zero_le _
  | cons r rs ih => simp only [bulkR, bulkQ]; omega
theorem rep_lenX {s : Dk} {m : Nat} (hb : Bd m s) : (repR (s.read lgN).1 (sndK (s.read lgN).1)).length ≤ m := by
  have hK := sndK_stops (s.read lgN).1
  have hbk := bulk_rep (sndK (s.read lgN).1) hK.1
  have hal := atR_le (s.read lgN).1 (sndK (s.read lgN).1)
  have hrl := read_len hb lgN
  have := bulkR_lenX (repR (s.read lgN).1 (sndK (s.read lgN).1))
  omega
theorem refRd_len {s : Dk} {m : Nat} (hb : Bd m s) : (refRd s).2.1.length ≤ m := by
  have h := rep_lenX hb
  unfold refRd
  split
  · exact Nat.zero_le _
  · split
    · exact Nat.zero_le _
    · split
      · split
        · exact h
        · exact Nat.zero_le _
      · exact h
theorem refOpen_len {s : Dk} {m : Nat} (hb : Bd m s) : (refOpen s).2.1.length ≤ m + 2 := by
  unfold refOpen
  split
  · exact refRd_len (remU_bd (st := (s, 0)) hb)
  · exact Nat.zero_le _
/-- one step of the script, in words -/
noncomputable def stZ (x : StT) (st : LSt) : LSt := if 0 < x.2.length then (rewT x.2 st).1 else (addT x.1.2.1 x.1.2.2.1 x.1.2.2.2 st).1
noncomputable def runZ (st : LSt) : List StT → LSt
  | [] => st
  | x :: r => runZ (stZ x st) r
theorem runZ_snoc : ∀ (os : List StT) (st : LSt) (j : Nat) (h : j < os.length), runZ st (os.take (j + 1)) = stZ os[j] (runZ st (os.take j)) := by
  intro os
  induction os with
  | nil => intro st j h; cases h
  | cons x r ih =>
    intro st j h
    cases j with
    | zero => rfl
    | succ j =>
      rw [List.take_succ_cons, List.take_succ_cons]
      exact ih (stZ x st) j (by simpa using h)
theorem stZ_keeps {st : LSt} {m : Nat} (x : StT) (hw : Wf st.1) (hb : Bd m st.1) : Wf (stZ x st).1 ∧ Bd (m + x.1.2.2.2.length + 4 * bulkQ x.2 + 60) (stZ x st).1 ∧ (stZ x st).1.fails = st.1.fails := by
  obtain ⟨s, c⟩ := st
  unfold stZ
  split
  · have h := rewT_keeps (c := c) x.2 hw hb
    have := bulkQ_bulkX x.2
    exact ⟨h.1, bd_mono h.2.1 (by omega), h.2.2⟩
  · have h := addT_keeps (c := c) x.1.2.1 x.1.2.2.1 x.1.2.2.2 hw hb
    exact ⟨h.1, bd_mono h.2.1 (by omega), h.2.2⟩
theorem runZ_keeps : ∀ (os : List StT) {st : LSt} {m : Nat}, Wf st.1 → Bd m st.1 → Wf (runZ st os).1 ∧ Bd (m + 4 * bulkZ os + 60 * os.length) (runZ st os).1 ∧ (runZ st os).1.fails = st.1.fails := by
  intro os
  induction os with
  | nil => intro st m hw hb; exact ⟨hw, hb, rfl⟩
  | cons x r ih =>
    intro st m hw hb
    obtain ⟨h1, h2, h3⟩ := stZ_keeps x hw hb
    obtain ⟨g1, g2, g3⟩ := ih h1 h2
    refine ⟨g1, bd_mono g2 ?_, g3.trans h3⟩
    simp only [bulkZ, List.length_cons]
    omega
theorem bulkZ_take : ∀ (os : List StT) (j : Nat), bulkZ (os.take j) ≤ bulkZ os := by
  intro os
  induction os with
  | nil => intro j; simp [bulkZ]
  | cons x r ih =>
    intro j
    cases j with
    | zero => exact Nat.zero_le _
    | succ j => rw [List.take_succ_cons]; simp only [bulkZ]; have := ih j; omega
/-- the blocks of the log, and the document's log's own -/
def Nq (o : Ow) (lb rb k : Nat) : Prop := o.has k ∨ k = lb ∨ k = rb
structure Sx (o : Ow) (g lb rb : Nat) (vs : List Value) (v : Value) (s : Dk) (c : Int) (t : Dk) (w W : World) : Prop where
  log : LogS o g lb s c W
  own : ∀ k, o.has k → w.heap.size ≤ k
  lo : w.heap.size ≤ lb
  bel : Below w.heap.size w W
  rlo : w.heap.size ≤ rb
  rout : o rb = none
  rne : rb ≠ lb
  blk : Blk rb W vs
  ref : RefS (mask (Nq o lb rb) W) v t
/-- a block that is none of these -/
structure Kz (o : Ow) (lb rb : Nat) (w : World) (b : Nat) (cs : List Value) (W : World) : Prop where
  out : o b = none
  ne : b ≠ lb
  ne2 : b ≠ rb
  lo : w.heap.size ≤ b
  blk : Blk b W cs
section
variable {o o' : Ow} {w W W' : World} {g lb rb b : Nat} {vs us cs : List Value} {v v' : Value} {s s' t t' : Dk} {c c' : Int}
theorem sx_lt (h : Sx o g lb rb vs v s c t w W) : ∀ k, Nq o lb rb k → k < W.heap.size := fun k e => by
  rcases e with e | e | e
  · exact dsk_lt h.log.dsk k e
  · rw [e]; exact h.log.blk.2
  · rw [e]; exact h.blk.2
theorem sx_refS (h : Sx o g lb rb vs v s c t w W) : RefS W v t := refS_sub h.ref (mask_sub _ _)
theorem sx_below (h : Sx o g lb rb vs v s c t w W) (hb : Below W.heap.size W W') : Sx o g lb rb vs v s c t w W' :=
  ⟨logS_below h.log hb, h.own, h.lo, h.bel.trans (hb.mono h.bel.size), h.rlo, h.rout, h.rne, blk_below h.blk hb, refS_sub h.ref (off_mask (S := Nq o lb rb) (S' := Nq o lb rb) (off_of hb) (fun _ e => .inl e))⟩
theorem kz_below (h : Kz o lb rb w b cs W) (hb : Below W.heap.size W W') : Kz o lb rb w b cs W' := ⟨h.out, h.ne, h.ne2, h.lo, blk_below h.blk hb⟩
theorem sx_grow (h : Sx o g lb rb vs v s c t w W) (hl : LogS o' g lb s' c' W') (hg : GrowL lb o W o' W') : Sx o' g lb rb vs v s' c' t w W' := by
  refine ⟨hl, fun k e => (hg.new k e).elim (h.own k) (fun e => Nat.le_trans h.bel.size e), h.lo, h.bel.trans (hg.off.below h.bel.size (fun k e => e.elim (h.own k) (fun e => by rw [e]; exact h.lo))), h.rlo, none_grow h.rout h.blk.2 hg.new, h.rne, blk_offL h.blk hg.off (fun e => e.elim (fun e => e h.rout) h.rne), refS_sub h.ref (off_mask (S := Nq o lb rb) (S' := Nq o' lb rb) (hg.off.mono (fun k e => e.elim .inl (fun e => .inr (.inl e)))) (fun k e => ?_))⟩
  rcases e with e | e | e
  · exact (hg.new k e).elim (fun e => .inl (.inl e)) .inr
  · exact .inl (.inr (.inl e))
  · exact .inl (.inr (.inr e))
theorem kz_grow (h : Kz o lb rb w b cs W) (hg : GrowL lb o W o' W') : Kz o' lb rb w b cs W' := ⟨none_grow h.out h.blk.2 hg.new, h.ne, h.ne2, h.lo, blk_offL h.blk hg.off (fun e => e.elim (fun e => e h.out) h.ne)⟩
theorem sx_ref (h : Sx o g lb rb vs v s c t w W) (hb : Below W.heap.size W W') (hr : RefS (mask (Nq o lb rb) W') v' t') : Sx o g lb rb vs v' s c t' w W' :=
  ⟨logS_below h.log hb, h.own, h.lo, h.bel.trans (hb.mono h.bel.size), h.rlo, h.rout, h.rne, blk_below h.blk hb, hr⟩
theorem sx_put (h : Sx o g lb rb vs v s c t w W) (hu : us.length = vs.length) : Sx o g lb rb us v s c t w (putFrom rb 0 W us) := by
  refine ⟨⟨dsk_off h.log.dsk (off_put (S := fun k => k = rb) rfl us 0 W) (fun k e => by rw [e]; exact h.rout), blk_putX (Ne.symm h.rne) us 0 _ h.log.blk, h.log.no⟩, h.own, h.lo, below_put h.rlo us 0 W h.bel, h.rlo, h.rout, h.rne, ?_, refS_sub h.ref (off_mask (S := Nq o lb rb) (S' := Nq o lb rb) (off_put (.inr (.inr rfl)) us 0 W) (fun _ e => .inl e))⟩
  have := cells_putFrom us 0 W vs h.blk (by omega)
  rw [List.drop_eq_nil_of_le (by omega)] at this
  simpa using this
theorem kz_put (h : Kz o lb rb w b cs W) (us : List Value) : Kz o lb rb w b cs (putFrom rb 0 W us) := ⟨h.out, h.ne, h.ne2, h.lo, blk_putX h.ne2 us 0 _ h.blk⟩
theorem kz_new (h : Sx o g lb rb vs v s c t w W) (hk : Blk W.heap.size W' cs) : Kz o lb rb w W.heap.size cs W' :=
  ⟨by
    cases e : o W.heap.size with
    | none => rfl
    | some r => exact absurd (dsk_lt h.log.dsk _ (has_of e)) (by omega), fun e => by have := h.log.blk.2; omega, fun e => by have := h.blk.2; omega, h.bel.size, hk⟩
/-- the beginning: both are opened, the document's block is laid -/
theorem sx_start (hl : LogS o g lb s c W) (ho : ∀ k, o.has k → w.heap.size ≤ k) (hlo : w.heap.size ≤ lb) (hb : Below w.heap.size w W) (hr : RefS (mask (fun k => o.has k ∨ k = lb) W) v t) (hb' : Below W.heap.size W W') (hk : Blk W.heap.size W' vs) : Sx o g lb W.heap.size vs v s c t w W' :=
  ⟨logS_below hl hb', ho, hlo, hb.trans (hb'.mono hb.size), hb.size, by
    cases e : o W.heap.size with
    | none => rfl
    | some r => exact absurd (dsk_lt hl.dsk _ (has_of e)) (by omega), fun e => by have := hl.blk.2; omega, hk, refS_sub hr (off_mask (S := fun k => o.has k ∨ k = lb) (S' := Nq o lb W.heap.size) (off_of hb') (fun k e => by
      rcases e with e | e | e
      · exact .inl (.inl e)
      · exact .inl (.inr e)
      · exact .inr (by omega)))⟩
theorem kz_start (hn : o b = none) (hne : b ≠ lb) (hlo : w.heap.size ≤ b) (hk : Blk b W cs) (hb' : Below W.heap.size W W') : Kz o lb W.heap.size w b cs W' := ⟨hn, hne, fun e => by have := hk.2; omega, hlo, blk_below hk hb'⟩
end
end Go.Proofs.YtijnjgnckipghaaGreat
