/- The contract of the document's Steps. -/
import Derived.Test.YtijnjgnckipghaaGreatSwSq
import Derived.Test.YtijnjgnckipghaaGreatDsB
import Derived.Test.YtijnjgnckipghaaGreatDrT
import Derived.Deep.RegionHeldLaw
import Derived.Deep.DeepCutAuto
namespace Go.Proofs.YtijnjgnckipghaaGreat
open Go.RowKit
/-- steps that came in as they are meant -/
def opsD (os : List OpT) : List DOp := os.map (fun o => ⟨o.1, o.2.1, o.2.2.1, o.2.2.2⟩)
/-- the steps up to j were told OK -/
def Upto (os : List OpT) (t s : Dk) (j : Nat) : Prop := stpsT (opsD os) t = ((stpsT (opsD (os.drop j)) s).1, (stpsT (opsD (os.drop j)) s).2.1 + j, (stpsT (opsD (os.drop j)) s).2.2)
theorem upto_start (os : List OpT) (t : Dk) : Upto os t t 0 := rfl
theorem drop_op {os : List OpT} {j : Nat} (h : j < os.length) : opsD (os.drop j) = ⟨(os[j]).1, (os[j]).2.1, (os[j]).2.2.1, (os[j]).2.2.2⟩ :: opsD (os.drop (j + 1)) := by
  unfold opsD
  rw [List.drop_eq_getElem_cons h, List.map_cons]
theorem upto_step {os : List OpT} {t s : Dk} {j : Nat} (h : Upto os t s j) (hj : j < os.length) (he : (s.step ⟨(os[j]).1, (os[j]).2.1, (os[j]).2.2.1, (os[j]).2.2.2⟩).2 = 0) : Upto os t (s.step ⟨(os[j]).1, (os[j]).2.1, (os[j]).2.2.1, (os[j]).2.2.2⟩).1 (j + 1) := by
  unfold Upto at *
  rw [h, drop_op hj, stps_ok he]
  simp only [Prod.mk.injEq, true_and, and_true]
  omega
theorem upto_bad {os : List OpT} {t s : Dk} {j : Nat} (h : Upto os t s j) (hj : j < os.length) (he : (s.step ⟨(os[j]).1, (os[j]).2.1, (os[j]).2.2.1, (os[j]).2.2.2⟩).2 ≠ 0) : stpsT (opsD os) t = ((s.step ⟨(os[j]).1, (os[j]).2.1, (os[j]).2.2.1, (os[j]).2.2.2⟩).1, j, (s.step ⟨(os[j]).1, (os[j]).2.1, (os[j]).2.2.1, (os[j]).2.2.2⟩).2) := by
  unfold Upto at h
  rw [h, drop_op hj, stps_bad he]
  simp
theorem upto_end {os : List OpT} {t s : Dk} {j : Nat} (h : Upto os t s j) (hj : j = os.length) : stpsT (opsD os) t = (s, os.length, 0) := by
  unfold Upto at h
  rw [h, hj, List.drop_length]
  show (s, 0 + os.length, 0) = _
  rw [Nat.zero_add]
theorem bulk_succ (os : List OpT) : ∀ (j : Nat) (h : j < os.length), bulkO (os.take j) + ((os[j]).2.1.length + (os[j]).2.2.1.length + (os[j]).2.2.2.length + 4) = bulkO (os.take (j + 1)) := by
  induction os with
  | nil => intro j h; cases h
  | cons o r ih =>
    intro j h
    cases j with
    | zero => simp [bulkO]
    | succ j =>
      have := ih j (by simpa using h)
      simp only [List.take_succ_cons, bulkO, List.getElem_cons_succ]
      omega
theorem blk_putX {b c : Nat} (hne : b ≠ c) {vs : List Value} : ∀ (us : List Value) (o : Nat) (W : World), Blk b W vs → Blk b (putFrom c o W us) vs := by
  intro us
  induction us with
  | nil => intro o W h; exact h
  | cons u us ih => intro o W h; exact ih (o + 1) _ (cells_other h hne u)
/-- the state's block and the result's, and the document's value outside of them -/
structure StI (S : Nat → Prop) (W0 : World) (zs vs : List Value) (v : Value) (s : Dk) (m : Nat) (W : World) : Prop where
  b0 : Blk W0.heap.size W vs
  b1 : Blk (W0.heap.size + 1) W zs
  bel : Below W0.heap.size W0 W
  ref : RefS (mask (fun k => S k ∨ k = W0.heap.size ∨ k = W0.heap.size + 1) W) v s
  wf : Wf s
  bd : Bd m s
section
variable {S : Nat → Prop} {W0 W W' : World} {zs vs us : List Value} {v v' : Value} {s s' : Dk} {m m' : Nat}
theorem sti_below (h : StI S W0 zs vs v s m W) (hb : Below W.heap.size W W') : StI S W0 zs vs v s m W' :=
  ⟨cells_below h.b0 hb, cells_below h.b1 hb, h.bel.trans (hb.mono h.bel.size), refS_sub h.ref (off_mask (off_of hb) (fun _ e => .inl e)), h.wf, h.bd⟩
theorem sti_lt (h : StI S W0 zs vs v s m W) (hS : ∀ k, S k → k < W0.heap.size) : ∀ k, (S k ∨ k = W0.heap.size ∨ k = W0.heap.size + 1) → k < W.heap.size := fun k e => by
  have h1 := h.b0.2
  have h2 := h.b1.2
  have h3 := h.bel.size
  rcases e with e | e | e
  · have := hS k e; omega
  · omega
  · omega
theorem sti_ref (h : StI S W0 zs vs v s m W) (hb : Below W.heap.size W W') (hr : RefS (mask (fun k => S k ∨ k = W0.heap.size ∨ k = W0.heap.size + 1) W') v' s') (hw : Wf s') (hd : Bd m' s') : StI S W0 zs vs v' s' m' W' :=
  ⟨cells_below h.b0 hb, cells_below h.b1 hb, h.bel.trans (hb.mono h.bel.size), hr, hw, hd⟩
theorem sti_put (h : StI S W0 zs vs v s m W) (hu : us.length = vs.length) : StI S W0 zs us v s m (putFrom W0.heap.size 0 W us) := by
  refine ⟨?_, blk_putX (b := W0.heap.size + 1) (c := W0.heap.size) (by omega) us 0 _ h.b1, below_put (Nat.le_refl _) us 0 W h.bel, refS_sub h.ref (off_mask (off_put (.inr (.inl rfl)) us 0 W) (fun _ e => .inl e)), h.wf, h.bd⟩
  have := cells_putFrom us 0 W vs h.b0 (by omega)
  rw [List.drop_eq_nil_of_le (by omega)] at this
  simpa using this
end
theorem sti_wayA {S Q : Nat → Prop} {W0 wr w5 : World} {zs vs : List Value} {v v' : Value} {s s' : Dk} {m m' : Nat} (h : StI S W0 zs vs v s m wr) (hb : Below wr.heap.size wr w5) (hr : RefS (mask (fun k => (S k ∨ k = W0.heap.size ∨ k = W0.heap.size + 1) ∨ Q k) w5) v' s') (hw : Wf s') (hd : Bd m' s') (x0 x1 x2 x3 x4 x5 x6 x7 x8 : Value) (t : TypeId) :
    StI S W0 zs vs v' s' m' (w5.alloc (.cells #[x0, x1, x2, x3, x4, x5, x6, x7, x8] t)) ∧ Blk w5.heap.size (w5.alloc (.cells #[x0, x1, x2, x3, x4, x5, x6, x7, x8] t)) [x0, x1, x2, x3, x4, x5, x6, x7, x8] ∧ W0.heap.size + 1 < w5.heap.size :=
  ⟨sti_below (sti_ref h hb (refS_sub hr (mask_mono (fun _ e => .inl e))) hw hd) (below_alloc' _ _), (box9 w5 x0 x1 x2 x3 x4 x5 x6 x7 x8 t).1, by have := h.b1.2; have := hb.size; omega⟩
theorem sti_wayB {S : Nat → Prop} {W0 wr w5 : World} {zs vs : List Value} {v v' : Value} {s s' : Dk} {m m' : Nat} (h : StI S W0 zs vs v s m wr) (t : TypeId) (hb : Below ((wr.alloc (.cells #[.slice none 0 0, .slice none 0 0, .slice none 0 0, .slice none 0 0, .slice none 0 0, .int .i64 0, .slice none 0 0, .int .i64 0, .int .i64 0] t)).drew).heap.size ((wr.alloc (.cells #[.slice none 0 0, .slice none 0 0, .slice none 0 0, .slice none 0 0, .slice none 0 0, .int .i64 0, .slice none 0 0, .int .i64 0, .int .i64 0] t)).drew) w5) (hr : RefS (mask (fun k => (S k ∨ k = W0.heap.size ∨ k = W0.heap.size + 1) ∨ (k = wr.heap.size ∧ wr.heap.size < ((wr.alloc (.cells #[.slice none 0 0, .slice none 0 0, .slice none 0 0, .slice none 0 0, .slice none 0 0, .int .i64 0, .slice none 0 0, .int .i64 0, .int .i64 0] t)).drew).heap.size)) w5) v' s') (hw : Wf s') (hd : Bd m' s') (x0 x1 x2 x3 x4 x5 x6 x7 x8 : Value) :
    StI S W0 zs vs v' s' m' (putFrom wr.heap.size 0 w5 [x0, x1, x2, x3, x4, x5, x6, x7, x8]) ∧ Blk wr.heap.size (putFrom wr.heap.size 0 w5 [x0, x1, x2, x3, x4, x5, x6, x7, x8]) [x0, x1, x2, x3, x4, x5, x6, x7, x8] ∧ W0.heap.size + 1 < wr.heap.size := by
  have z1 : ((wr.alloc (.cells #[.slice none 0 0, .slice none 0 0, .slice none 0 0, .slice none 0 0, .slice none 0 0, .int .i64 0, .slice none 0 0, .int .i64 0, .int .i64 0] t)).drew).heap.size = wr.heap.size + 1 := by simp
  have h1 := h.b1.2
  have h0 := h.b0.2
  have hb1 : Below wr.heap.size wr ((wr.alloc (.cells #[.slice none 0 0, .slice none 0 0, .slice none 0 0, .slice none 0 0, .slice none 0 0, .int .i64 0, .slice none 0 0, .int .i64 0, .int .i64 0] t)).drew) := (below_alloc' _ _).drew
  have hb2 : Below wr.heap.size wr w5 := hb1.trans (hb.mono hb1.size)
  have k0 : Blk wr.heap.size w5 [.slice none 0 0, .slice none 0 0, .slice none 0 0, .slice none 0 0, .slice none 0 0, .int .i64 0, .slice none 0 0, .int .i64 0, .int .i64 0] := cells_below (cells_below (box9 wr (.slice none 0 0) (.slice none 0 0) (.slice none 0 0) (.slice none 0 0) (.slice none 0 0) (.int .i64 0) (.slice none 0 0) (.int .i64 0) (.int .i64 0) t).1 ((Below.refl _ _).drew)) hb
  have kp := cells_putFrom [x0, x1, x2, x3, x4, x5, x6, x7, x8] 0 w5 [.slice none 0 0, .slice none 0 0, .slice none 0 0, .slice none 0 0, .slice none 0 0, .int .i64 0, .slice none 0 0, .int .i64 0, .int .i64 0] k0 (by simp)
  refine ⟨⟨blk_putX (by omega) _ 0 _ (cells_below h.b0 hb2), blk_putX (by omega) _ 0 _ (cells_below h.b1 hb2), below_put h.bel.size _ 0 _ (h.bel.trans (hb2.mono h.bel.size)), ?_, hw, hd⟩, ?_, by omega⟩
  · refine refS_sub hr (Sub.trans (off_mask (S := fun k => (S k ∨ k = W0.heap.size ∨ k = W0.heap.size + 1) ∨ (k = wr.heap.size ∧ wr.heap.size < ((wr.alloc (.cells #[.slice none 0 0, .slice none 0 0, .slice none 0 0, .slice none 0 0, .slice none 0 0, .int .i64 0, .slice none 0 0, .int .i64 0, .int .i64 0] t)).drew).heap.size)) (S' := fun k => (S k ∨ k = W0.heap.size ∨ k = W0.heap.size + 1) ∨ (k = wr.heap.size ∧ wr.heap.size < ((wr.alloc (.cells #[.slice none 0 0, .slice none 0 0, .slice none 0 0, .slice none 0 0, .slice none 0 0, .int .i64 0, .slice none 0 0, .int .i64 0, .int .i64 0] t)).drew).heap.size)) (off_put (.inr ⟨rfl, by rw [z1]; omega⟩) [x0, x1, x2, x3, x4, x5, x6, x7, x8] 0 w5) (fun _ e => .inl e)) (mask_mono (fun _ e => .inl e)))
  · simpa using kp
theorem sti_start {S : Nat → Prop} {W0 : World} {v : Value} {s : Dk} {m : Nat} (x0 x1 x2 x3 x4 x5 x6 x7 x8 : Value) (hr : RefS (mask S W0) v s) (hw : Wf s) (hd : Bd m s) (t t2 : TypeId) : StI S W0 [.slice none 0 0, .slice none 0 0, .slice none 0 0, .slice none 0 0, .slice none 0 0, .int .i64 0, .slice none 0 0, .int .i64 0, .int .i64 0] [x0, x1, x2, x3, x4, x5, x6, x7, x8] v s m ((W0.alloc (.cells #[x0, x1, x2, x3, x4, x5, x6, x7, x8] t)).alloc (.cells #[.slice none 0 0, .slice none 0 0, .slice none 0 0, .slice none 0 0, .slice none 0 0, .int .i64 0, .slice none 0 0, .int .i64 0, .int .i64 0] t2)) := by
  have a1 := box9 W0 x0 x1 x2 x3 x4 x5 x6 x7 x8 t
  have z1 : (W0.alloc (.cells #[x0, x1, x2, x3, x4, x5, x6, x7, x8] t)).heap.size = W0.heap.size + 1 := by simp
  have a2 := box9 (W0.alloc (.cells #[x0, x1, x2, x3, x4, x5, x6, x7, x8] t)) (.slice none 0 0) (.slice none 0 0) (.slice none 0 0) (.slice none 0 0) (.slice none 0 0) (.int .i64 0) (.slice none 0 0) (.int .i64 0) (.int .i64 0) t2
  rw [z1] at a2
  have hb := a1.2.trans (a2.2.mono (by omega))
  exact ⟨cells_base a1.1 a2.2 (by omega), a2.1, hb, refS_sub hr (off_mask (S := S) (S' := fun k => S k ∨ k = W0.heap.size ∨ k = W0.heap.size + 1) (off_of hb) (fun k e => by rcases e with e | e | e; exact .inl e; exact .inr (by omega); exact .inr (by omega))), hw, hd⟩
set_option maxRecDepth 20000 in
set_option maxHeartbeats 16000000 in
theorem stepsRC {S : Nat → Prop} {W0 : World} (hS : ∀ k, S k → k < W0.heap.size) {v : Value} {t : Dk} (h : RefS (mask S W0) v t) (hw : Wf t) (m : Nat) (hB : Bd m t) (hfl : t.fails.length ≤ 1000000000) (lv : Value) (os : List OpT) (ho : HoldsO W0 lv os) (hin : ∀ o ∈ os, 1 ≤ o.1 ∧ o.1 ≤ 6) (hm : m + bulkO os ≤ 80000000) :
    Calls Tryz.prog 31 #[v, lv] W0 fun e w' => ∃ v', e = .returned (.tuple #[v', .int .i64 ((stpsT (opsD os) t).2.1 : Int), .int .i64 (stpsT (opsD os) t).2.2]) ∧ RefS (mask S w') v' (stpsT (opsD os) t).1 ∧ Below W0.heap.size W0 w' := by
  obtain ⟨⟨a0, n0, c0⟩, ⟨a1, n1, c1⟩, ⟨a2, n2, c2⟩, ⟨a3, n3, c3⟩, ⟨a4, n4, c4⟩, ⟨a6, n6, c6⟩, ev, hV⟩ := id h
  unfold stV at ev
  dsimp only at ev
  subst ev
  obtain ⟨oa, oc, hlv, hpos⟩ := ho_slice ho
  obtain ⟨n, hn⟩ : ∃ n, n = os.length := ⟨_, rfl⟩
  have N1 := hide' hn
  rw [← hn] at hpos hlv
  subst hlv
  have ln : n ≤ 80000000 := by have := bulk_len os; omega
  have HO := hide' ho
  have HS := hide' hS
  have HM := hide' hm
  have HI := hide' hin
  have FL := hide' hfl
  have I0 : Hid (StI S W0 [.slice none 0 0, .slice none 0 0, .slice none 0 0, .slice none 0 0, .slice none 0 0, .int .i64 0, .slice none 0 0, .int .i64 0, .int .i64 0] [.slice a0 n0 c0, .slice a1 n1 c1, .slice a2 n2 c2, .slice a3 n3 c3, .slice a4 n4 c4, .int .i64 t.room, .slice a6 n6 c6, .int .i64 t.power, .int .i64 (t.n : Int)] (.agg #[.slice a0 n0 c0, .slice a1 n1 c1, .slice a2 n2 c2, .slice a3 n3 c3, .slice a4 n4 c4, .int .i64 t.room, .slice a6 n6 c6, .int .i64 t.power, .int .i64 (t.n : Int)]) t m ((W0.alloc (.cells #[.slice a0 n0 c0, .slice a1 n1 c1, .slice a2 n2 c2, .slice a3 n3 c3, .slice a4 n4 c4, .int .i64 t.room, .slice a6 n6 c6, .int .i64 t.power, .int .i64 (t.n : Int)] 38)).alloc (.cells #[.slice none 0 0, .slice none 0 0, .slice none 0 0, .slice none 0 0, .slice none 0 0, .int .i64 0, .slice none 0 0, .int .i64 0, .int .i64 0] 38))) := sti_start _ _ _ _ _ _ _ _ _ h hw hB _ _
  have U0 : Hid (Upto os t t 0) := upto_start os t
  clear hn ho hS hm hin hfl h hw hB hV
  go_enter Tryz.func31, Tryz.ntmps31
  go_wp2_with fail
  go_loopw [7] (fun i wr => ∃ j : Nat, j ≤ n ∧ i = .int .i64 j ∧ ∃ (x0 x1 x2 x3 x4 x6 : Sl) (s : Dk), Hid (StI S W0 [.slice none 0 0, .slice none 0 0, .slice none 0 0, .slice none 0 0, .slice none 0 0, .int .i64 0, .slice none 0 0, .int .i64 0, .int .i64 0] [.slice x0.a x0.n x0.c, .slice x1.a x1.n x1.c, .slice x2.a x2.n x2.c, .slice x3.a x3.n x3.c, .slice x4.a x4.n x4.c, .int .i64 s.room, .slice x6.a x6.n x6.c, .int .i64 s.power, .int .i64 (s.n : Int)] (.agg #[.slice x0.a x0.n x0.c, .slice x1.a x1.n x1.c, .slice x2.a x2.n x2.c, .slice x3.a x3.n x3.c, .slice x4.a x4.n x4.c, .int .i64 s.room, .slice x6.a x6.n x6.c, .int .i64 s.power, .int .i64 (s.n : Int)]) s (m + bulkO (os.take j)) wr) ∧ Hid (Upto os t s j) ∧ Hid (s.fails = t.fails)) (fun i _ => n - (intOf i).toNat)
  case atStart => exact ⟨0, by omega, rfl, ⟨a0, n0, c0⟩, ⟨a1, n1, c1⟩, ⟨a2, n2, c2⟩, ⟨a3, n3, c3⟩, ⟨a4, n4, c4⟩, ⟨a6, n6, c6⟩, t, I0, U0, rfl⟩
  case round =>
    obtain ⟨j, hj, rfl, ⟨a0, n0, c0⟩, ⟨a1, n1, c1⟩, ⟨a2, n2, c2⟩, ⟨a3, n3, c3⟩, ⟨a4, n4, c4⟩, ⟨a6, n6, c6⟩, s, HL, HU, HF⟩ := hrel
    dsimp only at HL
    clear I0 U0
    by_cases hlt : j < n
    · have hj' : j < os.length := by rw [← N1.out]; exact hlt
      obtain ⟨b, off, rfl⟩ := hpos (by omega)
      have ho2 : HoldsO W0 (.slice (some ⟨b, off, none⟩) os.length oc) os := by rw [← N1.out]; exact HO.out
      obtain ⟨da, dl, dc, ⟨q0, q1, q2, q3⟩, hdat⟩ := op_at ho2 j hj'
      have hbo := bulk_mem os _ (List.getElem_mem hj')
      have hbt := bulk_take os j
      have hbs := bulk_succ os j hj'
      have hmm := HM.out
      have LN : Hid ((os[j]'hj').2.1.length ≤ 80000000 ∧ (os[j]'hj').2.2.1.length ≤ 80000000 ∧ (os[j]'hj').2.2.2.length ≤ 80000000) := ⟨by omega, by omega, by omega⟩
      have BT : Hid (m + bulkO (os.take j) ≤ 80000000) := by unfold Hid; omega
      have BS : Hid (m + bulkO (os.take j) + 2 + (os[j]'hj').2.2.2.length ≤ m + bulkO (os.take (j + 1))) := by unfold Hid; omega
      have IN := hide' (HI.out _ (List.getElem_mem hj'))
      have UO := hide' (fun he => upto_step HU.out hj' he)
      have UB := hide' (fun he => upto_bad HU.out hj' he)
      have OC : Hid (∀ Wx, Below W0.heap.size W0 Wx → Wx.cell? ⟨b, off + j * 4, none⟩ = some (.int .i64 (os[j]'hj').1) ∧ Wx.cell? ⟨b, off + j * 4 + 1, none⟩ = some (.string ⟨(os[j]'hj').2.1.toArray⟩) ∧ Wx.cell? ⟨b, off + j * 4 + 2, none⟩ = some (.string ⟨(os[j]'hj').2.2.1.toArray⟩) ∧ Wx.cell? ⟨b, off + j * 4 + 3, none⟩ = some (.slice da dl dc)) := fun Wx hb => ⟨(hb.cell (cell_lt q0)).trans q0, (hb.cell (cell_lt q1)).trans q1, (hb.cell (cell_lt q2)).trans q2, (hb.cell (cell_lt q3)).trans q3⟩
      have HD := hide' hdat
      clear hbo hbt hbs hmm q0 q1 q2 q3 hdat HU ho2
      generalize os[j]'hj' = op at LN BS IN UO UB OC HD
      obtain ⟨d, hd⟩ : ∃ d : DOp, d = ⟨op.1, op.2.1, op.2.2.1, op.2.2.2⟩ := ⟨_, rfl⟩
      have ED := hide' hd
      rw [← hd] at UO UB
      obtain ⟨s', hs'⟩ : ∃ s', s' = (s.step d).1 := ⟨_, rfl⟩
      obtain ⟨er, her⟩ : ∃ er, er = (s.step d).2 := ⟨_, rfl⟩
      have FS : Hid (s'.fails = t.fails) := by unfold Hid; rw [hs', step_fails]; exact HF.out
      have ES : Hid (s.step ⟨op.1, (⟨op.2.1.toArray⟩ : ByteArray).data.toList, (⟨op.2.2.1.toArray⟩ : ByteArray).data.toList, op.2.2.2⟩ = (s', er)) := by
        unfold Hid
        rw [hs', her, hd]
      have BD' : Hid (Wf s' ∧ Bd (m + bulkO (os.take (j + 1))) s') := by
        unfold Hid
        rw [hs']
        refine ⟨wf_step HL.out.wf _, bd_mono (bd_step HL.out.bd d) ?_⟩
        have := BS.out
        rw [hd]
        exact this
      rw [← hs', ← her] at UB
      rw [← her] at UO
      rw [← hs'] at UO
      clear hd hs' her
      have cS : Hid (∀ Wx, Below wr.heap.size wr Wx → Calls Tryz.prog 29 #[.agg #[.slice a0 n0 c0, .slice a1 n1 c1, .slice a2 n2 c2, .slice a3 n3 c3, .slice a4 n4 c4, .int .i64 s.room, .slice a6 n6 c6, .int .i64 s.power, .int .i64 (s.n : Int)], .agg #[.int .i64 op.1, .string ⟨op.2.1.toArray⟩, .string ⟨op.2.2.1.toArray⟩, .slice da dl dc]] Wx fun e w' => ∃ (y0 y1 y2 y3 y4 y6 : Sl), e = .returned (.tuple #[.agg #[.slice y0.a y0.n y0.c, .slice y1.a y1.n y1.c, .slice y2.a y2.n y2.c, .slice y3.a y3.n y3.c, .slice y4.a y4.n y4.c, .int .i64 s'.room, .slice y6.a y6.n y6.c, .int .i64 s'.power, .int .i64 (s'.n : Int)], .int .i64 er]) ∧ Hid (RefS (mask (fun k => (S k ∨ k = W0.heap.size ∨ k = W0.heap.size + 1) ∨ (k = wr.heap.size ∧ wr.heap.size < Wx.heap.size)) w') (.agg #[.slice y0.a y0.n y0.c, .slice y1.a y1.n y1.c, .slice y2.a y2.n y2.c, .slice y3.a y3.n y3.c, .slice y4.a y4.n y4.c, .int .i64 s'.room, .slice y6.a y6.n y6.c, .int .i64 s'.power, .int .i64 (s'.n : Int)]) s' ∧ Below wr.heap.size wr w' ∧ Below Wx.heap.size Wx w') ∧ (Wx.heap.size ≤ w'.heap.size) ∧ (∀ b o, b < Wx.heap.size → w'.cell? ⟨b, o, none⟩ = Wx.cell? ⟨b, o, none⟩) ∧ (∀ b o, b < Wx.heap.size → w'.frozen? ⟨b, o, none⟩ = Wx.frozen? ⟨b, o, none⟩) ∧ (w'.cell? ⟨W0.heap.size, 0, none⟩ = some (.slice a0 n0 c0) ∧ w'.cell? ⟨W0.heap.size, 1, none⟩ = some (.slice a1 n1 c1) ∧ w'.cell? ⟨W0.heap.size, 2, none⟩ = some (.slice a2 n2 c2) ∧ w'.cell? ⟨W0.heap.size, 3, none⟩ = some (.slice a3 n3 c3) ∧ w'.cell? ⟨W0.heap.size, 4, none⟩ = some (.slice a4 n4 c4) ∧ w'.cell? ⟨W0.heap.size, 5, none⟩ = some (.int .i64 s.room) ∧ w'.cell? ⟨W0.heap.size, 6, none⟩ = some (.slice a6 n6 c6) ∧ w'.cell? ⟨W0.heap.size, 7, none⟩ = some (.int .i64 s.power) ∧ w'.cell? ⟨W0.heap.size, 8, none⟩ = some (.int .i64 (s.n : Int))) ∧ (w'.cell? ⟨b, off + j * 4, none⟩ = some (.int .i64 op.1) ∧ w'.cell? ⟨b, off + j * 4 + 1, none⟩ = some (.string ⟨op.2.1.toArray⟩) ∧ w'.cell? ⟨b, off + j * 4 + 2, none⟩ = some (.string ⟨op.2.2.1.toArray⟩) ∧ w'.cell? ⟨b, off + j * 4 + 3, none⟩ = some (.slice da dl dc))) := fun Wx hb => by
        have h1 := sti_below HL.out hb
        have hbw := HL.out.bel.trans (hb.mono HL.out.bel.size)
        refine (stepRC (S := fun k => (S k ∨ k = W0.heap.size ∨ k = W0.heap.size + 1) ∨ (k = wr.heap.size ∧ wr.heap.size < Wx.heap.size)) (fun k e => e.elim (sti_lt h1 HS.out k) (fun e => by rw [e.1]; exact e.2)) (refS_sub HL.out.ref (off_mask (S := fun k => S k ∨ k = W0.heap.size ∨ k = W0.heap.size + 1) (off_of hb) (fun k e => e.elim .inl (fun e => .inr (by omega))))) h1.wf (bd_mono h1.bd BT.out) op.1 IN.out ⟨op.2.1.toArray⟩ ⟨op.2.2.1.toArray⟩ da dl dc op.2.2.2 (holdsB_mono HD.out hbw) (by rw [size_l]; have := LN.out.1; omega) (by rw [size_l]; have := LN.out.2.1; omega) (by have := LN.out.2.2; omega) (by rw [HF.out]; exact FL.out)).mono ?_
        rintro e w' ⟨v', rfl, hr, hb'⟩
        rw [ES.out] at hr ⊢
        obtain ⟨⟨ra0, rn0, rc0⟩, ⟨ra1, rn1, rc1⟩, ⟨ra2, rn2, rc2⟩, ⟨ra3, rn3, rc3⟩, ⟨ra4, rn4, rc4⟩, ⟨ra6, rn6, rc6⟩, ev, -⟩ := id hr
        unfold stV at ev
        dsimp only at ev
        subst ev
        have hb2 := hb.trans (hb'.mono hb.size)
        exact ⟨⟨ra0, rn0, rc0⟩, ⟨ra1, rn1, rc1⟩, ⟨ra2, rn2, rc2⟩, ⟨ra3, rn3, rc3⟩, ⟨ra4, rn4, rc4⟩, ⟨ra6, rn6, rc6⟩, rfl, ⟨hr, hb2, hb'⟩, hb'.size, fun b o h => hb'.cell (p := ⟨b, o, none⟩) h, fun b o h => hb'.frozen (p := ⟨b, o, none⟩) h, cells_9 (cells_below HL.out.b0 hb2), OC.out w' (HL.out.bel.trans (hb2.mono HL.out.bel.size))⟩
      obtain ⟨k0, k1, k2, k3, k4, k5, k6, k7, k8⟩ := cells_9 HL.out.b0
      obtain ⟨l0, l1, l2, l3⟩ := OC.out wr HL.out.bel
      have I1 : W0.heap.size ≠ wr.heap.size := fun e => by have := HL.out.b0.2; omega
      have I2 : wr.heap.size ≠ W0.heap.size := fun e => by have := HL.out.b0.2; omega
      have I3 : b ≠ wr.heap.size := fun e => by have := cell_lt l0; dsimp only at this; omega
      have I4 : wr.heap.size ≠ b := fun e => by have := cell_lt l0; dsimp only at this; omega
      go_wp2_with fail
      go_cut [8, 9] (fun pv ev wx => ∃ (p8 : Nat) (y0 y1 y2 y3 y4 y6 : Sl), pv = .pointer (some ⟨p8, 0, none⟩) ∧ ev = .int .i64 er ∧ Hid (StI S W0 [.slice none 0 0, .slice none 0 0, .slice none 0 0, .slice none 0 0, .slice none 0 0, .int .i64 0, .slice none 0 0, .int .i64 0, .int .i64 0] [.slice a0 n0 c0, .slice a1 n1 c1, .slice a2 n2 c2, .slice a3 n3 c3, .slice a4 n4 c4, .int .i64 s.room, .slice a6 n6 c6, .int .i64 s.power, .int .i64 (s.n : Int)] (.agg #[.slice y0.a y0.n y0.c, .slice y1.a y1.n y1.c, .slice y2.a y2.n y2.c, .slice y3.a y3.n y3.c, .slice y4.a y4.n y4.c, .int .i64 s'.room, .slice y6.a y6.n y6.c, .int .i64 s'.power, .int .i64 (s'.n : Int)]) s' (m + bulkO (os.take (j + 1))) wx ∧ Blk p8 wx [.slice y0.a y0.n y0.c, .slice y1.a y1.n y1.c, .slice y2.a y2.n y2.c, .slice y3.a y3.n y3.c, .slice y4.a y4.n y4.c, .int .i64 s'.room, .slice y6.a y6.n y6.c, .int .i64 s'.power, .int .i64 (s'.n : Int)] ∧ W0.heap.size + 1 < p8))
      case first =>
        go_region_held_law (fun w' => w'.cell? ⟨W0.heap.size, 0, none⟩ = some (.slice a0 n0 c0) ∧ w'.cell? ⟨W0.heap.size, 1, none⟩ = some (.slice a1 n1 c1) ∧ w'.cell? ⟨W0.heap.size, 2, none⟩ = some (.slice a2 n2 c2) ∧ w'.cell? ⟨W0.heap.size, 3, none⟩ = some (.slice a3 n3 c3) ∧ w'.cell? ⟨W0.heap.size, 4, none⟩ = some (.slice a4 n4 c4) ∧ w'.cell? ⟨W0.heap.size, 5, none⟩ = some (.int .i64 s.room) ∧ w'.cell? ⟨W0.heap.size, 6, none⟩ = some (.slice a6 n6 c6) ∧ w'.cell? ⟨W0.heap.size, 7, none⟩ = some (.int .i64 s.power) ∧ w'.cell? ⟨W0.heap.size, 8, none⟩ = some (.int .i64 (s.n : Int)) ∧ w'.cell? ⟨b, off + j * 4, none⟩ = some (.int .i64 op.1) ∧ w'.cell? ⟨b, off + j * 4 + 1, none⟩ = some (.string ⟨op.2.1.toArray⟩) ∧ w'.cell? ⟨b, off + j * 4 + 2, none⟩ = some (.string ⟨op.2.2.1.toArray⟩) ∧ w'.cell? ⟨b, off + j * 4 + 3, none⟩ = some (.slice da dl dc)) (go_keep)
          (first
            | (go_at_call 29; refine (cS.out _ ?_).mono ?_; (first | exact (Below.refl _ _).drew | exact Below.refl _ _ | exact (below_alloc' _ _) | exact (below_alloc' _ _).drew); rintro e w5 ⟨⟨ra0, rn0, rc0⟩, ⟨ra1, rn1, rc1⟩, ⟨ra2, rn2, rc2⟩, ⟨ra3, rn3, rc3⟩, ⟨ra4, rn4, rc4⟩, ⟨ra6, rn6, rc6⟩, rfl, OU, os1, oc1, of1, ⟨k0, k1, k2, k3, k4, k5, k6, k7, k8⟩, l0, l1, l2, l3⟩))
        · clear k0 k1 k2 k3 k4 k5 k6 k7 k8 l0 l1 l2 l3 os1 oc1 of1 cS OC
          go_wp2_with fail
          go_meet
          exact ⟨_, ⟨ra0, rn0, rc0⟩, ⟨ra1, rn1, rc1⟩, ⟨ra2, rn2, rc2⟩, ⟨ra3, rn3, rc3⟩, ⟨ra4, rn4, rc4⟩, ⟨ra6, rn6, rc6⟩, rfl, rfl, sti_wayA HL.out OU.out.2.1 OU.out.1 BD'.out.1 BD'.out.2 _ _ _ _ _ _ _ _ _ _⟩
        · clear k0 k1 k2 k3 k4 k5 k6 k7 k8 l0 l1 l2 l3 os1 oc1 of1 cS OC
          have WB := sti_wayB HL.out _ OU.out.2.2 OU.out.1 BD'.out.1 BD'.out.2 (.slice ra0 rn0 rc0) (.slice ra1 rn1 rc1) (.slice ra2 rn2 rc2) (.slice ra3 rn3 rc3) (.slice ra4 rn4 rc4) (.int .i64 s'.room) (.slice ra6 rn6 rc6) (.int .i64 s'.power) (.int .i64 (s'.n : Int))
          simp only [putFrom] at WB
          have WBH := hide' WB
          clear WB
          go_wp2_with fail
          go_meet
          exact ⟨_, ⟨ra0, rn0, rc0⟩, ⟨ra1, rn1, rc1⟩, ⟨ra2, rn2, rc2⟩, ⟨ra3, rn3, rc3⟩, ⟨ra4, rn4, rc4⟩, ⟨ra6, rn6, rc6⟩, rfl, rfl, WBH⟩
      case rest =>
        obtain ⟨p8, ⟨ra0, rn0, rc0⟩, ⟨ra1, rn1, rc1⟩, ⟨ra2, rn2, rc2⟩, ⟨ra3, rn3, rc3⟩, ⟨ra4, rn4, rc4⟩, ⟨ra6, rn6, rc6⟩, rfl, rfl, IX⟩ := hcut
        dsimp only at IX
        clear cS OC k0 k1 k2 k3 k4 k5 k6 k7 k8 l0 l1 l2 l3 I1 I2 I3 I4 HL
        have PU := sti_put IX.out.1 (us := [.slice ra0 rn0 rc0, .slice ra1 rn1 rc1, .slice ra2 rn2 rc2, .slice ra3 rn3 rc3, .slice ra4 rn4 rc4, .int .i64 s'.room, .slice ra6 rn6 rc6, .int .i64 s'.power, .int .i64 (s'.n : Int)]) rfl
        obtain ⟨⟨c0, c1, c2, c3, c4, c5, c6, c7, c8⟩, f0, f1, f2, f3, f4, f5, f6, f7, f8⟩ := cells_9a IX.out.1.b0
        obtain ⟨y0, y1, y2, y3, y4, y5, y6, y7, y8⟩ := cells_9 IX.out.2.1
        have J1 : p8 ≠ W0.heap.size := fun e => by have := IX.out.2.2; omega
        have J2 : W0.heap.size ≠ p8 := fun e => by have := IX.out.2.2; omega
        have J3 : W0.heap.size ≠ W0.heap.size + 1 := by omega
        have J4 : W0.heap.size + 1 ≠ W0.heap.size := by omega
        simp only [putFrom] at PU
        have PUH := hide' PU
        clear PU IX
        go_upto_region 6 with fail
        generalize (((((((((wc.setCell ⟨W0.heap.size, 0, none⟩ (.slice ra0 rn0 rc0)).setCell ⟨W0.heap.size, 1, none⟩ (.slice ra1 rn1 rc1)).setCell ⟨W0.heap.size, 2, none⟩ (.slice ra2 rn2 rc2)).setCell ⟨W0.heap.size, 3, none⟩ (.slice ra3 rn3 rc3)).setCell ⟨W0.heap.size, 4, none⟩ (.slice ra4 rn4 rc4)).setCell ⟨W0.heap.size, 5, none⟩ (.int .i64 s'.room)).setCell ⟨W0.heap.size, 6, none⟩ (.slice ra6 rn6 rc6)).setCell ⟨W0.heap.size, 7, none⟩ (.int .i64 s'.power)).setCell ⟨W0.heap.size, 8, none⟩ (.int .i64 (s'.n : Int))) = wA at PUH ⊢
        have PW := PUH
        clear PUH y0 y1 y2 y3 y4 y5 y6 y7 y8 c0 c1 c2 c3 c4 c5 c6 c7 c8 f0 f1 f2 f3 f4 f5 f6 f7 f8 J1 J2
        by_cases hz : er = 0
        · have UX := hide' (UO.out hz)
          subst hz
          clear UO UB
          go_wp2_with fail
          go_roundw
          case rel => exact ⟨j + 1, by omega, by go_num, ⟨ra0, rn0, rc0⟩, ⟨ra1, rn1, rc1⟩, ⟨ra2, rn2, rc2⟩, ⟨ra3, rn3, rc3⟩, ⟨ra4, rn4, rc4⟩, ⟨ra6, rn6, rc6⟩, s', PW, UX, FS⟩
          case measure => simp [intOf]; omega
        · have dz : (er != 0) = true := by simpa using hz
          have UX := hide' (UB.out hz)
          obtain ⟨⟨g0, g1, g2, g3, g4, g5, g6, g7, g8⟩, h0, h1, h2, h3, h4, h5, h6, h7, h8⟩ := cells_9a PW.out.b1
          obtain ⟨m0, m1, m2, m3, m4, m5, m6, m7, m8⟩ := cells_9 PW.out.b0
          have FB := cells_putFrom [.slice ra0 rn0 rc0, .slice ra1 rn1 rc1, .slice ra2 rn2 rc2, .slice ra3 rn3 rc3, .slice ra4 rn4 rc4, .int .i64 s'.room, .slice ra6 rn6 rc6, .int .i64 s'.power, .int .i64 (s'.n : Int)] 0 _ _ PW.out.b1 (by simp)
          have FBL := below_put (m := W0.heap.size) (b := W0.heap.size + 1) (Nat.le_succ _) [.slice ra0 rn0 rc0, .slice ra1 rn1 rc1, .slice ra2 rn2 rc2, .slice ra3 rn3 rc3, .slice ra4 rn4 rc4, .int .i64 s'.room, .slice ra6 rn6 rc6, .int .i64 s'.power, .int .i64 (s'.n : Int)] 0 _ PW.out.bel
          have FRF := refS_sub PW.out.ref (Sub.trans (off_mask (S := fun k => S k ∨ k = W0.heap.size ∨ k = W0.heap.size + 1) (S' := fun k => S k ∨ k = W0.heap.size ∨ k = W0.heap.size + 1) (off_put (.inr (.inr rfl)) [.slice ra0 rn0 rc0, .slice ra1 rn1 rc1, .slice ra2 rn2 rc2, .slice ra3 rn3 rc3, .slice ra4 rn4 rc4, .int .i64 s'.room, .slice ra6 rn6 rc6, .int .i64 s'.power, .int .i64 (s'.n : Int)] 0 _) (fun _ e => .inl e)) (mask_mono (S := S) (fun _ e => .inl e)))
          simp only [putFrom] at FB FBL FRF
          have FIN := hide' (And.intro FRF FBL)
          have FBH := hide' FB
          clear FB FBL FRF PW UO UB hz
          go_wp2_with fail
          obtain ⟨z0, z1, z2, z3, z4, z5, z6, z7, z8⟩ := cells_9 (show Blk (W0.heap.size + 1) _ [.slice ra0 rn0 rc0, .slice ra1 rn1 rc1, .slice ra2 rn2 rc2, .slice ra3 rn3 rc3, .slice ra4 rn4 rc4, .int .i64 s'.room, .slice ra6 rn6 rc6, .int .i64 s'.power, .int .i64 (s'.n : Int)] from by simpa using FBH.out)
          exact bodyPost_ret (v := .tuple #[.agg #[.slice ra0 rn0 rc0, .slice ra1 rn1 rc1, .slice ra2 rn2 rc2, .slice ra3 rn3 rc3, .slice ra4 rn4 rc4, .int .i64 s'.room, .slice ra6 rn6 rc6, .int .i64 s'.power, .int .i64 (s'.n : Int)], .int .i64 (j : Int), .int .i64 er]) (by simp [results, Tryz.results31, go_sem, z0, z1, z2, z3, z4, z5, z6, z7, z8]) rfl (by rw [UX.out]; exact ⟨_, rfl, FIN.out.1, FIN.out.2⟩)
    · have UX := hide' (upto_end HU.out (by rw [← N1.out]; omega))
      rw [← N1.out] at UX
      obtain ⟨m0, m1, m2, m3, m4, m5, m6, m7, m8⟩ := cells_9 HL.out.b0
      obtain ⟨⟨g0, g1, g2, g3, g4, g5, g6, g7, g8⟩, h0, h1, h2, h3, h4, h5, h6, h7, h8⟩ := cells_9a HL.out.b1
      have J3 : W0.heap.size ≠ W0.heap.size + 1 := by omega
      have J4 : W0.heap.size + 1 ≠ W0.heap.size := by omega
      have FB := cells_putFrom [.slice a0 n0 c0, .slice a1 n1 c1, .slice a2 n2 c2, .slice a3 n3 c3, .slice a4 n4 c4, .int .i64 s.room, .slice a6 n6 c6, .int .i64 s.power, .int .i64 (s.n : Int)] 0 _ _ HL.out.b1 (by simp)
      have FBL := below_put (m := W0.heap.size) (b := W0.heap.size + 1) (Nat.le_succ _) [.slice a0 n0 c0, .slice a1 n1 c1, .slice a2 n2 c2, .slice a3 n3 c3, .slice a4 n4 c4, .int .i64 s.room, .slice a6 n6 c6, .int .i64 s.power, .int .i64 (s.n : Int)] 0 _ HL.out.bel
      have FRF := refS_sub HL.out.ref (Sub.trans (off_mask (S := fun k => S k ∨ k = W0.heap.size ∨ k = W0.heap.size + 1) (S' := fun k => S k ∨ k = W0.heap.size ∨ k = W0.heap.size + 1) (off_put (.inr (.inr rfl)) [.slice a0 n0 c0, .slice a1 n1 c1, .slice a2 n2 c2, .slice a3 n3 c3, .slice a4 n4 c4, .int .i64 s.room, .slice a6 n6 c6, .int .i64 s.power, .int .i64 (s.n : Int)] 0 _) (fun _ e => .inl e)) (mask_mono (S := S) (fun _ e => .inl e)))
      simp only [putFrom] at FB FBL FRF
      have FIN := hide' (And.intro FRF FBL)
      have FBH := hide' FB
      clear FB FBL FRF HL HU
      go_wp2_with fail
      obtain ⟨z0, z1, z2, z3, z4, z5, z6, z7, z8⟩ := cells_9 (show Blk (W0.heap.size + 1) _ [.slice a0 n0 c0, .slice a1 n1 c1, .slice a2 n2 c2, .slice a3 n3 c3, .slice a4 n4 c4, .int .i64 s.room, .slice a6 n6 c6, .int .i64 s.power, .int .i64 (s.n : Int)] from by simpa using FBH.out)
      exact bodyPost_ret (v := .tuple #[.agg #[.slice a0 n0 c0, .slice a1 n1 c1, .slice a2 n2 c2, .slice a3 n3 c3, .slice a4 n4 c4, .int .i64 s.room, .slice a6 n6 c6, .int .i64 s.power, .int .i64 (s.n : Int)], .int .i64 (n : Int), .int .i64 0]) (by simp [results, Tryz.results31, go_sem, z0, z1, z2, z3, z4, z5, z6, z7, z8]) rfl (by rw [UX.out]; exact ⟨_, rfl, FIN.out.1, FIN.out.2⟩)
end Go.Proofs.YtijnjgnckipghaaGreat
