/- A row of files that a call itself made: one more appended to it, and what it holds. -/
import Derived.Test.YtaklfiipkjfjdaaDlD
import Derived.Test.YtaklfiipkjfjdaaOpnG
import Derived.Deep.AppendLies
namespace Go.Proofs.Ytaklfiipkjfjdaa
open Go.RowKit Go.Maps
theorem Try.info43 : (Try.prog.info? 43).map (fun i => (i.zero, i.size, i.bytes)) = some (some (.agg #[.string ⟨#[]⟩, .slice none 0 0]), 2, 40) := by kernel_rfl
theorem holdsB_sub {M W : World} (h : Sub M W) {v : Value} {bs : List UInt8} (hb : HoldsB M v bs) : HoldsB W v bs := by
  obtain ⟨ao, cap, rfl, h0, hcp, hc⟩ := hb
  refine ⟨ao, cap, rfl, h0, hcp, fun hne => ?_⟩
  obtain ⟨b, off, rfl, hlt, hcell⟩ := hc hne
  exact ⟨b, off, rfl, Nat.lt_of_lt_of_le hlt h.size, fun j hj => h.cell _ _ (hcell j hj)⟩
theorem holdsFi_sub {M W : World} (h : Sub M W) {v : Value} {fs : FL} (hb : HoldsFi M v fs) : HoldsFi W v fs := by
  obtain ⟨ao, cap, rfl, h0, hcp, hc⟩ := hb
  refine ⟨ao, cap, rfl, h0, hcp, fun hne => ?_⟩
  obtain ⟨b, off, rfl, hlt, hcell⟩ := hc hne
  refine ⟨b, off, rfl, Nat.lt_of_lt_of_le hlt h.size, fun j hj => ?_⟩
  obtain ⟨h1, u, h2, h3⟩ := hcell j hj
  exact ⟨h.cell _ _ h1, u, h.cell _ _ h2, holdsB_sub h h3⟩
theorem holds_sub {M W : World} (h : Sub M W) {v : Value} {ss : List (List UInt8)} (hb : Holds M v ss) : Holds W v ss := by
  obtain ⟨ao, cap, rfl, hc⟩ := hb
  refine ⟨ao, cap, rfl, fun hne => ?_⟩
  obtain ⟨b, off, rfl, hlt, hcell⟩ := hc hne
  exact ⟨b, off, rfl, Nat.lt_of_lt_of_le hlt h.size, fun j hj => h.cell _ _ (hcell j hj)⟩
theorem holdsI_sub {M W : World} (h : Sub M W) {v : Value} {zs : List Int} (hb : HoldsI M v zs) : HoldsI W v zs := by
  obtain ⟨ao, cap, rfl, h0, hcp, hc⟩ := hb
  refine ⟨ao, cap, rfl, h0, hcp, fun hne => ?_⟩
  obtain ⟨b, off, rfl, hlt, hcell⟩ := hc hne
  exact ⟨b, off, rfl, Nat.lt_of_lt_of_le hlt h.size, fun j hj => h.cell _ _ (hcell j hj)⟩
/-- a row that was made is told where all that was there is hidden -/
theorem own_mask {w0 w : World} {v : Value} {bs : List UInt8} {n : Nat} (h : Own w0 v bs w) (hn : n ≤ w0.heap.size) : HoldsB (mask (fun k => k < n) w) v bs := by
  obtain ⟨ao, cap, rfl, h0, hcp, hc⟩ := holdsB_own h
  refine ⟨ao, cap, rfl, h0, hcp, fun hne => ?_⟩
  obtain ⟨b, off, rfl, hlt, hcell⟩ := hc hne
  have hb : w0.heap.size ≤ b := (h.1.lt b rfl).1
  exact ⟨b, off, rfl, by rw [mask_size]; exact hlt, fun j hj => by rw [mask_cell w (show ¬ (⟨b, off + j, none⟩ : Addr).block < n by show ¬ b < n; omega)]; exact hcell j hj⟩
theorem ownS_mask {w0 w : World} {v : Value} {ss : List (List UInt8)} {n : Nat} (h : OwnS w0 v ss w) (hn : n ≤ w0.heap.size) : Holds (mask (fun k => k < n) w) v ss := by
  obtain ⟨ao, cap, rfl, hc⟩ := holds_own h
  refine ⟨ao, cap, rfl, fun hne => ?_⟩
  obtain ⟨b, off, rfl, hlt, hcell⟩ := hc hne
  have hb : w0.heap.size ≤ b := (h.1.lt b rfl).1
  exact ⟨b, off, rfl, by rw [mask_size]; exact hlt, fun j hj => by rw [mask_cell w (show ¬ (⟨b, off + j, none⟩ : Addr).block < n by show ¬ b < n; omega)]; exact hcell j hj⟩
def cellsFi : List (Nm × Value) → List Value
  | [] => []
  | p :: r => S p.1 :: p.2 :: cellsFi r
theorem cellsFi_len (l : List (Nm × Value)) : (cellsFi l).length = l.length * 2 := by
  induction l with
  | nil => rfl
  | cons p r ih => simp only [cellsFi, List.length_cons, ih]; omega
theorem cellsFi_app (a b : List (Nm × Value)) : cellsFi (a ++ b) = cellsFi a ++ cellsFi b := by
  induction a with
  | nil => rfl
  | cons p r ih => simp only [List.cons_append, cellsFi, ih]
theorem cellsFi_at : ∀ (l : List (Nm × Value)) (j : Nat) (h : j < l.length), (cellsFi l)[j * 2]? = some (S l[j].1) ∧ (cellsFi l)[j * 2 + 1]? = some l[j].2 := by
  intro l
  induction l with
  | nil => intro j h; cases h
  | cons p r ih =>
    intro j h
    cases j with
    | zero => exact ⟨rfl, rfl⟩
    | succ j =>
      have := ih j (by simpa using h)
      have e : (j + 1) * 2 = j * 2 + 2 := by omega
      rw [e]
      exact this
/-- v holds just the files fs, in memory that is new since n0 -/
def FilW (n0 : Nat) (v : Value) (fs : FL) (w : World) : Prop := ∃ ps : List (Nm × Value), w.ownsRow n0 43 2 v ps.length (cellsFi ps) ∧ ps.length = fs.length ∧
  ∀ (i : Nat) (p : Nm × Value) (f : List UInt8 × List UInt8), ps[i]? = some p → fs[i]? = some f → p.1 = f.1 ∧ HoldsB (mask (fun k => k < n0 ∨ v.ownBlock = some k) w) p.2 f.2
theorem fil_nil (n0 : Nat) (w : World) : FilW n0 (.slice none 0 0) [] w := ⟨[], World.ownsRow_nil _ _ _ _, rfl, fun i p f e => by simp at e⟩
theorem fil_below {n0 : Nat} {v : Value} {fs : FL} {w w' : World} (h : FilW n0 v fs w) (hb : Below w.heap.size w w') : FilW n0 v fs w' := by
  obtain ⟨ps, h1, h2, h3⟩ := h
  refine ⟨ps, row_below h1 hb, h2, fun i p f e1 e2 => ?_⟩
  obtain ⟨q1, q2⟩ := h3 i p f e1 e2
  exact ⟨q1, holdsB_sub (off_mask (S := fun k => k < n0 ∨ v.ownBlock = some k) (off_of hb) (fun k hk => .inl hk)) q2⟩
theorem fil_app {n0 : Nat} {v : Value} {fs : FL} {w1 w' : World} {g cap : Nat} {nm : Nm} {dv : Value} {d : List UInt8} (hd : HoldsB (mask (fun k => k < n0 ∨ v.ownBlock = some k) w1) dv d)
    (ps : List (Nm × Value)) (hps : w1.ownsRow n0 43 2 v ps.length (cellsFi ps) ∧ ps.length = fs.length ∧ ∀ (i : Nat) (p : Nm × Value) (f : List UInt8 × List UInt8), ps[i]? = some p → fs[i]? = some f → p.1 = f.1 ∧ HoldsB (mask (fun k => k < n0 ∨ v.ownBlock = some k) w1) p.2 f.2)
    (hr : w'.ownsRow n0 43 2 (.slice (some ⟨g, 0, none⟩) (ps.length + 1) cap) (ps.length + 1) (cellsFi ps ++ [S nm, dv])) (hg : w1.grownBy w' v.ownBlock) (hat : v.ownBlock = some g ∨ g = w1.heap.size) : FilW n0 (.slice (some ⟨g, 0, none⟩) (ps.length + 1) cap) (fs ++ [(nm, d)]) w' := by
  obtain ⟨_, h2, h3⟩ := hps
  have hsub : Sub (mask (fun k => k < n0 ∨ v.ownBlock = some k) w1) (mask (fun k => k < n0 ∨ (Value.slice (some ⟨g, 0, none⟩) (ps.length + 1) cap).ownBlock = some k) w') := by
    refine off_mask (S := fun k => k < n0 ∨ v.ownBlock = some k) (off_grown hg (fun k e => .inr e)) (fun k hk => ?_)
    rcases hk with hk | hk
    · exact .inl (.inl hk)
    · have e : g = k := Option.some.inj hk
      rcases hat with hat | hat
      · left; right; rw [hat, e]
      · right; omega
  refine ⟨ps ++ [(nm, dv)], ?_, by simp [h2], fun i p f e1 e2 => ?_⟩
  · rw [List.length_append, cellsFi_app]
    exact hr
  · rcases Nat.lt_or_ge i ps.length with hi | hi
    · rw [List.getElem?_append_left hi] at e1
      rw [List.getElem?_append_left (by omega)] at e2
      obtain ⟨q1, q2⟩ := h3 i p f e1 e2
      exact ⟨q1, holdsB_sub hsub q2⟩
    · rw [List.getElem?_append_right hi] at e1
      rw [List.getElem?_append_right (by omega)] at e2
      have ez : i - ps.length = 0 := by
        rcases Nat.eq_zero_or_pos (i - ps.length) with h0 | h0
        · exact h0
        · rw [List.getElem?_eq_none (by simp; omega)] at e1; cases e1
      have ez2 : i - fs.length = 0 := by omega
      rw [ez] at e1
      rw [ez2] at e2
      simp only [List.getElem?_cons_zero, Option.some.injEq] at e1 e2
      subst e1 e2
      exact ⟨rfl, holdsB_sub hsub hd⟩
theorem fil_holds {n0 : Nat} {v : Value} {fs : FL} {w : World} (h : FilW n0 v fs w) : HoldsFi (mask (fun k => k < n0) w) v fs := by
  obtain ⟨ps, hr, h2, h3⟩ := h
  rcases hr.2 with ⟨rfl, hn⟩ | ⟨x, cap, cur, rfl, hx, hh, hrr⟩
  · obtain rfl : fs = [] := List.eq_nil_of_length_eq_zero (by omega)
    exact ⟨none, 0, rfl, fun _ => rfl, Nat.le_refl _, fun h => absurd rfl h⟩
  · refine ⟨some ⟨x, 0, none⟩, cap, by rw [h2], fun e => (by cases e), by have := hrr.1; omega, fun _ => ⟨x, 0, rfl, ?_, fun j hj => ?_⟩⟩
    · rw [mask_size]; exact (hr.lt x rfl).2
    · have hj' : j < ps.length := by omega
      obtain ⟨q1, q2⟩ := h3 j (ps[j]'hj') (fs[j]'hj) (by simp [hj']) (by simp [hj])
      obtain ⟨a1, a2⟩ := cellsFi_at ps j hj'
      have hm : ¬ (x < n0) := by omega
      have c1 : w.cell? ⟨x, 0 + j * 2, none⟩ = some (S (ps[j]'hj').1) := by rw [Nat.zero_add, hr.cellAt (j * 2) (by omega)]; exact a1
      have c2 : w.cell? ⟨x, 0 + j * 2 + 1, none⟩ = some (ps[j]'hj').2 := by rw [Nat.zero_add, hr.cellAt (j * 2 + 1) (by omega)]; exact a2
      refine ⟨by rw [mask_cell w (a := ⟨x, 0 + j * 2, none⟩) hm, c1, q1], (ps[j]'hj').2, by rw [mask_cell w (a := ⟨x, 0 + j * 2 + 1, none⟩) hm]; exact c2, ?_⟩
      exact holdsB_sub (mask_mono (fun k hk => .inl hk)) q2
theorem mcloneC {W : World} {m : Nat} {fb : Nat → Nat} {l : NL} (h : Tbl W m fb l) : Calls Try.prog 30 #[.map (some m)] W fun e w' => e = .returned (.map (some W.heap.size)) ∧ Tbl w' W.heap.size fb l ∧ Below W.heap.size W w' :=
  (AnyW.maps_Clone_owns Try.mclone 9 pel m l.length (dOf fb l) W h).mono (fun _ _ ⟨h1, h2, _, h4⟩ => ⟨h1, h2, h4⟩)
theorem takeC_run (x n cap i : Nat) (hi : i ≤ n) (hc : n ≤ cap) (w : World) : Sem.run Try.prog (Instr.slice 68 (.slice (some ⟨x, 0, none⟩) n cap) none (some (.int .i64 (i : Int))) none) w = .ok (.slice (some ⟨x, 0, none⟩) i cap) w := by
  have hel : Try.prog.elem 68 = 91 := by kernel_rfl
  have hh := run_slice_h (P := Try.prog) w 68 (some ⟨x, 0, none⟩) n cap (by rw [hel]; exact Try.underlying68) .i64 i (by omega) (by omega)
  rw [hel, Try.sizeOf91] at hh
  simp only [Result.andThen, Int.toNat_natCast, sliced] at hh
  rw [hh]
  simp [Addr.add]
theorem takeC_none (w : World) : Sem.run Try.prog (Instr.slice 68 (.slice none 0 0) none (some (.int .i64 0)) none) w = .ok (.slice none 0 0) w := by
  have hel : Try.prog.elem 68 = 91 := by kernel_rfl
  have hh := run_slice_h (P := Try.prog) w 68 none 0 0 (by rw [hel]; exact Try.underlying68) .i64 0 (by omega) (by omega)
  rw [hel, Try.sizeOf91] at hh
  simp only [Result.andThen, sliced] at hh
  exact hh
end Go.Proofs.Ytaklfiipkjfjdaa
