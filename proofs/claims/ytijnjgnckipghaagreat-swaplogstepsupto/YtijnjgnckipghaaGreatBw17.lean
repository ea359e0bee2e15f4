/- The contract of a file's left. A row of files that a call itself made: one more appended to it, and what it holds. The contract of Left. -/
import Derived.Test.YtijnjgnckipghaaGreatBw7
import Derived.Test.YtijnjgnckipghaaGreatBw11
import Derived.Deep.AppendLies
import Derived.Deep.RegionHeldLaw
namespace Go.Proofs.YtijnjgnckipghaaGreat
open Go.RowKit Go.Maps
theorem takeB_run (x o n cap i : Nat) (hi : i ≤ n) (hc : n ≤ cap) (w : World) : Sem.run Tryz.prog (Instr.slice 67 (.slice (some ⟨x, o, none⟩) n cap) none (some (.int .i64 (i : Int))) none) w = .ok (.slice (some ⟨x, o, none⟩) i cap) w := by
  have hel : Tryz.prog.elem 67 = 5 := by kernel_rfl
  have hh := run_slice_h (P := Tryz.prog) w 67 (some ⟨x, o, none⟩) n cap (by rw [hel]; exact Tryz.underlying67) .i64 i (by omega) (by omega)
  rw [hel, Tryz.sizeOf5] at hh
  simp only [Result.andThen, Int.toNat_natCast, sliced] at hh
  rw [hh]
  simp [Addr.add]
theorem takeB_none (w : World) : Sem.run Tryz.prog (Instr.slice 67 (.slice none 0 0) none (some (.int .i64 0)) none) w = .ok (.slice none 0 0) w := by
  have hel : Tryz.prog.elem 67 = 5 := by kernel_rfl
  have hh := run_slice_h (P := Tryz.prog) w 67 none 0 0 (by rw [hel]; exact Tryz.underlying67) .i64 0 (by omega) (by omega)
  rw [hel, Tryz.sizeOf5] at hh
  simp only [Result.andThen, sliced] at hh
  exact hh
/-- a slice of bytes cut at its end: what the cut is, and what it holds -/
theorem takeBd (W : World) (ao : Option Addr) (n cap : Nat) (bs : List UInt8) (h : HoldsB W (.slice ao n cap) bs) (hn : n = bs.length) (had : ∀ ad, ao = some ad → ∃ x, ad = ⟨x, 0, none⟩) (i : Nat) (hi : i ≤ n) :
    ∃ pa pc, (∀ w, Sem.run Tryz.prog (Instr.slice 67 (.slice ao n cap) none (some (.int .i64 (i : Int))) none) w = .ok (.slice pa i pc) w) ∧ HoldsB W (.slice pa i pc) (bs.take i) := by
  subst hn
  obtain ⟨ao', cap', e, h0, hcp, hc⟩ := id h
  simp only [Value.slice.injEq, true_and] at e
  obtain ⟨rfl, rfl⟩ := e
  refine ⟨ao, cap, fun w => ?_, holdsB_pre h i hi⟩
  cases ao with
  | none =>
    have hb : bs = [] := by
      apply Classical.byContradiction
      intro h
      obtain ⟨b, off, e, _⟩ := hc h
      cases e
    have hc0 := h0 rfl
    subst hc0 hb
    have : i = 0 := by simpa using hi
    subst this
    exact takeB_none w
  | some ad =>
    obtain ⟨x, rfl⟩ := had ad rfl
    exact takeB_run x 0 bs.length cap i hi hcp w
theorem own_addr {W : World} {ao : Option Addr} {n cap : Nat} {t : TypeId} {m : Nat} {xs : List Value} (h : W.ownsRow 0 t 1 (.slice ao n cap) m xs) : ∀ ad, ao = some ad → ∃ x, ad = ⟨x, 0, none⟩ := by
  intro ad e
  rcases h.2 with ⟨e1, _⟩ | ⟨x, c, cur, e1, _⟩
  · cases e1; cases e
  · cases e1
    exact ⟨x, (Option.some.inj e).symm⟩
set_option maxRecDepth 20000 in
set_option maxHeartbeats 4000000 in
theorem fleftC {o : Ow} {W : World} {b i : Nat} {bs : List UInt8} {sf : Nat} (h : FileAt o W b i bs sf) (hsf : sf ≤ bs.length) (kv : Value) (keep : List Int) (hk : HoldsI W kv keep) (hkb : ∀ z ∈ keep, -9223372036854775808 ≤ z ∧ z ≤ 9223372036854775807) (hl : bs.length ≤ 1000000000) (hi : i ≤ 1000000000) :
    Calls Tryz.prog 71 #[.pointer (some ⟨b, 0, none⟩), kv] W fun e W' => ∃ u, e = .returned u ∧ Own W u (bs.take (min bs.length (sf + (keep.getD i 0).toNat))) W' := by
  obtain ⟨ao, ca, fB, fR, fo, fw⟩ := file_slice h
  obtain ⟨⟨c0, c1, c2⟩, _⟩ := cells_3 fB
  have HH := hide' (row_holds0 fR)
  have HA := hide' (own_addr fR)
  obtain ⟨L, hL⟩ : ∃ L, L = bs.length := ⟨_, rfl⟩
  have HL := hide' hL
  obtain ⟨ka, kc, rfl, k0, kcp, kcell⟩ := hk
  obtain ⟨N, hN⟩ : ∃ N, N = keep.length := ⟨_, rfl⟩
  have HN := hide' hN
  rw [← hL] at c1 HH hsf hl fB
  have FB := hide' fB
  -- the end, whatever the number is
  have CC : Hid (∀ m : Nat, m ≤ L → ∃ pa pc, (∀ w, Sem.run Tryz.prog (Instr.slice 67 (.slice ao L ca) none (some (.int .i64 (m : Int))) none) w = .ok (.slice pa m pc) w) ∧ ∀ Wx, Below W.heap.size W Wx → Calls Tryz.prog 54 #[.slice pa m pc] Wx fun e w' => ∃ u, e = .returned u ∧ Hid (Own W u (bs.take m) w') ∧ w'.cell? ⟨b, 1, none⟩ = some (.slice ao L ca) ∧ w'.cell? ⟨b, 2, none⟩ = some (.int .i64 (sf : Int))) := by
    intro m hm
    obtain ⟨pa, pc, h1, h2⟩ := takeBd W ao L ca bs HH.out HL.out (by intro ad e; exact HA.out ad e) m hm
    refine ⟨pa, pc, h1, fun Wx hb => ?_⟩
    refine (bcloneC _ _ Wx (holdsB_mono h2 hb) (by rw [List.length_take]; omega)).mono ?_
    rintro e w' ⟨u, rfl, ho⟩
    have q := own_base ho hb
    obtain ⟨⟨_, q1, q2⟩, _⟩ := cells_3 (cells_below FB.out q.2)
    exact ⟨u, rfl, q, q1, q2⟩
  clear fR fB fo fw h
  by_cases hik : i < N
  · have hik' : i < keep.length := by rw [← HN.out]; exact hik
    obtain ⟨kb, ko, rfl, klt, kc2⟩ := kcell (fun e => by rw [e] at hik'; simp at hik')
    have kx := kc2 i hik'
    have kr := hkb _ (List.getElem_mem hik')
    have eg : keep.getD i 0 = keep[i]'hik' := by simp [List.getD, hik']
    have hmx : ∃ mm : Nat, ((mm : Nat) : Int) = max 0 (min (keep[i]'hik') ((L : Int) - (sf : Int))) ∧ sf + mm = min L (sf + (keep.getD i 0).toNat) := by
      refine ⟨(max 0 (min (keep[i]'hik') ((L : Int) - (sf : Int)))).toNat, by omega, ?_⟩
      rw [eg]
      omega
    obtain ⟨mm, hm1, hm2⟩ := hmx
    have hle : sf + mm ≤ L := by rw [hm2]; exact Nat.min_le_left _ _
    obtain ⟨M, hM⟩ : ∃ M, M = sf + mm := ⟨_, rfl⟩
    rw [← hM] at hle
    obtain ⟨pa, pc, sl, CL⟩ := CC.out M hle
    have E : Hid (bs.take (min bs.length (sf + (keep.getD i 0).toNat)) = bs.take M) := by unfold Hid; rw [← HL.out, ← hm2, hM]
    have CLH := hide' CL
    rw [← hN]
    generalize keep[i]'hik' = kk at kx kr hm1
    have CU : Hid (∀ n, Calls Tryz.prog 70 #[.int .i64 kk, .int .i64 ((L : Int) - (sf : Int))] (W.drewN n) fun e w' => e = .returned (.int .i64 (mm : Int)) ∧ w' = W.drewN n) := fun n => by have := upToC kk ((L : Int) - (sf : Int)) (W.drewN n); rw [← hm1] at this; exact this
    have qi : ((i : Nat) : Int) < ((N : Nat) : Int) := by omega
    have qw : IntKind.i64.wrap ((L : Int) - (sf : Int)) = (L : Int) - (sf : Int) := wrap_small _ (by omega) (by omega)
    have qw2 : IntKind.i64.wrap ((sf : Int) + (mm : Int)) = (M : Int) := by rw [wrap_small _ (by omega) (by omega)]; omega
    have q0 : (0 : Int) ≤ (i : Int) := by omega
    clear kcell kc2 hkb hm1 hm2 CL eg hN hL k0 kcp hM
    go_enter Tryz.func71, Tryz.ntmps71
    go_wp2_with fail
    go_quiet (first | (go_at_call 70; refine Calls.quiet_of_same (CU.out _)))
    go_wp2_with fail
    go_region_held3 (fun w' => w'.cell? ⟨b, 1, none⟩ = some (.slice ao L ca) ∧ w'.cell? ⟨b, 2, none⟩ = some (.int .i64 (sf : Int))) (go_keep) (first | (go_at_call 54; refine (CLH.out _ ?_).mono ?_; (first | exact below_drewN _ _ | exact (below_drewN _ _).drew); rintro e w2 ⟨u, rfl, HO, k1, k2⟩))
    all_goals
      go_wp2_with fail
      go_ret
      rw [E.out]
      exact ⟨u, rfl, HO.out⟩
  · have eg : keep.getD i 0 = 0 := by
      have : keep.length ≤ i := by rw [← HN.out]; omega
      simp [List.getD, List.getElem?_eq_none this]
    have E : Hid (bs.take (min bs.length (sf + (keep.getD i 0).toNat)) = bs.take sf) := by unfold Hid; rw [eg, ← HL.out]; congr 1; omega
    obtain ⟨pa, pc, sl, CL⟩ := CC.out sf hsf
    have CLH := hide' CL
    rw [← hN]
    have qi : ¬ ((i : Nat) : Int) < ((N : Nat) : Int) := by omega
    have qw2 : IntKind.i64.wrap (sf : Int) = (sf : Int) := wrap_small _ (by omega) (by omega)
    clear kcell hkb CL eg hN hL k0 kcp
    go_enter Tryz.func71, Tryz.ntmps71
    go_wp2_with fail
    go_region_held3 (fun w' => w'.cell? ⟨b, 1, none⟩ = some (.slice ao L ca) ∧ w'.cell? ⟨b, 2, none⟩ = some (.int .i64 (sf : Int))) (go_keep) (first | (go_at_call 54; refine (CLH.out _ ?_).mono ?_; (first | exact Below.refl _ _ | exact (Below.refl _ _).drew); rintro e w2 ⟨u, rfl, HO, k1, k2⟩))
    all_goals
      go_wp2_with fail
      go_ret
      rw [E.out]
      exact ⟨u, rfl, HO.out⟩
end Go.Proofs.YtijnjgnckipghaaGreat
namespace Go.Proofs.YtijnjgnckipghaaGreat
open Go.RowKit Go.Maps
theorem Tryz.info69 : (Tryz.prog.info? 69).map (fun i => (i.zero, i.size, i.bytes)) = some (some (.agg #[.string ⟨#[]⟩, .slice none 0 0]), 2, 40) := by kernel_rfl
theorem holdsB_sub {M W : World} (h : Sub M W) {v : Value} {bs : List UInt8} (hb : HoldsB M v bs) : HoldsB W v bs := by
  obtain ⟨ao, cap, rfl, h0, hcp, hc⟩ := hb
  refine ⟨ao, cap, rfl, h0, hcp, fun hne => ?_⟩
  obtain ⟨b, off, rfl, hlt, hcell⟩ := hc hne
  exact ⟨b, off, rfl, Nat.lt_of_lt_of_le hlt h.size, fun j hj => h.cell _ _ (hcell j hj)⟩
theorem holdsFi_sub {M W : World} (h : Sub M W) {v : Value} {fs : FL} (hb : HoldsFi M v fs) : HoldsFi W v fs := by
  obtain ⟨ao, cap, rfl, h0, hcp, hc⟩ := hb
  refine ⟨ao, cap, rfl, h0, hcp, fun hne => ?_⟩
  obtain ⟨b, off, rfl, hlt, hcell⟩ := hc hne
  refine ⟨b, off, rfl, Nat.lt_of_lt_of_le hlt h.size, fun j hj => ?_⟩
  obtain ⟨h1, u, h2, h3⟩ := hcell j hj
  exact ⟨h.cell _ _ h1, u, h.cell _ _ h2, holdsB_sub h h3⟩
theorem holds_sub {M W : World} (h : Sub M W) {v : Value} {ss : List (List UInt8)} (hb : Holds M v ss) : Holds W v ss := by
  obtain ⟨ao, cap, rfl, hc⟩ := hb
  refine ⟨ao, cap, rfl, fun hne => ?_⟩
  obtain ⟨b, off, rfl, hlt, hcell⟩ := hc hne
  exact ⟨b, off, rfl, Nat.lt_of_lt_of_le hlt h.size, fun j hj => h.cell _ _ (hcell j hj)⟩
theorem holdsI_sub {M W : World} (h : Sub M W) {v : Value} {zs : List Int} (hb : HoldsI M v zs) : HoldsI W v zs := by
  obtain ⟨ao, cap, rfl, h0, hcp, hc⟩ := hb
  refine ⟨ao, cap, rfl, h0, hcp, fun hne => ?_⟩
  obtain ⟨b, off, rfl, hlt, hcell⟩ := hc hne
  exact ⟨b, off, rfl, Nat.lt_of_lt_of_le hlt h.size, fun j hj => h.cell _ _ (hcell j hj)⟩
/-- a row that was made is told where all that was there is hidden -/
theorem own_mask {w0 w : World} {v : Value} {bs : List UInt8} {n : Nat} (h : Own w0 v bs w) (hn : n ≤ w0.heap.size) : HoldsB (mask (fun k => k < n) w) v bs := by
  obtain ⟨ao, cap, rfl, h0, hcp, hc⟩ := holdsB_own h
  refine ⟨ao, cap, rfl, h0, hcp, fun hne => ?_⟩
  obtain ⟨b, off, rfl, hlt, hcell⟩ := hc hne
  have hb : w0.heap.size ≤ b := (h.1.lt b rfl).1
  exact ⟨b, off, rfl, by rw [mask_size]; exact hlt, fun j hj => by rw [mask_cell w (show ¬ (⟨b, off + j, none⟩ : Addr).block < n by show ¬ b < n; omega)]; exact hcell j hj⟩
theorem ownS_mask {w0 w : World} {v : Value} {ss : List (List UInt8)} {n : Nat} (h : OwnS w0 v ss w) (hn : n ≤ w0.heap.size) : Holds (mask (fun k => k < n) w) v ss := by
  obtain ⟨ao, cap, rfl, hc⟩ := holds_own h
  refine ⟨ao, cap, rfl, fun hne => ?_⟩
  obtain ⟨b, off, rfl, hlt, hcell⟩ := hc hne
  have hb : w0.heap.size ≤ b := (h.1.lt b rfl).1
  exact ⟨b, off, rfl, by rw [mask_size]; exact hlt, fun j hj => by rw [mask_cell w (show ¬ (⟨b, off + j, none⟩ : Addr).block < n by show ¬ b < n; omega)]; exact hcell j hj⟩
def cellsFi : List (Nm × Value) → List Value
  | [] => []
  | p :: r => S p.1 :: p.2 :: cellsFi r
theorem cellsFi_len (l : List (Nm × Value)) : (cellsFi l).length = l.length * 2 := by
  induction l with
  | nil => rfl
  | cons p r ih => simp only [cellsFi, List.length_cons, ih]; omega
theorem cellsFi_app (a b : List (Nm × Value)) : cellsFi (a ++ b) = cellsFi a ++ cellsFi b := by
  induction a with
  | nil => rfl
  | cons p r ih => simp only [List.cons_append, cellsFi, ih]
theorem cellsFi_at : ∀ (l : List (Nm × Value)) (j : Nat) (h : j < l.length), (cellsFi l)[j * 2]? = some (S l[j].1) ∧ (cellsFi l)[j * 2 + 1]? = some l[j].2 := by
  intro l
  induction l with
  | nil => intro j h; cases h
  | cons p r ih =>
    intro j h
    cases j with
    | zero => exact ⟨rfl, rfl⟩
    | succ j =>
      have := ih j (by simpa using h)
      have e : (j + 1) * 2 = j * 2 + 2 := by omega
      rw [e]
      exact this
/-- v holds just the files fs, in memory that is new since n0 -/
def FilW (n0 : Nat) (v : Value) (fs : FL) (w : World) : Prop := ∃ ps : List (Nm × Value), w.ownsRow n0 69 2 v ps.length (cellsFi ps) ∧ ps.length = fs.length ∧
  ∀ (i : Nat) (p : Nm × Value) (f : List UInt8 × List UInt8), ps[i]? = some p → fs[i]? = some f → p.1 = f.1 ∧ HoldsB (mask (fun k => k < n0 ∨ v.ownBlock = some k) w) p.2 f.2
theorem fil_nil (n0 : Nat) (w : World) : FilW n0 (.slice none 0 0) [] w := ⟨[], World.ownsRow_nil _ _ _ _, rfl, fun i p f e => by simp at e⟩
theorem fil_below {n0 : Nat} {v : Value} {fs : FL} {w w' : World} (h : FilW n0 v fs w) (hb : Below w.heap.size w w') : FilW n0 v fs w' := by
  obtain ⟨ps, h1, h2, h3⟩ := h
  refine ⟨ps, row_below h1 hb, h2, fun i p f e1 e2 => ?_⟩
  obtain ⟨q1, q2⟩ := h3 i p f e1 e2
  exact ⟨q1, holdsB_sub (off_mask (S := fun k => k < n0 ∨ v.ownBlock = some k) (off_of hb) (fun k hk => .inl hk)) q2⟩
theorem fil_app {n0 : Nat} {v : Value} {fs : FL} {w1 w' : World} {g cap : Nat} {nm : Nm} {dv : Value} {d : List UInt8} (hd : HoldsB (mask (fun k => k < n0 ∨ v.ownBlock = some k) w1) dv d)
    (ps : List (Nm × Value)) (hps : w1.ownsRow n0 69 2 v ps.length (cellsFi ps) ∧ ps.length = fs.length ∧ ∀ (i : Nat) (p : Nm × Value) (f : List UInt8 × List UInt8), ps[i]? = some p → fs[i]? = some f → p.1 = f.1 ∧ HoldsB (mask (fun k => k < n0 ∨ v.ownBlock = some k) w1) p.2 f.2)
    (hr : w'.ownsRow n0 69 2 (.slice (some ⟨g, 0, none⟩) (ps.length + 1) cap) (ps.length + 1) (cellsFi ps ++ [S nm, dv])) (hg : w1.grownBy w' v.ownBlock) (hat : v.ownBlock = some g ∨ g = w1.heap.size) : FilW n0 (.slice (some ⟨g, 0, none⟩) (ps.length + 1) cap) (fs ++ [(nm, d)]) w' := by
  obtain ⟨_, h2, h3⟩ := hps
  have hsub : Sub (mask (fun k => k < n0 ∨ v.ownBlock = some k) w1) (mask (fun k => k < n0 ∨ (Value.slice (some ⟨g, 0, none⟩) (ps.length + 1) cap).ownBlock = some k) w') := by
    refine off_mask (S := fun k => k < n0 ∨ v.ownBlock = some k) (off_grown hg (fun k e => .inr e)) (fun k hk => ?_)
    rcases hk with hk | hk
    · exact .inl (.inl hk)
    · have e : g = k := Option.some.inj hk
      rcases hat with hat | hat
      · left; right; rw [hat, e]
      · right; omega
  refine ⟨ps ++ [(nm, dv)], ?_, by simp [h2], fun i p f e1 e2 => ?_⟩
  · rw [List.length_append, cellsFi_app]
    exact hr
  · rcases Nat.lt_or_ge i ps.length with hi | hi
    · rw [List.getElem?_append_left hi] at e1
      rw [List.getElem?_append_left (by omega)] at e2
      obtain ⟨q1, q2⟩ := h3 i p f e1 e2
      exact ⟨q1, holdsB_sub hsub q2⟩
    · rw [List.getElem?_append_right hi] at e1
      rw [List.getElem?_append_right (by omega)] at e2
      have ez : i - ps.length = 0 := by
        rcases Nat.eq_zero_or_pos (i - ps.length) with h0 | h0
        · exact h0
        · rw [List.getElem?_eq_none (by simp; omega)] at e1; cases e1
      have ez2 : i - fs.length = 0 := by omega
      rw [ez] at e1
      rw [ez2] at e2
      simp only [List.getElem?_cons_zero, Option.some.injEq] at e1 e2
      subst e1 e2
      exact ⟨rfl, holdsB_sub hsub hd⟩
theorem fil_holds {n0 : Nat} {v : Value} {fs : FL} {w : World} (h : FilW n0 v fs w) : HoldsFi (mask (fun k => k < n0) w) v fs := by
  obtain ⟨ps, hr, h2, h3⟩ := h
  rcases hr.2 with ⟨rfl, hn⟩ | ⟨x, cap, cur, rfl, hx, hh, hrr⟩
  · obtain rfl : fs = [] := List.eq_nil_of_length_eq_zero (by omega)
    exact ⟨none, 0, rfl, fun _ => rfl, Nat.le_refl _, fun h => absurd rfl h⟩
  · refine ⟨some ⟨x, 0, none⟩, cap, by rw [h2], fun e => (by cases e), by have := hrr.1; omega, fun _ => ⟨x, 0, rfl, ?_, fun j hj => ?_⟩⟩
    · rw [mask_size]; exact (hr.lt x rfl).2
    · have hj' : j < ps.length := by omega
      obtain ⟨q1, q2⟩ := h3 j (ps[j]'hj') (fs[j]'hj) (by simp [hj']) (by simp [hj])
      obtain ⟨a1, a2⟩ := cellsFi_at ps j hj'
      have hm : ¬ (x < n0) := by omega
      have c1 : w.cell? ⟨x, 0 + j * 2, none⟩ = some (S (ps[j]'hj').1) := by rw [Nat.zero_add, hr.cellAt (j * 2) (by omega)]; exact a1
      have c2 : w.cell? ⟨x, 0 + j * 2 + 1, none⟩ = some (ps[j]'hj').2 := by rw [Nat.zero_add, hr.cellAt (j * 2 + 1) (by omega)]; exact a2
      refine ⟨by rw [mask_cell w (a := ⟨x, 0 + j * 2, none⟩) hm, c1, q1], (ps[j]'hj').2, by rw [mask_cell w (a := ⟨x, 0 + j * 2 + 1, none⟩) hm]; exact c2, ?_⟩
      exact holdsB_sub (mask_mono (fun k hk => .inl hk)) q2
theorem mcloneC {W : World} {m : Nat} {fb : Nat → Nat} {l : NL} (h : Tbl W m fb l) : Calls Tryz.prog 56 #[.map (some m)] W fun e w' => e = .returned (.map (some W.heap.size)) ∧ Tbl w' W.heap.size fb l ∧ Below W.heap.size W w' :=
  (AnyW.maps_Clone_owns Tryz.mclone 9 pel m l.length (dOf fb l) W h).mono (fun _ _ ⟨h1, h2, _, h4⟩ => ⟨h1, h2, h4⟩)
theorem takeC_run (x n cap i : Nat) (hi : i ≤ n) (hc : n ≤ cap) (w : World) : Sem.run Tryz.prog (Instr.slice 105 (.slice (some ⟨x, 0, none⟩) n cap) none (some (.int .i64 (i : Int))) none) w = .ok (.slice (some ⟨x, 0, none⟩) i cap) w := by
  have hel : Tryz.prog.elem 105 = 125 := by kernel_rfl
  have hh := run_slice_h (P := Tryz.prog) w 105 (some ⟨x, 0, none⟩) n cap (by rw [hel]; exact Tryz.underlying105) .i64 i (by omega) (by omega)
  rw [hel, Tryz.sizeOf125] at hh
  simp only [Result.andThen, Int.toNat_natCast, sliced] at hh
  rw [hh]
  simp [Addr.add]
theorem takeC_none (w : World) : Sem.run Tryz.prog (Instr.slice 105 (.slice none 0 0) none (some (.int .i64 0)) none) w = .ok (.slice none 0 0) w := by
  have hel : Tryz.prog.elem 105 = 125 := by kernel_rfl
  have hh := run_slice_h (P := Tryz.prog) w 105 none 0 0 (by rw [hel]; exact Tryz.underlying105) .i64 0 (by omega) (by omega)
  rw [hel, Tryz.sizeOf125] at hh
  simp only [Result.andThen, sliced] at hh
  exact hh
end Go.Proofs.YtijnjgnckipghaaGreat
namespace Go.Proofs.YtijnjgnckipghaaGreat
open Go.RowKit Go.Maps
/-- a number of the first changes, and the cut of the slice -/
theorem takeC {W : World} {pa : Option Addr} {n pc : Nat} {vs : List Value} (h : W.ownsRow 0 125 1 (.slice pa n pc) n vs) (i : Nat) (hi : i ≤ n) : ∀ w, Sem.run Tryz.prog (Instr.slice 105 (.slice pa n pc) none (some (.int .i64 (i : Int))) none) w = .ok (.slice pa i pc) w := by
  intro w
  rcases h.2 with ⟨e, hn⟩ | ⟨x, cap, cur, e, _, _, hr⟩
  · cases e
    obtain rfl : i = 0 := by omega
    exact takeC_none w
  · cases e
    exact takeC_run x n pc i hi hr.1 w
theorem tbl_below {W W' : World} {m : Nat} {fb : Nat → Nat} {l : NL} (h : Tbl W m fb l) (hb : Below W.heap.size W W') : Tbl W' m fb l := by
  have hlt := World.ownsMap.lt h
  obtain ⟨es, clock, hh, F, hn, hD⟩ := h
  exact ⟨es, clock, by rw [hb.block m hlt]; exact hh, F, hn, hD⟩
theorem firm_cnt {s : Dk} (h : Wf s) (i : Nat) : s.firm.getD i 0 ≤ (s.data.getD i []).length := h.firm i
/-- the files of some names, one by one -/
theorem step_appFi {ops : Array Oper} {o : Oper} {a : Act} {K : Act → World → Prop} {Q : Exit → Act → World → Prop} {E : Prop} {wl : World} {y : ByteArray} {dv : Value} (hgd : o.guard = none) (s x : Operand)
    (ho : o.op = .call { callee := .builtin .append, args := #[s, x], argTypes := #[22, 22] }) (n0 : Nat) (v : Value) (j : Nat) (ps : List (Nm × Value)) (hs : a.eval s = v) (hown : (wl.alloc (.cells #[.string y, dv] 69)).ownsRow n0 69 2 v j (cellsFi ps))
    (hx : a.eval x = .slice (some ⟨wl.heap.size, 0, none⟩) 1 1) (h1 : dv.oneCell' = true) (hj : j ≤ 1000000000) (hn0 : n0 ≤ wl.heap.size)
    (h : ∀ g cap w', w'.ownsRow n0 69 2 (.slice (some ⟨g, 0, none⟩) (j + 1) cap) (j + 1) (cellsFi ps ++ [.string y, dv]) → (wl.alloc (.cells #[.string y, dv] 69)).grownBy w' v.ownBlock → (v.ownBlock = some g ∨ g = wl.heap.size + 1) → K (a.put o.dst (.slice (some ⟨g, 0, none⟩) (j + 1) cap)) w') :
    if Region.wanted o (yielded ops a.tmps) = true then Oper.wp Tryz.prog o a (wl.alloc (.cells #[.string y, dv] 69)) K Q else E := by
  obtain ⟨i0, hi, hz0, hz1, hz2⟩ := info_parts Tryz.info69
  refine step_append_lies _ hgd s x 22 ho n0 69 i0 (.agg #[.string ⟨#[]⟩, .slice none 0 0]) 2 40 Tryz.underlying22 hi hz0 hz1 hz2 rfl (by decide) v j (cellsFi ps) hs hown ⟨wl.heap.size, 0, none⟩ 1 1 [.string y, dv] hx rfl ?_ ?_ (by decide) (by unfold maxLen; omega) (by omega) (by simp; omega) (wl.heap.size + 1) (by simp) (fun g cap w' r1 r2 r3 _ => h g cap w' r1 r2 r3)
  · intro i u hu
    match i, hu with
    | 0, hu => simp at hu; subst hu; simp [Addr.add]
    | 1, hu => simp at hu; subst hu; simp [Addr.add]
  · intro u hu
    simp only [List.mem_cons, List.not_mem_nil, or_false] at hu
    rcases hu with rfl | rfl
    · rfl
    · exact h1
def filesOf (s : Dk) (keep : List Int) (l : NL) : FL := l.map (fun p => (p.1, (s.data.getD p.2 []).take (leftLen s keep p.2)))
theorem files_step (s : Dk) (keep : List Int) (l : NL) (j : Nat) (h : j < l.length) : filesOf s keep (l.take (j + 1)) = filesOf s keep (l.take j) ++ [((l[j]).1, (s.data.getD (l[j]).2 []).take (leftLen s keep (l[j]).2))] := by
  unfold filesOf
  rw [List.take_succ_eq_append_getElem h, List.map_append]
  rfl
theorem left_step (s : Dk) (keep : List Int) (l : NL) (j : Nat) (h : j < l.length) : (l.take (j + 1)).map (fun p => (p.1, (s.data.getD p.2 []).take (leftLen s keep p.2))) = (l.take j).map (fun p => (p.1, (s.data.getD p.2 []).take (leftLen s keep p.2))) ++ [((l[j]).1, (s.data.getD (l[j]).2 []).take (leftLen s keep (l[j]).2))] := by
  rw [List.take_succ_eq_append_getElem h, List.map_append]
  rfl
set_option maxRecDepth 20000 in
set_option maxHeartbeats 8000000 in
theorem leftC {o : Ow} {g : Nat} {s : Dk} {W : World} (h : Dsk o g s W) (k : Int) (kv : Value) (keep : List Int) (hk : HoldsI W kv keep) (hkr : -9223372036854775808 ≤ k ∧ k ≤ 9223372036854775807) (hkb : ∀ z ∈ keep, -9223372036854775808 ≤ z ∧ z ≤ 9223372036854775807) (hB : Bd 90000000 s) :
    Calls Tryz.prog 37 #[.pointer (some ⟨g, 0, none⟩), .agg #[.int .i64 k, kv]] W fun e W' => ∃ v, e = .returned v ∧ HoldsFi (mask (fun x => x < W.heap.size) W') v (s.left k keep) ∧ Below W.heap.size W W' := by
  obtain ⟨m0, m1, m2, pv, fb, cs, v⟩ := h
  obtain ⟨vs, hr, hch, hpw⟩ := v.pend
  obtain ⟨pa, pc, hpv⟩ := row_sl hr
  subst hpv
  obtain ⟨ka, kc, hkv, _⟩ := id hk
  subst hkv
  have hcl : cs.length ≤ 90000000 := by have h1 := v.sc.1; have h2 := hB.2.2.2.2.1; rw [h1, scan_len] at h2; omega
  have hsl : s.safe.length ≤ 900000000 := by have := hB.2.2.2.1; omega
  -- how many changes are done
  obtain ⟨q, hq1, hq2⟩ : ∃ q : Nat, ((q : Nat) : Int) = max 0 (min k ((cs.length : Nat) : Int)) ∧ q = min k.toNat cs.length := ⟨min k.toNat cs.length, by omega, rfl⟩
  have hqn : q ≤ cs.length := by omega
  have SL := takeC hr q hqn
  have hng : W.heap.size ≠ g := by have := v.blk.2; omega
  -- the fate's block
  have b0 := below_alloc' W (.cells #[.int .i64 k, .slice ka keep.length kc] 28)
  have z0 : (W.alloc (.cells #[.int .i64 k, .slice ka keep.length kc] 28)).heap.size = W.heap.size + 1 := by simp
  have F0 : Blk W.heap.size (W.alloc (.cells #[.int .i64 k, .slice ka keep.length kc] 28)) [.int .i64 k, .slice ka keep.length kc] := by simpa using cells_lit W #[.int .i64 k, .slice ka keep.length kc] 28
  have V0 := dkV_below v b0
  have CM := hide' (mcloneC V0.safe)
  have V := hide' v
  have B0 := hide' b0
  have HF0 := hide' F0
  have HK := hide' hk
  have HKB := hide' hkb
  have HB := hide' hB
  have HSP : Hid (s.left k keep = (appAll (cs.take q) s.safe).map (fun p => (p.1, (s.data.getD p.2 []).take (leftLen s keep p.2)))) := by
    unfold Hid Dk.left
    rw [left_names v.sc k, hq2]
  have hwn : WfN s (appAll (cs.take q) s.safe) := by
    have := leftNames_wf v.wf k
    rw [left_names v.sc k, ← hq2] at this
    exact this
  have HWN := hide' hwn
  obtain ⟨n, hn⟩ : ∃ n, n = cs.length := ⟨_, rfl⟩
  have HN := hide' hn
  have HR := hide' hr
  have HCH := hide' hch
  have HPW := hide' hpw
  have c6 := (cells_eight V0.blk).1.2.2.2.2.2.2.1
  have c7 := (cells_eight V0.blk).1.2.2.2.2.2.2.2
  rw [← hn] at c7 hq1 hqn SL hcl
  obtain ⟨N, hNk⟩ : ∃ N, N = keep.length := ⟨_, rfl⟩
  have HNK := hide' hNk
  rw [← hNk] at HF0 HK CM B0 c6 c7 ⊢
  clear v V0 hr hch hpw hk hkb hB hwn F0 b0 z0 hn hNk hq2
  go_enter Tryz.func37, Tryz.ntmps37
  go_wp2_with fail
  refine CM.out.mono ?_
  rintro e w1 ⟨rfl, hT1, hb1⟩
  have V1 := hide' (dkV_below (dkV_below V.out B0.out) hb1)
  have F1 := hide' (cells_below HF0.out hb1)
  have T1 := hide' hT1
  have BW1 := hide' (B0.out.trans (hb1.mono B0.out.size))
  obtain ⟨M, hM⟩ : ∃ M, M = (W.alloc (.cells #[.int .i64 k, .slice ka N kc] 28)).heap.size := ⟨_, rfl⟩
  have HM := hide' hM
  rw [← hM] at T1 ⊢
  have hMW : W.heap.size < M := by rw [hM]; simp
  clear hT1 hb1 hM c6 c7
  have c7 := (cells_eight V1.out.blk).1.2.2.2.2.2.2.2
  have e0 := (F1.out.1 0 (by simp)).1
  have e1 := (F1.out.1 1 (by simp)).1
  simp only [List.getElem_cons_zero, List.getElem_cons_succ] at e0 e1
  rw [← HN.out] at c7
  have CU : Hid (∀ x, Calls Tryz.prog 70 #[.int .i64 k, .int .i64 (n : Int)] (w1.drewN x) fun e w' => e = .returned (.int .i64 (q : Int)) ∧ w' = w1.drewN x) := fun x => by have := upToC k (n : Int) (w1.drewN x); rw [← hq1] at this; exact this
  clear hq1
  go_wp2_with fail
  go_quiet (first | (go_at_call 70; refine Calls.quiet_of_same (CU.out _)))
  have V2 := hide' (dkV_drew V1.out nq)
  have F2 := hide' (cells_below F1.out (below_drewN w1 nq))
  have T2 : Hid (Tbl (w1.drewN nq) M fb s.safe) := T1.out
  have BW2 := hide' (BW1.out.trans ((below_drewN w1 nq).mono BW1.out.size))
  have hM2 : M < (w1.drewN nq).heap.size := T2.out.lt
  have HR2 : Hid ((w1.drewN nq).ownsRow 0 125 1 (.slice pa cs.length pc) cs.length vs ∧ ∀ i (h : i < cs.length), ∃ v, vs[i]? = some v ∧ ChgV o fb (w1.drewN nq) v cs[i]) := by
    have sm := same_below (o := o) (R := fun _ => True) BW2.out V.out.lt
    exact ⟨row_same HR.out sm HPW.out trivial, fun i hi => by obtain ⟨v, e1, e2⟩ := HCH.out i hi; exact ⟨v, e1, chg_same e2 sm trivial⟩⟩
  clear c7 e0 e1 V1 F1 T1 BW1 CU SL HR HCH
  generalize w1.drewN nq = w2 at V2 F2 T2 BW2 HR2 hM2 ⊢
  have hoM : o M = none := none_of_lt V.out.lt (by omega)
  -- where the changes lie, whatever was done to the new table
  have CELL : Hid (∀ wr j (hj : j < cs.length), w2.grownBy wr (some M) → ∃ pb cv, pa = some ⟨pb, 0, none⟩ ∧ wr.cell? ⟨pb, j, none⟩ = some cv ∧ ChgV o fb wr cv cs[j]) := fun wr j hj h => by
    have hs : Same o (fun _ => True) w2 wr := same_new h V2.out.lt (.inr hoM)
    obtain ⟨cv, e1, e2⟩ := HR2.out.2 j hj
    have hr2 := row_same HR2.out.1 hs HPW.out trivial
    rcases hr2.2 with ⟨_, e⟩ | ⟨x, cap, cur, hv, _⟩
    · omega
    · cases hv
      refine ⟨x, cv, rfl, ?_, chg_same e2 hs trivial⟩
      rw [hr2.cellAt j (by omega)]
      exact e1
  have hcap : ∀ b, o b = some .cap → b ≠ M := fun b e e2 => by rw [e2, hoM] at e; cases e
  go_wp2_with fail
  go_loopw [7, 30] (fun _ i wr => ∃ j : Nat, j ≤ q ∧ i = .int .i64 j ∧ Hid (Tbl wr M fb (appAll (cs.take j) s.safe)) ∧ Hid (w2.grownBy wr (some M))) (fun _ i _ => q - (intOf i).toNat)
  case atStart => exact ⟨0, by omega, rfl, T2, ⟨rfl, rfl, rfl, Nat.le_refl _, fun _ _ _ => rfl⟩⟩
  case round =>
    obtain ⟨j, hj, rfl, HT, HG⟩ := hrel
    by_cases hlt' : j < q
    · have hlt : j < cs.length := by have := HN.out; omega
      obtain ⟨pb, cv, hpa, hcell, hcv⟩ := CELL.out wr j hlt HG.out
      have hbd := app_bound cs s.safe j hsl (by have := HN.out; omega)
      subst hpa
      rcases chg_cases hcv with ⟨x, k1, bf, bn, hc, hl, rfl, h1, h2, o1, o2⟩ | ⟨x, bn, hc, hl, rfl, h2, o2⟩ | ⟨x, y, k1, ba, bf, bb, hc, l1, l2, rfl, h1, h2, h3, o1, o2, o3⟩
      · have CC := hide' (putC HT.out hbd hl h1 h2)
        have CJ := hide' hc
        clear hcv h1 h2 o1 o2 hl hc
        go_wp2_with (go_at_call 76; refine CC.out.mono ?_; rintro e w4 ⟨rfl, t2, g2⟩; have T4 := hide' t2; have G4 := hide' (HG.out.andThen g2 (fun x hx => .inr hx)); clear t2 g2)
        go_roundw
        case rel => exact ⟨j + 1, by omega, by go_num, by unfold Hid; rw [take_succ_app cs s.safe j hlt, CJ.out]; exact T4.out, G4⟩
        case measure => simp [intOf]; omega
      · have CC := hide' (delC HT.out hl h2)
        have CJ := hide' hc
        clear hcv h2 o2 hl hc
        go_wp2_with (go_at_call 95; refine CC.out.mono ?_; rintro e w4 ⟨rfl, t2, g2⟩; have T4 := hide' t2; have G4 := hide' (HG.out.andThen g2 (fun x hx => .inr hx)); clear t2 g2)
        go_roundw
        case rel => exact ⟨j + 1, by omega, by go_num, by unfold Hid; rw [take_succ_app cs s.safe j hlt, CJ.out]; exact T4.out, G4⟩
        case measure => simp [intOf]; omega
      · have CC := hide' (mvC HT.out hbd l1 l2 h1 h2 h3 (hcap bf o2) (hcap bb o3))
        have CJ := hide' hc
        clear hcv h1 h2 h3 o1 o2 o3 l1 l2 hc
        go_wp2_with (go_at_call 101; refine CC.out.mono ?_; rintro e w4 ⟨rfl, t2, g2⟩; have T4 := hide' t2; have G4 := hide' (HG.out.andThen g2 (fun x hx => .inr hx)); clear t2 g2)
        go_roundw
        case rel => exact ⟨j + 1, by omega, by go_num, by unfold Hid; rw [take_succ_app cs s.safe j hlt, CJ.out]; exact T4.out, G4⟩
        case measure => simp [intOf]; omega
    · have ej : j = q := by omega
      rw [ej] at HT
      clear ej
      have V3 := hide' (dkV_off V2.out (off_grown (S := fun k => k = M) HG.out (fun k e => (Option.some.inj e).symm)) (fun k e => by rw [e]; exact hoM))
      have F3 : Hid (Blk W.heap.size wr [.int .i64 k, .slice ka N kc]) := by
        have e := HG.out.block W.heap.size F2.out.2 (fun e => by have := Option.some.inj e; omega)
        exact ⟨fun i hi => ⟨by rw [World.cell?_of_block (w := w2) (a := ⟨W.heap.size, i, none⟩) e]; exact (F2.out.1 i hi).1, by rw [World.frozen?_of_block (w := w2) (a := ⟨W.heap.size, i, none⟩) e]; exact (F2.out.1 i hi).2⟩, Nat.lt_of_lt_of_le F2.out.2 HG.out.size⟩
      have BW3 : Hid (Below W.heap.size W wr) := BW2.out.trans ⟨HG.out.os, HG.out.tape, HG.out.output, HG.out.size, fun i hi => HG.out.block i (by have := BW2.out.size; omega) (fun e => by have := Option.some.inj e; omega)⟩
      have CR := hide' (risingC HT.out HWN.out.1 (by have h1 := app_bound cs s.safe q hsl (by have := HN.out; omega); exact h1))
      have hll := app_bound cs s.safe q hsl (by have := HN.out; omega)
      generalize appAll (cs.take q) s.safe = l at HT HWN HSP CR hll
      go_wp2_with fail
      refine CR.out.mono ?_
      rintro e w3 ⟨lv, rfl, ho⟩
      have HO : Hid (OwnS wr lv (l.map (fun p => p.1)) w3) := ho
      have V4 := hide' (dkV_below V3.out ho.2)
      have F4 := hide' (cells_below F3.out ho.2)
      have T4 := hide' (tbl_below HT.out ho.2)
      have BW4 := hide' (BW3.out.trans (ho.2.mono BW3.out.size))
      have HK4 := hide' (holdsI_mono HK.out (BW3.out.trans (ho.2.mono BW3.out.size)))
      have hWs : W.heap.size < w3.heap.size := F4.out.2
      clear ho V3 F3 HT BW3 CR HG
      by_cases hz : l = []
      · obtain ⟨la, lc, hlv⟩ := row_sl HO.out.1
        have e0 : (l.map (fun p => p.1)).length = 0 := by rw [hz]; rfl
        rw [e0] at hlv
        subst hlv
        have E : Hid (s.left k keep = []) := by unfold Hid; rw [HSP.out, hz]; rfl
        clear hz e0 hll
        go_wp2_with fail
        go_rounds 1
        go_ret
        rw [E.out]
        exact ⟨_, rfl, ⟨none, 0, rfl, fun _ => rfl, Nat.le_refl _, fun h => absurd rfl h⟩, BW4.out⟩
      · have hpos : 0 < (l.map (fun p => p.1)).length := by rw [List.length_map]; exact List.length_pos_iff.2 hz
        obtain ⟨lb, lc, hlv, hcells⟩ := ownS_slice HO.out hpos
        rw [List.length_map] at hlv
        obtain ⟨L, hL⟩ : ∃ L, L = l.length := ⟨_, rfl⟩
        have HL := hide' hL
        rw [← hL] at hlv hll
        subst hlv
        have HC := hide' hcells
        clear hz hpos hL hcells
        go_wp2_with fail
        go_loopw [8, 10, 41] (fun u _ i wx => ∃ (j : Nat) (xa : Option Addr) (xc : Nat), j ≤ L ∧ i = .int .i64 j ∧ u = .slice xa j xc ∧ Hid (FilW w3.heap.size (.slice xa j xc) (filesOf s keep (l.take j)) wx) ∧ Hid (Below w3.heap.size w3 wx)) (fun _ _ i _ => L - (intOf i).toNat)
        case atStart => exact ⟨0, none, 0, by omega, rfl, rfl, fil_nil _ _, Below.refl _ _⟩
        case round =>
          obtain ⟨j, xa, xc, hj2, rfl, rfl, HFI, HBL⟩ := hrel
          by_cases hlt : j < L
          · have hjl : j < l.length := by rw [← HL.out]; exact hlt
            have wj := HWN.out.2 (l[j]'hjl) (List.getElem_mem hjl)
            have aj : atN l (l[j]'hjl).1 = some (l[j]'hjl).2 := at_mem HWN.out.1 (List.getElem_mem hjl)
            have FS := hide' (files_step s keep l j hjl)
            have y1 : wr.cell? ⟨lb, j, none⟩ = some (.string ⟨((l[j]'hjl).1).toArray⟩) := by
              have hc := (HC.out j (by rw [List.length_map]; exact hjl)).1
              rw [List.getElem_map] at hc
              rw [HBL.out.cell (p := ⟨lb, j, none⟩) (by have := cell_lt hc; exact this)]
              exact hc
            have ysz : (⟨((l[j]'hjl).1).toArray⟩ : ByteArray).size ≤ 140737488351232 := by rw [size_l]; have := good_len wj.2; omega
            have ydt : (⟨((l[j]'hjl).1).toArray⟩ : ByteArray).data.toList = (l[j]'hjl).1 := by simp
            have LK : Hid (∀ Wx, Below wr.heap.size wr Wx → (Instr.lookup 104 (.map (some M)) (.string ⟨((l[j]'hjl).1).toArray⟩) false).run Tryz.prog Wx = .ok (.pointer (some ⟨fb (l[j]'hjl).2, 0, none⟩)) Wx) := fun Wx hb => look_one (tbl_below T4.out (HBL.out.trans (hb.mono HBL.out.size))) ysz (by rw [ydt]; exact aj)
            have KP : Hid (∀ Wx, Below wr.heap.size wr Wx → Wx.cell? ⟨W.heap.size, 1, none⟩ = some (.slice ka N kc)) := fun Wx hb => by
              have := (cells_below F4.out (HBL.out.trans (hb.mono HBL.out.size))).1 1 (by simp)
              simpa using this.1
            have CL : Hid (∀ Wx, Below wr.heap.size wr Wx → Calls Tryz.prog 71 #[.pointer (some ⟨fb (l[j]'hjl).2, 0, none⟩), .slice ka N kc] Wx fun e w' => ∃ ua ul uc, e = .returned (.slice ua ul uc) ∧ Hid (Below wr.heap.size wr w' ∧ HoldsB (mask (fun x => x < wr.heap.size) w') (.slice ua ul uc) ((s.data.getD (l[j]'hjl).2 []).take (leftLen s keep (l[j]'hjl).2))) ∧ w'.cell? ⟨W.heap.size, 1, none⟩ = some (.slice ka N kc) ∧ (Instr.lookup 104 (.map (some M)) (.string ⟨((l[j]'hjl).1).toArray⟩) false).run Tryz.prog w' = .ok (.pointer (some ⟨fb (l[j]'hjl).2, 0, none⟩)) w') := by
              intro Wx hb
              have hb3 := HBL.out.trans (hb.mono HBL.out.size)
              have fa := (dkV_below V4.out hb3).files _ wj.1
              have hk2 := holdsI_mono HK4.out hb3
              refine (fleftC fa (V4.out.wf.firm _) (.slice ka N kc) keep (by rw [HNK.out] at hk2 ⊢; exact hk2) HKB.out (by have := HB.out.2.2.2.2.2 (l[j]'hjl).2; omega) (by have h1 := wj.1; have h2 := HB.out.2.1; omega)).mono ?_
              rintro e w' ⟨u, rfl, ho⟩
              obtain ⟨ua, uc, hu, _⟩ := holdsB_own ho
              have hbw := hb.trans (ho.2.mono hb.size)
              refine ⟨ua, _, uc, by rw [hu], ⟨hbw, ?_⟩, KP.out w' hbw, LK.out w' hbw⟩
              rw [← hu]
              exact own_mask ho hb.size
            have CK : Hid (∀ Wx, Below wr.heap.size wr Wx → Calls Tryz.prog 55 #[.string ⟨((l[j]'hjl).1).toArray⟩] Wx fun e w' => e = .returned (.string ⟨((l[j]'hjl).1).toArray⟩) ∧ Hid (Below wr.heap.size wr w' ∧ Below Wx.heap.size Wx w') ∧ w'.cell? ⟨W.heap.size, 1, none⟩ = some (.slice ka N kc) ∧ (Instr.lookup 104 (.map (some M)) (.string ⟨((l[j]'hjl).1).toArray⟩) false).run Tryz.prog w' = .ok (.pointer (some ⟨fb (l[j]'hjl).2, 0, none⟩)) w') := fun Wx hb => (clone _ Wx ysz).mono (by
              rintro e w' ⟨rfl, hb2⟩
              have hbw := hb.trans (hb2.mono hb.size)
              exact ⟨rfl, ⟨hbw, hb2⟩, KP.out w' hbw, LK.out w' hbw⟩)
            have l0 := LK.out wr.drew ((Below.refl _ _).drew)
            have k0 := KP.out wr (Below.refl _ _)
            obtain ⟨ps, p1, p2, p3⟩ := HFI.out
            have e9 : ps.length = j := by rw [p2]; unfold filesOf; rw [List.length_map, List.length_take]; omega
            have P1 := hide' p1
            have P23 := hide' (And.intro p2 p3)
            have E9 := hide' e9
            have XY : Hid (S (l[j]'hjl).1 = .string ⟨((l[j]'hjl).1).toArray⟩) := rfl
            generalize (l[j]'hjl).1 = nmj at FS y1 ysz ydt LK CL CK l0 XY
            generalize (⟨nmj.toArray⟩ : ByteArray) = y at y1 ysz ydt LK CL CK l0 XY
            generalize (l[j]'hjl).2 = noj at FS LK CL CK l0
            generalize (s.data.getD noj []).take (leftLen s keep noj) = dj at FS CL
            clear p1 p2 p3 e9 wj aj LK KP ydt
            have APP : Hid (∀ (wl : World) (dv : Value), Below wr.heap.size wr wl → (wl.alloc (.cells #[.string y, dv] 69)).ownsRow w3.heap.size 69 2 (.slice xa j xc) j (cellsFi ps)) := fun wl dv hb => by
              have h0 := row_below (row_below P1.out hb) (below_alloc' wl (.cells #[.string y, dv] 69))
              rw [E9.out] at h0
              exact h0
            have KQ : Hid (∀ Wx, Below w3.heap.size w3 Wx → Wx.cell? ⟨W.heap.size, 1, none⟩ = some (.slice ka N kc)) := fun Wx hb => by
              have := (cells_below F4.out hb).1 1 (by simp)
              simpa using this.1
            have HS3 : Hid (∀ wl : World, Below wr.heap.size wr wl → w3.heap.size ≤ wl.heap.size) := fun wl hb => Nat.le_trans HBL.out.size hb.size
            have FIN : Hid (∀ (wl w6 : World) (dv : Value) (gb gc : Nat), Below wr.heap.size wr wl → HoldsB (mask (fun x => x < wr.heap.size) wl) dv dj → w6.ownsRow w3.heap.size 69 2 (.slice (some ⟨gb, 0, none⟩) (j + 1) gc) (j + 1) (cellsFi ps ++ [.string y, dv]) → (wl.alloc (.cells #[.string y, dv] 69)).grownBy w6 (Value.slice xa j xc).ownBlock → ((Value.slice xa j xc).ownBlock = some gb ∨ gb = wl.heap.size + 1) → FilW w3.heap.size (.slice (some ⟨gb, 0, none⟩) (j + 1) gc) (filesOf s keep (l.take (j + 1))) w6 ∧ Below w3.heap.size w3 w6) := by
              intro wl w6 dv gb gc hb hd hr hg hat
              have ba := below_alloc' wl (.cells #[.string y, dv] 69)
              have hbx := hb.trans (ba.mono hb.size)
              have za : (wl.alloc (.cells #[.string y, dv] 69)).heap.size = wl.heap.size + 1 := by simp
              obtain ⟨ps2, q1, q2, q3⟩ := fil_below HFI.out hbx
              have sub1 : Sub (mask (fun k => k < w3.heap.size ∨ (Value.slice xa j xc).ownBlock = some k) wr) (mask (fun k => k < w3.heap.size ∨ (Value.slice xa j xc).ownBlock = some k) (wl.alloc (.cells #[.string y, dv] 69))) := off_mask (off_of hbx) (fun k hk => .inl hk)
              have row1 := row_below P1.out hbx
              have hvb : ∀ k, (Value.slice xa j xc).ownBlock = some k → k < wr.heap.size := fun k e => (P1.out.lt k e).2
              have hd2 : HoldsB (mask (fun k => k < w3.heap.size ∨ (Value.slice xa j xc).ownBlock = some k) (wl.alloc (.cells #[.string y, dv] 69))) dv dj := by
                refine holdsB_sub ?_ hd
                refine Sub.trans (mask_mono (S := fun k => k < w3.heap.size ∨ (Value.slice xa j xc).ownBlock = some k) (fun k hk => ?_)) (off_mask (off_of ba) (fun k hk => .inl hk))
                rcases hk with hk | hk
                · have := HBL.out.size; omega
                · exact hvb k hk
              have fr := fil_app (nm := nmj) (d := dj) hd2 ps ⟨row1, P23.out.1, fun i p f e1 e2 => by obtain ⟨x1, x2⟩ := P23.out.2 i p f e1 e2; exact ⟨x1, holdsB_sub sub1 x2⟩⟩ (g := gb) (cap := gc) (by rw [E9.out, XY.out]; exact hr) hg (by rw [za]; exact hat)
              rw [E9.out, ← FS.out] at fr
              refine ⟨fr, ?_⟩
              have h0 := HBL.out.trans (hbx.mono HBL.out.size)
              exact Below.grown h0 hg (by have := HBL.out.size; have := hbx.size; omega) (fun k e => (P1.out.lt k e).1)
            go_wp2_with fail
            go_region_held_law (fun w' => w'.cell? ⟨W.heap.size, 1, none⟩ = some (.slice ka N kc)) (go_keep)
              (first
                | (go_at_call 55; refine (CK.out _ ?_).mono ?_; (first | exact (Below.refl _ _).drew | exact Below.refl _ _ | exact B5.out.1); rintro e w4 ⟨rfl, B4, x4, l4⟩)
                | (go_at_call 71; refine (CL.out _ ?_).mono ?_; (first | exact (Below.refl _ _).drew | exact Below.refl _ _ | exact B4.out.1); rintro e w5 ⟨ua, ul, uc, rfl, B5, x5, l5⟩)
                | (refine step_appFi (by rfl) (.tmp 45) (.tmp 55) (by rfl) w3.heap.size (.slice xa j xc) j ps (by rfl) (APP.out w5 _ B5.out.1) (by rfl) rfl (by omega) (HS3.out w5 B5.out.1) ?_; intro gb gc w6 r6 g6 a6; have FR := hide' (FIN.out w5 w6 _ gb gc B5.out.1 B5.out.2 r6 g6 a6); have z6 : w6.cell? ⟨W.heap.size, 1, none⟩ = some (.slice ka N kc) := KQ.out w6 FR.out.2; clear r6 g6 a6))
            all_goals
              go_wp2_with fail
              go_roundw
              case rel => exact ⟨j + 1, some ⟨gb, 0, none⟩, gc, by omega, by go_num, rfl, FR.out.1, FR.out.2⟩
              case measure => simp [intOf]; omega
          · have ej : l.take j = l := List.take_of_length_le (by rw [← HL.out]; omega)
            have EJ := hide' ej
            clear ej
            go_wp2_with fail
            go_ret
            refine ⟨_, rfl, ?_, BW4.out.trans (HBL.out.mono (by omega))⟩
            have h1 := fil_holds HFI.out
            rw [EJ.out] at h1
            rw [HSP.out]
            exact holdsFi_sub (mask_mono (fun x hx => by omega)) h1
end Go.Proofs.YtijnjgnckipghaaGreat
