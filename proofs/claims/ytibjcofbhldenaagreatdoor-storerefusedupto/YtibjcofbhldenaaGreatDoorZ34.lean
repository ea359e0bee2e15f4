/- The contract of Open, over whatever read answers. The contract of Replay: the sound part's records are ranged over. -/
import Derived.RangeFuncNested
import Derived.RangeFuncBound
import Derived.RangeFuncCalls
import Derived.RangeFuncLeaves
import Derived.RangeFuncBox
import Derived.Shelf.RegionOpen
import Derived.OwnWalkIn
import Derived.TacticsInMore
import Derived.LoopNIn
import Derived.LoopIn
import Derived.Maps.AppendAt
import Derived.Test.YtibjcofbhldenaaGreatDoorZ32
import Derived.Test.YtibjcofbhldenaaGreatDoorZ31
import Derived.Test.YtibjcofbhldenaaGreatDoorZ25
namespace Go.Proofs.YtibjcofbhldenaaGreatDoor
open Go.RowKit Go.Shelf
set_option maxRecDepth 20000
abbrev OSt := LSt × RL
structure IO (o : Ow) (g lb bx : Nat) (W : World) (b : Nat) (q : OSt) (o' : Ow) (lv : Value) (w : World) : Prop where
  log : LogS o' g lb q.1.1 q.1.2 w
  off : Off (fun k => o.has k ∨ k = lb ∨ k = bx) W w
  le : o.le o'
  new : ∀ k, o'.has k → o.has k ∨ W.heap.size ≤ k
  box : Cap o' lb bx lv w
  rs : Rsd o' lb W.heap.size lv q.2 w
  bd : Bd b q.1.1
def stepA (f : LSt → LSt × Int) (q : OSt) : OSt × Int := (((f q.1).1, q.2), (f q.1).2)
def stepBo (f : LSt → (LSt × Int) × RL) (q : OSt) : OSt × Int := (((f q.1).1.1, (f q.1).2), (f q.1).1.2)
theorem holdsR_off {S : Nat → Prop} {W W' : World} {v : Value} {rs : RL} (h : HoldsR W v rs) (hb : Off S W W') (hS : ∀ ad n c, v = .slice (some ad) n c → ¬ S ad.block) : HoldsR W' v rs := by
  obtain ⟨ao, cap, rfl, h0, hcp, hc⟩ := h
  refine ⟨ao, cap, rfl, h0, hcp, fun hne => ?_⟩
  obtain ⟨b, off, rfl, hlt, hcell⟩ := hc hne
  have e := hb.block b hlt (hS _ _ _ rfl)
  refine ⟨b, off, rfl, Nat.lt_of_lt_of_le hlt hb.size, fun j hj => ?_⟩
  obtain ⟨c0, c1, c2, c3⟩ := hcell j hj
  exact ⟨by rw [World.cell?_of_block (w := W) (a := ⟨b, off + j * 4, none⟩) e]; exact c0, by rw [World.cell?_of_block (w := W) (a := ⟨b, off + j * 4 + 1, none⟩) e]; exact c1, by rw [World.cell?_of_block (w := W) (a := ⟨b, off + j * 4 + 2, none⟩) e]; exact c2, by rw [World.cell?_of_block (w := W) (a := ⟨b, off + j * 4 + 3, none⟩) e]; exact c3⟩
theorem none_grow {o o' : Ow} {W : World} {b : Nat} (hn : o b = none) (hb : b < W.heap.size) (new : ∀ k, o'.has k → o.has k ∨ W.heap.size ≤ k) : o' b = none := by
  cases e : o' b with
  | none => rfl
  | some r =>
    rcases new b (by unfold Ow.has; rw [e]; simp) with h1 | h1
    · exact absurd hn h1
    · omega
theorem rsd_grow {o o' : Ow} {lb n0 : Nat} {v : Value} {rs : RL} {W W' : World} (h : Rsd o lb n0 v rs W) (hg : GrowL lb o W o' W') : Rsd o' lb n0 v rs W' := by
  refine ⟨holdsR_off h.1 hg.off (fun ad n c e hh => ?_), fun ad n c e => ?_⟩
  · obtain ⟨h1, h2, _, _⟩ := h.2 ad n c e
    rcases hh with hh | hh
    · exact hh h1
    · exact h2 hh
  · obtain ⟨h1, h2, h3, h4⟩ := h.2 ad n c e
    exact ⟨none_grow h1 h4 hg.new, h2, h3, Nat.lt_of_lt_of_le h4 hg.off.size⟩
theorem io_step {o o' o2 : Ow} {g lb bx b b2 : Nat} {W w w' : World} {q : OSt} {lv : Value} {st' : LSt} (h : IO o g lb bx W b q o' lv w) (hl : LogS o2 g lb st'.1 st'.2 w') (hg : GrowL lb o' w o2 w') (hb : Bd b2 st'.1) : IO o g lb bx W b2 (st', q.2) o2 lv w' where
  log := hl
  off := h.off.trans hg.off (fun i hi => by
    rcases hi with hi | hi
    · rcases h.new i hi with h1 | h1
      · exact .inl (.inl h1)
      · exact .inr h1
    · exact .inl (.inr (.inl hi)))
  le := fun i r e => hg.le i r (h.le i r e)
  new := fun i hi => by
    rcases hg.new i hi with h1 | h1
    · exact h.new i h1
    · exact .inr (Nat.le_trans h.off.size h1)
  box := cap_grow h.box hg
  rs := rsd_grow h.rs hg
  bd := hb
/-- the list's box is written -/
theorem io_set {o o' o2 : Ow} {g lb bx b b2 : Nat} {W w w' : World} {q : OSt} {lv lv' : Value} {st' : LSt} {rs' : RL} (h : IO o g lb bx W b q o' lv w) (hl : LogS o2 g lb st'.1 st'.2 w') (hg : GrowL lb o' w o2 w') (hb : Bd b2 st'.1) (hr : Rsd o2 lb w.heap.size lv' rs' w') (hbx : bx < W.heap.size) :
    IO o g lb bx W b2 (st', rs') o2 lv' (w'.setCell ⟨bx, 0, none⟩ lv') := by
  have k := io_step h hl hg hb
  have hoff : Off (fun x => x = bx) w' (w'.setCell ⟨bx, 0, none⟩ lv') := off_poke (S := fun x => x = bx) ⟨bx, 0, none⟩ rfl _
  have kc := cap_cell k.box
  have kf := (k.box.1.1 0 (by simp)).2
  refine ⟨⟨dsk_off hl.dsk hoff (fun x hx => by rw [hx]; exact k.box.2.1), blk_offL hl.blk hoff (fun e => k.box.2.2 e.symm), hl.no⟩, k.off.trans hoff (fun i hi => .inl (.inr (.inr hi))), k.le, k.new, ⟨⟨fun j hj => ?_, Nat.lt_of_lt_of_le k.box.1.2 hoff.size⟩, k.box.2.1, k.box.2.2⟩, ⟨holdsR_off hr.1 hoff (fun ad n c e hh => ?_), fun ad n c e => ?_⟩, hb⟩
  · match j, hj with
    | 0, _ => exact ⟨World.cell?_setCell_same' _ _ _ (by rw [kc]; rfl), by rw [World.frozen?_setCell]; exact kf⟩
  · obtain ⟨_, _, h3, _⟩ := hr.2 ad n c e
    have := h.off.size
    omega
  · obtain ⟨h1, h2, h3, h4⟩ := hr.2 ad n c e
    have := h.off.size
    exact ⟨h1, h2, by omega, Nat.lt_of_lt_of_le h4 hoff.size⟩
set_option maxHeartbeats 1000000 in
theorem openF1 {o o' : Ow} {g lb bl bx b b2 : Nat} {W w : World} {q : OSt} {lv : Value} {RD : LSt → (LSt × Int) × RL} (h : IO o g lb bx W b q o' lv w) (hc : Cap o' lb bl (lptr lb) w) (hbx : bx < W.heap.size)
    (hread : Calls Tryz.prog 83 #[lptr lb] w fun e W' => RdPost o' g lb (RD q.1) w e W' ∧ Bd b2 (RD q.1).1.1.1) :
    Calls Tryz.prog 82 #[lptr bl, lptr bx] w fun e w' => e = .returned (.int .i64 (stepBo RD q).2) ∧ ∃ o2 lv2, IO o g lb bx W b2 (stepBo RD q).1 o2 lv2 w' := by
  have HC := hide' hread
  have H := hide' h
  have k0 := cap_cell hc
  clear hread h hc
  go_enter Tryz.func82, Tryz.ntmps82
  go_wp2_with fail
  refine HC.out.mono ?_
  rintro e w1 ⟨⟨lv2, o2, rfl, hl, hg, hr⟩, hbd⟩
  obtain ⟨la, lc, hlv, _⟩ := id hr.1
  have K := hide' (io_set H.out hl hg hbd hr hbx)
  have kx := cap_cell (cap_grow H.out.box hg)
  have kf := ((cap_grow H.out.box hg).1.1 0 (by simp)).2
  subst hlv
  clear hl hg hr hbd
  obtain ⟨y, hy⟩ : ∃ y, y = (RD q.1).1.2 := ⟨_, rfl⟩
  have HY : Hid ((RD q.1).1.2 = y) := hy.symm
  rw [HY.out]
  clear hy
  have kf' : w1.frozen? ⟨bx, 0, none⟩ = false := kf
  obtain ⟨xs, xn, xc, hx⟩ : ∃ a n c, lv = .slice a n c := by obtain ⟨a, c, e, _⟩ := H.out.rs.1; exact ⟨a, _, c, e⟩
  rw [hx] at kx
  go_wp2_with fail
  go_ret
  exact ⟨by show _ = Ending.returned (Value.int .i64 (RD q.1).1.2); rw [HY.out]; rfl, o2, _, K.out⟩
theorem io_cap {o o' : Ow} {g lb bx b bl : Nat} {W w : World} {q : OSt} {lv v : Value} (h : IO o g lb bx W b q o' lv w) (hc : Cap o lb bl v W) (hne : bl ≠ bx) : Cap o' lb bl v w :=
  ⟨blk_offL hc.1 h.off (fun hh => by
    rcases hh with hh | hh | hh
    · exact hh hc.2.1
    · exact hc.2.2 hh
    · exact hne hh), none_grow hc.2.1 hc.1.2 h.new, hc.2.2⟩
def openT (RD : LSt → (LSt × Int) × RL) (s : Dk) : OSt × Int := runT [stepA remU, stepBo RD] ((s, 0), [])
def OpPost (o : Ow) (g : Nat) (q : OSt × Int) (W : World) (e : Ending) (W' : World) : Prop :=
  (q.2 ≠ 0 ∧ e = .returned (.tuple #[.pointer none, .slice none 0 0, .int .i64 q.2]) ∧ ∃ o', Dsk o' g q.1.1.1 W' ∧ Grow o W o' W') ∨
  (q.2 = 0 ∧ ∃ lb lv o', e = .returned (.tuple #[lptr lb, lv, .int .i64 0]) ∧ LogS o' g lb q.1.1.1 (q.1.2.length : Int) W' ∧ Grow o W o' W' ∧ W.heap.size ≤ lb ∧ Rsd o' lb W.heap.size lv q.1.2 W')
theorem remU_bd {m : Nat} {st : LSt} (h : Bd m st.1) : Bd (m + 2) (remU st).1.1 := by
  unfold remU
  split
  · exact bd_step h ⟨6, nwN, [], []⟩
  · exact bd_mono h (by omega)
set_option maxHeartbeats 4000000 in
theorem openC {o : Ow} {g : Nat} {s : Dk} {W : World} (h : Dsk o g s W) (m K : Nat) (hB : Bd m s) (hK : 2 ≤ K) (hm : m + K ≤ 80000000) (RD : LSt → (LSt × Int) × RL)
    (hread : ∀ lb o' w, LogS o' g lb (remU (s, 0)).1.1 (remU (s, 0)).1.2 w → Bd (m + K) (remU (s, 0)).1.1 → Calls Tryz.prog 83 #[lptr lb] w fun e W' => RdPost o' g lb (RD (remU (s, 0)).1) w e W' ∧ Bd (m + K + K) (RD (remU (s, 0)).1).1.1.1) :
    Calls Tryz.prog 36 #[lptr g] W fun e W' => OpPost o g (openT RD s) W e W' ∧ Bd (m + K + K) (openT RD s).1.1.1 := by
  have b1 := bel_a W (.cells #[lptr g, .int .i64 0] 153)
  have b2 := bel_a (W.alloc (.cells #[lptr g, .int .i64 0] 153)) (.cells #[lptr W.heap.size] 95)
  have b3 := bel_a ((W.alloc (.cells #[lptr g, .int .i64 0] 153)).alloc (.cells #[lptr W.heap.size] 95)) (.cells #[.slice none 0 0] 96)
  have h1 : LogS o g W.heap.size s 0 (W.alloc (.cells #[lptr g, .int .i64 0] 153)) := ⟨dsk_below h b1, by simpa using cells_lit W #[lptr g, .int .i64 0] 153, none_of_lt (dsk_lt h) (Nat.le_refl _)⟩
  have h2 := logS_below h1 b2
  have h3 := logS_below h2 b3
  have k2 := cap_below (cap_new h1 (lptr W.heap.size) 95) b3
  have k3 := cap_new h2 (.slice none 0 0) 96
  rw [World.size_alloc] at k2
  rw [World.size_alloc, World.size_alloc] at k3
  have b13 := b1.trans ((b2.trans (b3.mono b2.size)).mono b1.size)
  obtain ⟨W3, hW3⟩ : ∃ W3, W3 = ((W.alloc (.cells #[lptr g, .int .i64 0] 153)).alloc (.cells #[lptr W.heap.size] 95)).alloc (.cells #[.slice none 0 0] 96) := ⟨_, rfl⟩
  have z3 : W3.heap.size = W.heap.size + 1 + 1 + 1 := by rw [hW3]; simp
  obtain ⟨c0, c1, _⟩ := logS_cells h3
  have kc := cap_cell k2
  have kd := cap_cell k3
  rw [← hW3] at h3 k2 k3 b13
  have C : Hid (Calls Tryz.prog 84 #[.slice (some ⟨W3.heap.size, 0, none⟩) 2 2] (W3.alloc (.cells #[.func (.func 85) #[lptr W.heap.size] #[], .func (.func 82) #[] #[lptr (W.heap.size + 1), lptr (W.heap.size + 1 + 1)]] 103)) fun e W' =>
      e = .returned (.int .i64 (openT RD s).2) ∧ Bd (m + K + K) (openT RD s).1.1.1 ∧ ∃ o' lv, LogS o' g W.heap.size (openT RD s).1.1.1 (openT RD s).1.1.2 W' ∧ Grow o W o' W' ∧ Rsd o' W.heap.size W.heap.size lv (openT RD s).1.2 W' ∧ Cap o' W.heap.size (W.heap.size + 1) (lptr W.heap.size) W' ∧ Cap o' W.heap.size (W.heap.size + 1 + 1) lv W') := by
    have b4 := bel_a W3 (.cells #[.func (.func 85) #[lptr W.heap.size] #[], .func (.func 82) #[] #[lptr (W.heap.size + 1), lptr (W.heap.size + 1 + 1)]] 103)
    have h4 := logS_below h3 b4
    have q2 := cap_below k2 b4
    have q3 := cap_below k3 b4
    have b14 := b13.trans (b4.mono b13.size)
    have nb : o W3.heap.size = none := none_of_lt (dsk_lt h3.dsk) (Nat.le_refl _)
    obtain ⟨W4, hW4⟩ : ∃ W4, W4 = W3.alloc (.cells #[.func (.func 85) #[lptr W.heap.size] #[], .func (.func 82) #[] #[lptr (W.heap.size + 1), lptr (W.heap.size + 1 + 1)]] 103) := ⟨_, rfl⟩
    have z4 : W4.heap.size = W3.heap.size + 1 := by rw [hW4]; simp
    have e0 : W4.cell? ⟨W3.heap.size, 0, none⟩ = some (.func (.func 85) #[lptr W.heap.size] #[]) := by rw [hW4]; simp
    have e1 : W4.cell? ⟨W3.heap.size, 1, none⟩ = some (.func (.func 82) #[] #[lptr (W.heap.size + 1), lptr (W.heap.size + 1 + 1)]) := by rw [hW4]; simp
    rw [← hW4] at h4 q2 q3 b4 b14
    rw [← hW4]
    refine (inTurnC (σ := OSt) (fun i q w => ∃ o' lv, IO o g W.heap.size (W.heap.size + 1 + 1) W4 (m + i * K) q o' lv w ∧ (i = 0 → q = ((s, 0), [])) ∧ (i = 1 → q = (stepA remU ((s, 0), [])).1)) W3.heap.size 2 [.func (.func 85) #[lptr W.heap.size] #[], .func (.func 82) #[] #[lptr (W.heap.size + 1), lptr (W.heap.size + 1 + 1)]] [stepA remU, stepBo RD] rfl rfl (by decide) (fun i i1 i2 => ?_) ?_ ((s, 0), []) W4 ⟨o, .slice none 0 0, ⟨h4, Off.refl _ _, fun _ _ e => e, fun _ hh => .inl hh, q3, rsd_nil _ _ _ _, by rw [Nat.zero_mul]; exact hB⟩, fun _ => rfl, fun e => by cases e⟩).mono ?_
    · match i, i1 with
      | 0, _ =>
        refine ⟨_, _, _, rfl, enters_of Tryz.func85 (by kernel_rfl) rfl, ?_⟩
        rintro q w ⟨o', lv, hio, hq, _⟩
        obtain rfl := hq rfl
        refine (removeUC hio.log (bd_mono hio.bd (by omega))).mono ?_
        rintro e w' ⟨he, o2, hl2, hg2⟩
        exact ⟨he, o2, lv, io_step hio hl2 hg2 (bd_mono (remU_bd hio.bd) (by omega)), (fun e => by cases e), fun _ => rfl⟩
      | 1, _ =>
        refine ⟨_, _, _, rfl, enters_of Tryz.func82 (by kernel_rfl) rfl, ?_⟩
        rintro q w ⟨o', lv, hio, _, hq⟩
        obtain rfl := hq rfl
        refine (openF1 (RD := RD) (b2 := m + 2 * K) hio (io_cap hio q2 (by omega)) (by omega) ?_).mono ?_
        · refine (hread _ _ _ hio.log (bd_mono hio.bd (by omega))).mono ?_
          rintro e w' ⟨p1, p2⟩
          exact ⟨p1, bd_mono p2 (by omega)⟩
        · rintro e w' ⟨he, o2, lv2, k⟩
          exact ⟨he, o2, lv2, k, (fun e => by cases e), (fun e => by cases e)⟩
    · rintro i q w ⟨o', lv, hio, _⟩ j hj
      have hblk := hio.off.block W3.heap.size (by omega) (fun hh => by
        rcases hh with hh | hh | hh
        · exact hh nb
        · omega
        · omega)
      match j, hj with
      | 0, _ => rw [World.cell?_of_block (w := W4) (a := ⟨W3.heap.size, 0, none⟩) hblk]; exact e0
      | 1, _ => rw [World.cell?_of_block (w := W4) (a := ⟨W3.heap.size, 1, none⟩) hblk]; exact e1
    · rintro e w' ⟨he, i, hi, o', lv, hio, _⟩
      refine ⟨he, bd_mono hio.bd (by have := Nat.mul_le_mul_right K hi; omega), o', lv, hio.log, ⟨(off_of b14).trans hio.off (fun k hk => ?_), hio.le, fun k hk => ?_⟩, ⟨hio.rs.1, fun ad n c e => ?_⟩, io_cap hio q2 (by omega), hio.box⟩
      · rcases hk with hk | hk | hk
        · exact .inl hk
        · exact .inr (by omega)
        · exact .inr (by omega)
      · rcases hio.new k hk with h1 | h1
        · exact .inl h1
        · exact .inr (by omega)
      · obtain ⟨p1, p2, p3, p4⟩ := hio.rs.2 ad n c e
        exact ⟨p1, p2, by omega, p4⟩
  rw [hW3] at C
  simp only [World.size_alloc] at C
  clear h h1 h2 h3 k2 k3 b1 b2 b3 b13 hW3 z3 W3 hB hread
  by_cases hz : (openT RD s).2 = 0
  · rw [hz] at C
    go_enter Tryz.func36, Tryz.ntmps36
    go_wp2_with fail
    refine C.out.mono ?_
    rintro e w1 ⟨rfl, hbd, o', lv, hl, hg, hr, hc1, hc2⟩
    obtain ⟨la, lc, hlv, _⟩ := id hr.1
    obtain ⟨N, hN⟩ : ∃ N, N = (openT RD s).1.2.length := ⟨_, rfl⟩
    rw [← hN] at hlv
    subst hlv
    have k1 := cap_cell hc1
    have k2 := cap_cell hc2
    obtain ⟨j0, j1, j2⟩ := logS_cells hl
    have P := hide' (logS_set hl (N : Int))
    have HR := hide' hr
    have HG := hide' hg
    have HL := hide' hl
    have HBD := hide' hbd
    have HC1 := hide' hc1
    have HC2 := hide' hc2
    have HN := hide' hN
    have n1 : (W.heap.size + 1 : Nat) ≠ W.heap.size := by omega
    have n2 : (W.heap.size + 1 + 1 : Nat) ≠ W.heap.size := by omega
    have k3 : (w1.setCell ⟨W.heap.size, 1, none⟩ (.int .i64 (N : Int))).cell? ⟨W.heap.size + 1, 0, none⟩ = some (lptr W.heap.size) := cap_cell (cap_grow hc1 P.out.2)
    have k4 : (w1.setCell ⟨W.heap.size, 1, none⟩ (.int .i64 (N : Int))).cell? ⟨W.heap.size + 1 + 1, 0, none⟩ = some (.slice la N lc) := cap_cell (cap_grow hc2 P.out.2)
    clear hl hg hr hc1 hc2 hbd hN
    go_wp2_with fail
    go_quiet (fail)
    go_wp2_with fail
    refine bodyPost_ret (v := .tuple #[lptr W.heap.size, .slice la N lc, .int .i64 0]) (by simp [results, Tryz.results36, go_sem]) rfl ?_
    have bq := below_drewN (w1.setCell ⟨W.heap.size, 1, none⟩ (.int .i64 (N : Int))) nq
    have hset := P.out
    have hgr : Grow o' w1 o' (w1.setCell ⟨W.heap.size, 1, none⟩ (.int .i64 (N : Int))) → True := fun _ => trivial
    refine ⟨.inr ⟨hz, W.heap.size, _, o', rfl, ?_, ?_, Nat.le_refl _, ?_⟩, HBD.out⟩
    · rw [← HN.out]; exact logS_below hset.1 bq
    · refine ⟨?_, HG.out.le, HG.out.new⟩
      exact (HG.out.off.trans (hset.2.off.trans (off_of (S := fun k => o'.has k ∨ k = W.heap.size) bq) (fun i hi => .inl hi)) (fun i hi => by
        rcases hi with hi | hi
        · exact HG.out.new i hi
        · exact .inr (by omega)))
    · have r1 := rsd_grow HR.out hset.2
      exact rsd_grow r1 (growL_below bq)
  · obtain ⟨y, hy⟩ : ∃ y, y = (openT RD s).2 := ⟨_, rfl⟩
    have hy0 : decide (y = 0) = false := by rw [decide_eq_false_iff_not, hy]; exact hz
    have hy2 : ¬ y = 0 := by rw [hy]; exact hz
    rw [← hy] at C
    have HY := hide' hy
    have HZ := hide' hz
    clear hz hy
    go_enter Tryz.func36, Tryz.ntmps36
    go_wp2_with fail
    refine C.out.mono ?_
    rintro e w1 ⟨rfl, hbd, o', lv, hl, hg, hr, hc1, hc2⟩
    have HG := hide' hg
    have HL := hide' hl
    have HBD := hide' hbd
    clear hl hg hr hc1 hc2 hbd
    go_wp2_with fail
    refine bodyPost_ret (v := .tuple #[.pointer none, .slice none 0 0, .int .i64 y]) (by simp [results, Tryz.results36, go_sem]) rfl ?_
    exact ⟨.inl ⟨HZ.out, by rw [HY.out], o', HL.out.dsk, HG.out⟩, HBD.out⟩
end Go.Proofs.YtibjcofbhldenaaGreatDoor
namespace Go.Proofs.YtibjcofbhldenaaGreatDoor
open Go.RowKit Go.Shelf
attribute [local go_sem] Oper.semAt_some
set_option maxRecDepth 100000
abbrev RE := Rc × Nat
def reE (x : RE) : Array Value := #[.agg #[.int .i64 x.1.1, .int .i64 x.1.2.1, .int .i64 x.1.2.2.1, .string ⟨x.1.2.2.2.toArray⟩], .int .i64 (x.2 : Int)]
theorem below_grown {W W' : World} (h : Below W.heap.size W W') : W.grownBy W' none := ⟨h.os, h.tape, h.output, h.size, fun k hk _ => h.block k hk⟩
theorem soundC (ao : Option Addr) (vl vc : Nat) (w : World) : Calls Tryz.prog 166 #[.slice ao vl vc] w fun e w' => e = .returned (.func (.func 191) #[] #[lptr w.heap.size]) ∧ w' = w.alloc (.cells #[.slice ao vl vc] 57) := by
  go_enter Tryz.func166, Tryz.ntmps166
  go_wp2_with fail
  go_ret
  exact ⟨rfl, rfl⟩
/-- what a round keeps: all below n₀, and the box that the iterator reads -/
def KpR (n₀ Bn : Nat) (A B : World) : Prop := Below n₀ A B ∧ (Bn < A.heap.size → B.heap[Bn]? = A.heap[Bn]?)
theorem kpR_refl (n₀ Bn : Nat) (A : World) : KpR n₀ Bn A A := ⟨Below.refl _ _, fun _ => rfl⟩
theorem kpR_t {n₀ Bn : Nat} {A B C : World} (h : KpR n₀ Bn A B) (k : KpR n₀ Bn B C) : KpR n₀ Bn A C := ⟨h.1.trans k.1, fun hl => (k.2 (Nat.lt_of_lt_of_le hl h.1.size)).trans (h.2 hl)⟩
theorem kpR_below {n₀ Bn : Nat} {A B : World} (h : Below A.heap.size A B) (hn : n₀ ≤ A.heap.size) : KpR n₀ Bn A B := ⟨h.mono hn, fun hl => h.block Bn hl⟩
theorem kpR_b {n₀ Bn : Nat} {w : World} (h0 : n₀ ≤ w.heap.size) (hBn : Bn < w.heap.size) (W : World) (l : Nat) (o o' : Obj) (hl : w.heap.size ≤ l) (h1 : W.heap[l]? = some o) (h2 : o.isCells = false) (h3 : o.isWalk = false) : KpR n₀ Bn W (W.putObj l o') :=
  ⟨belowK_b h0 W l o o' hl h1 h2 h3, fun hlt => (grownBy_putObj' W l o').block Bn hlt (fun e => by have := Option.some.inj e; omega)⟩
theorem holdsB_low {W W' : World} {ao : Option Addr} {vl vc n₀ : Nat} {bs : List UInt8} (h : HoldsB W (.slice ao vl vc) bs) (hb : Below n₀ W W') (hlo : ∀ ad, ao = some ad → ad.block < n₀) : HoldsB W' (.slice ao vl vc) bs :=
  holdsB_off (S := fun k => n₀ ≤ k) h ⟨hb.os, hb.tape, hb.output, hb.size, fun k _ hn => hb.block k (by omega)⟩ (fun ad n c e hh => by
    simp only [Value.slice.injEq] at e
    have := hlo ad e.1
    omega)
set_option maxHeartbeats 2000000 in
theorem sound1_in (n l Bn n₀ N : Nat) (hn : 1 ≤ n) (ao : Option Addr) (vl vc : Nat) (bs : List UInt8) (hl : bs.length ≤ 1000000000000) (J Jx : List RE → World → Prop) (K : Nat) (hK : Stops bs K) (hN : K ≤ N) (W : World) (hJ : AbidesFrom W.heap.size J)
    (hY : ∀ pre x W, J pre W → pre.length < N → YieldAt Fence.wide (n - 1) Tryz.prog l (reE x) W fun e W' =>
      (e = .returned (.bool true) ∧ J (pre ++ [x]) W' ∧ KpR n₀ Bn W W') ∨ (e = .returned (.bool false) ∧ Jx (pre ++ [x]) W'))
    (hBn : W.cell? ⟨Bn, 0, none⟩ = some (.slice ao vl vc)) (hv : HoldsB W (.slice ao vl vc) bs) (hlo : Bn < W.heap.size ∧ n₀ ≤ W.heap.size ∧ ∀ ad, ao = some ad → ad.block < n₀) (h0 : J [] W) :
    CallsIn Fence.wide n Tryz.prog 191 #[.func (.yield l) #[] #[], lptr Bn] W fun e W' => (∃ v, e = .returned v) ∧
      ((∃ ys, ys = (List.range K).map (fun i => (rcOf (recR bs i), atR bs (i + 1))) ∧ J ys W') ∨ (∃ pre : List RE, True ∧ Jx pre W')) := by
  refine callsIn_of_wp Tryz.func191 rfl trivial ?_ rfl
  simp only [Tryz.ntmps191, List.size_toArray, List.length_cons, List.length_nil, Nat.reduceAdd, Nat.reduceSub, Array.replicate_succ, Array.replicate_zero, List.push_toArray, List.append_toArray, List.nil_append, List.cons_append]
  gi_wp2
  gi_loopw [3, 4] (fun p q wr => ∃ k : Nat, p = .int .i64 (atR bs k : Int) ∧ q = .int .i64 (k : Int) ∧ k ≤ K ∧ Hid (J ((List.range k).map (fun i => (rcOf (recR bs i), atR bs (i + 1)))) wr) ∧ Hid (KpR n₀ Bn W wr))
    (fun _ q _ => K + 1 - (intOf q).toNat)
  case atStart =>
    exact ⟨0, rfl, rfl, Nat.zero_le _, h0, kpR_refl _ _ _⟩
  case round =>
    obtain ⟨k, rfl, rfl, hk, HJ, HB⟩ := hrel
    have ha := atR_le bs k
    have hka := atR_grow bs k (fun i hi => hK.1 i (by omega))
    have c0 : wr.cell? ⟨Bn, 0, none⟩ = some (.slice ao vl vc) := by rw [World.cell?_of_block (w := W) (a := ⟨Bn, 0, none⟩) (HB.out.2 hlo.1)]; exact hBn
    obtain ⟨pv, hp1, hp2⟩ := dropB (holdsB_low hv HB.out.1 hlo.2.2) (atR bs k) ha
    have CD := hide' (decC pv _ wr hp2 (by rw [List.length_drop]; omega))
    have AS := hide' (atR_succ bs k)
    have A1 := hide' (atR_le bs (k + 1))
    have ER : Hid (decOf (bs.drop (atR bs k)) = recR bs k) := rfl
    rw [ER.out] at CD
    obtain ⟨d, hd⟩ : ∃ d, d = recR bs k := ⟨_, rfl⟩
    rw [← hd] at CD AS
    have HD : Hid (recR bs k = d) := hd.symm
    unfold decV recV at CD
    obtain ⟨dseq, dop, dno, did, dn, de⟩ := d
    dsimp only at CD AS
    obtain ⟨A, hA⟩ : ∃ A, A = atR bs k := ⟨_, rfl⟩
    have HA := hide' hA
    rw [← hA] at hp1 AS ha hka ⊢
    obtain ⟨pre, hpre⟩ : ∃ pre, pre = (List.range k).map (fun i => (rcOf (recR bs i), atR bs (i + 1))) := ⟨_, rfl⟩
    rw [← hpre] at HJ
    have HP := hide' hpre
    have hpl : pre.length = k := by rw [hpre]; simp
    have HPL := hide' hpl
    have JA : Hid (∀ w1 X, Below wr.heap.size wr w1 → J pre (w1.alloc X)) := fun w1 X hb => hJ pre _ _ none (hJ pre _ _ none HJ.out (below_grown hb) (fun r e => by cases e)) (World.grownBy_alloc w1 X none) (fun r e => by cases e)
    have HKK := hide' hK
    have HYY := hide' hY
    have HLO := hide' hlo
    have qs : IntKind.i64.wrap ((k : Int) + 1) = (k : Int) + 1 := wrap_small _ (by omega) (by omega)
    have qw : IntKind.i64.wrap ((A : Int) + (dn : Int)) = (A : Int) + (dn : Int) := wrap_small _ (by omega) (by have h1 := AS.out; have h2 := A1.out; omega)
    clear hp2 hd ER hA hpre hK hY hv hBn h0 hJ hpl hlo
    by_cases hz : dn = 0
    · have NO : Hid (k = K) := by
        rcases Nat.lt_or_ge k K with h1 | h1
        · exact absurd hz (by have := (HKK.out.1 k h1).1; rw [HD.out] at this; exact this)
        · exact Nat.le_antisymm hk h1
      subst hz
      gi_wp2_with (refine ⟨trivial, ?_⟩; gi_at_call 192; refine (callsIn_wide.2 CD.out).mono ?_; rintro e w1 ⟨rfl, hb⟩; have HB1 := hide' hb; clear hb)
      refine ⟨fun _ h => (by cases h), ?_⟩
      gi_wp2
      refine bodyPost_ret (results_none rfl _ _ _) rfl ?_
      exact ⟨⟨_, rfl⟩, .inl ⟨pre, by rw [HP.out, NO.out], JA.out _ _ HB1.out⟩⟩
    · have f0 : decide ((dn : Int) = 0) = false := by rw [decide_eq_false_iff_not]; omega
      have f1 : ¬ (dn : Int) = 0 := by omega
      by_cases hq : dseq = k
      · have OK : Hid (k < K) := by
          rcases Nat.lt_or_ge k K with h1 | h1
          · exact h1
          · exfalso
            have h2 : k = K := Nat.le_antisymm hk h1
            refine HKK.out.2 ?_
            rw [← h2]
            exact ⟨by rw [HD.out]; exact hz, by rw [HD.out]; exact hq⟩
        subst hq
        gi_wp2_with (refine ⟨trivial, ?_⟩; gi_at_call 192; refine (callsIn_wide.2 CD.out).mono ?_; rintro e w1 ⟨rfl, hb⟩; have HB1 := hide' hb; clear hb; obtain ⟨fn, tmps, assign, body, hy, hR⟩ := HYY.out pre (((dseq : Int), (dop : Int), (dno : Int), did), A + dn) _ (JA.out w1 (.cells #[.int .i64 (dseq : Int), .int .i64 (dop : Int), .int .i64 (dno : Int), .string ⟨did.toArray⟩] 107) HB1.out) (by rw [HPL.out]; have := OK.out; omega); simp only [reE, Int.natCast_add] at hy)
        refine hR.mono ?_
        rintro e W3 (⟨rfl, hJ3, hk3⟩ | ⟨rfl, hJx3⟩)
        · have J3 := hide' hJ3
          have B3 := hide' hk3
          clear hJ3 hk3 hR hy
          gi_wp2
          go_roundw
          case rel =>
            refine ⟨dseq + 1, ?_, by go_num, OK.out, ?_, ?_⟩
            · rw [AS.out, Int.natCast_add]
            · unfold Hid; rw [List.range_succ, List.map_append, ← HP.out, List.map_cons, List.map_nil]; have h := J3.out; rw [show (rcOf (recR bs dseq), atR bs (dseq + 1)) = (((dseq : Int), (dop : Int), (dno : Int), did), A + dn) by rw [HD.out, AS.out]; rfl]; exact h
            · exact kpR_t HB.out (kpR_t (kpR_below (HB1.out.trans ((bel_a w1 _).mono HB1.out.size)) (Nat.le_trans HLO.out.2.1 HB.out.1.size)) B3.out)
          case measure => simp only [intOf]; have := OK.out; omega
        · gi_wp2
          refine bodyPost_ret (results_none rfl _ _ _) rfl ?_
          exact ⟨⟨_, rfl⟩, .inr ⟨_, trivial, hJx3⟩⟩
      · have NO : Hid (k = K) := by
          rcases Nat.lt_or_ge k K with h1 | h1
          · exact absurd (by have := (HKK.out.1 k h1).2; rw [HD.out] at this; exact this) hq
          · exact Nat.le_antisymm hk h1
        have g1 : ¬ (dseq : Int) = (k : Int) := by omega
        have g2 : ((dseq : Int) != (k : Int)) = true := by simpa using g1
        have g3 : ((dseq : Int) == (k : Int)) = false := by simpa using g1
        have g4 : decide (dseq = k) = false := by simpa using hq
        gi_wp2_with (refine ⟨trivial, ?_⟩; gi_at_call 192; refine (callsIn_wide.2 CD.out).mono ?_; rintro e w1 ⟨rfl, hb⟩; have HB1 := hide' hb; clear hb)
        refine ⟨fun _ h => (by cases h), ?_⟩
        gi_wp2
        refine bodyPost_ret (results_none rfl _ _ _) rfl ?_
        exact ⟨⟨_, rfl⟩, .inl ⟨pre, by rw [HP.out, NO.out], JA.out _ _ HB1.out⟩⟩
theorem sound_stops (n Bn n₀ : Nat) (hn : 1 ≤ n) (ao : Option Addr) (vl vc : Nat) (bs : List UInt8) (hl : bs.length ≤ 1000000000000) (K : Nat) (hK : Stops bs K) (w : World) (hBl : Bn < w.heap.size) (hn0 : n₀ ≤ w.heap.size)
    (hBn : w.cell? ⟨Bn, 0, none⟩ = some (.slice ao vl vc)) (hv : HoldsB w (.slice ao vl vc) bs) (hlo : ∀ ad, ao = some ad → ad.block < n₀) :
    SeqStopsK Fence.wide n Tryz.prog 191 #[lptr Bn] reE (KpR n₀ Bn) (fun ys => ys = (List.range K).map (fun i => (rcOf (recR bs i), atR bs (i + 1)))) (fun _ => True) K w := fun l J Jx W hW hJ _ hY h0 => by
  refine (sound1_in n l Bn n₀ K hn ao vl vc bs hl J Jx K hK (Nat.le_refl _) W hJ hY ((hW.cell (p := ⟨Bn, 0, none⟩) hBl).trans hBn) (holdsB_mono hv hW) ⟨Nat.lt_of_lt_of_le hBl hW.size, Nat.le_trans hn0 hW.size, hlo⟩ h0).mono ?_
  intro e W' h
  exact h
theorem stops_ex (bs : List UInt8) : ∃ K, Stops bs K := by
  have key : ∀ f k, bs.length + 1 ≤ f + k → (∀ i, i < k → okR bs i) → ∃ K, Stops bs K := by
    intro f
    induction f with
    | zero =>
      intro k h1 h2
      have h3 := atR_grow bs k h2
      have h4 := atR_le bs k
      omega
    | succ f ih =>
      intro k h1 h2
      by_cases h : okR bs k
      · refine ih (k + 1) (by omega) (fun i hi => ?_)
        by_cases e : i = k
        · rw [e]; exact h
        · exact h2 i (by omega)
      · exact ⟨k, h2, h⟩
  exact key (bs.length + 1) 0 (by omega) (fun i hi => absurd hi (by omega))
def endR (pre : List RE) : Nat := (pre.getLast?.map (fun x => x.2)).getD 0
def Box4 (W : World) (b : Nat) (p : Rc) : Prop := W.heap[b]? = some (.cells #[.int .i64 p.1, .int .i64 p.2.1, .int .i64 p.2.2.1, .string ⟨p.2.2.2.toArray⟩] 107)
theorem end_rep (bs : List UInt8) (K : Nat) : endR ((List.range K).map (fun i => (rcOf (recR bs i), atR bs (i + 1)))) = atR bs K := by
  cases K with
  | zero => rfl
  | succ K => unfold endR; rw [List.range_succ, List.map_append]; simp
theorem box4_cells {W : World} {b : Nat} {p : Rc} (h : Box4 W b p) : W.cell? ⟨b, 0, none⟩ = some (.int .i64 p.1) ∧ W.cell? ⟨b, 1, none⟩ = some (.int .i64 p.2.1) ∧ W.cell? ⟨b, 2, none⟩ = some (.int .i64 p.2.2.1) ∧ W.cell? ⟨b, 3, none⟩ = some (.string ⟨p.2.2.2.toArray⟩) :=
  ⟨by simp [World.cell?, show W.heap[b]? = _ from h], by simp [World.cell?, show W.heap[b]? = _ from h], by simp [World.cell?, show W.heap[b]? = _ from h], by simp [World.cell?, show W.heap[b]? = _ from h]⟩
theorem cells4_new (W : World) (p : Rc) : ∀ j u, (celR p)[j]? = some u → (W.alloc (.cells #[.int .i64 p.1, .int .i64 p.2.1, .int .i64 p.2.2.1, .string ⟨p.2.2.2.toArray⟩] 107)).cell? ((⟨W.heap.size, 0, none⟩ : Addr).add j) = some u := by
  intro j u hj
  match j, hj with
  | 0, hj => simp [celR] at hj; subst hj; simp [Addr.add]
  | 1, hj => simp [celR] at hj; subst hj; simp [Addr.add]
  | 2, hj => simp [celR] at hj; subst hj; simp [Addr.add]
  | 3, hj => simp [celR] at hj; subst hj; simp [Addr.add, S]
set_option maxHeartbeats 4000000 in
theorem replayC (ao : Option Addr) (vl vc : Nat) (bs : List UInt8) (w : World) (hv : HoldsB w (.slice ao vl vc) bs) (hl : bs.length ≤ 1000000000000) (hlo : ∀ ad, ao = some ad → ad.block < w.heap.size) :
    Calls Tryz.prog 128 #[.slice ao vl vc] w fun e w' => ∃ K u, e = .returned (.tuple #[u, .int .i64 (atR bs K : Int)]) ∧ Stops bs K ∧ OwnR w u (repR bs K) w' := by
  obtain ⟨K, hK⟩ := stops_ex bs
  refine (callsIn_wide (n := 3)).1 ?_
  refine callsIn_of_wp_marks Tryz.func128 rfl trivial ?_ rfl
  simp only [Tryz.ntmps128, List.size_toArray, List.length_cons, List.length_nil, Nat.reduceAdd, Nat.reduceSub, Array.replicate_succ, Array.replicate_zero, List.push_toArray, List.append_toArray, List.nil_append, List.cons_append]
  gi_wp2_with (refine ⟨trivial, ?_⟩; gi_at_call 166; refine (callsIn_wide.2 (soundC ao vl vc _)).mono ?_; rintro e w' ⟨rfl, rfl⟩)
  have bL := ((Boxed.new w 96 (.slice none 0 0)).alloc (.cells #[.int .i64 0] 3)).alloc (.cells #[.slice ao vl vc] 57)
  have bE := (Boxed.new (w.alloc (.cells #[.slice none 0 0] 96)) 3 (.int .i64 0)).alloc (.cells #[.slice ao vl vc] 57)
  have bB := Boxed.new ((w.alloc (.cells #[.slice none 0 0] 96)).alloc (.cells #[.int .i64 0] 3)) 57 (.slice ao vl vc)
  simp only [World.size_alloc] at bE bB
  have hB0 : Below w.heap.size w (((w.alloc (.cells #[.slice none 0 0] 96)).alloc (.cells #[.int .i64 0] 3)).alloc (.cells #[.slice ao vl vc] 57)) := (((Below.refl _ w).alloc (Nat.le_refl _) _).alloc (by simp) _).alloc (by simp; omega) _
  have hsz : (((w.alloc (.cells #[.slice none 0 0] 96)).alloc (.cells #[.int .i64 0] 3)).alloc (.cells #[.slice ao vl vc] 57)).heap.size = w.heap.size + 3 := by simp
  obtain ⟨W0, hW0⟩ : ∃ W0, ((w.alloc (.cells #[.slice none 0 0] 96)).alloc (.cells #[.int .i64 0] 3)).alloc (.cells #[.slice ao vl vc] 57) = W0 := ⟨_, rfl⟩
  rw [hW0] at bL bE bB hB0 hsz ⊢
  clear hW0
  have hv0 := holdsB_mono hv hB0
  obtain ⟨i0, hi, hz0, hz1, hz2⟩ := info_parts Tryz.info107
  have hKl := stops_le hK
  refine wpIn_rangeFunc_ownH rfl (by decide) (gf := 191) (lb := #[lptr (w.heap.size + 1 + 1)]) rfl trivial (enters_of Tryz.func191 (by kernel_rfl) rfl)
    (sound_stops 2 (w.heap.size + 1 + 1) w.heap.size (by decide) ao vl vc bs hl K hK W0 (by omega) (by omega) bB.cell hv0 hlo) kpR_t (kpR_b (by omega) (by omega)) (Below.refl _ _) (fun _ => rfl)
    (fun pre W => ((∃ v, Boxed W w.heap.size 96 v ∧ W.ownsRow w.heap.size 107 4 v pre.length (cellsR (pre.map (fun x => x.1))) ∧ True) ∧ (Boxed W (w.heap.size + 1) 3 (.int .i64 (endR pre : Int)) ∧ Boxed W (w.heap.size + 1 + 1) 57 (.slice ao vl vc))) ∧ Below w.heap.size w W)
    (fun _ _ _ => False)
    (OwnFrom.and (OwnFrom.and (Go.Own.from (holdsRow_own w.heap.size w.heap.size 96 107 4 (fun pre : List RE => pre.length) (fun pre : List RE => cellsR (pre.map (fun x => x.1))) (fun _ _ => True)) _) (OwnFrom.and (Go.Own.from (boxed_own _ _ _) _) (Go.Own.from (boxed_own _ _ _) _))) (ownFrom_below (Nat.le_refl _) (by omega)))
    (fun _ _ _ _ _ hs _ _ => hs)
    ⟨⟨⟨_, bL, World.ownsRow_nil _ _ _ _, trivial⟩, bE, bB⟩, hB0⟩
    (fun x a' W => ∃ Bx, w.heap.size + 1 + 1 < Bx ∧ Box4 W Bx x.1 ∧ a' = { tmps := #[.slice ao vl vc, undef, .slice none 0 0, .int .i64 0, .pointer (some ⟨w.heap.size, 0, none⟩), .pointer (some ⟨w.heap.size + 1, 0, none⟩), .pointer (some ⟨Bx, 0, none⟩), .int .i64 (x.2 : Int), .slice ao vl vc, .func (.func 191) #[] #[lptr (w.heap.size + 1 + 1)], .agg #[.int .i64 x.1.1, .int .i64 x.1.2.1, .int .i64 x.1.2.2.1, .string ⟨x.1.2.2.2.toArray⟩], .int .i64 (x.2 : Int), undef, undef, undef, undef, undef, undef, undef], defers := [] })
    (fun x a' _ X Y row hs hg hr => by
      obtain ⟨Bx, h1, h2, h3⟩ := hs
      refine ⟨Bx, h1, ?_, h3⟩
      have hlt := (Array.getElem?_eq_some_iff.1 h2).1
      refine (hg.block Bx hlt (fun e => ?_)).trans h2
      obtain ⟨_, o, ho, hc⟩ := hr Bx e.symm
      rw [show X.heap[Bx]? = _ from h2] at ho
      cases ho
      cases hc)
    ?assign ?body ?done ?stop
  case assign =>
    rintro l pre x W K ⟨⟨⟨v, hv1, hr1, _⟩, hE1, hB1⟩, hB2⟩ hK
    unfold reE
    gi_wp2
    exact hK _ _ ((KeepsOthers.alloc _ _).from _) (kpR_below (bel_a W _) hB2.size) ⟨⟨⟨v, hv1.alloc _, hr1.alloc _, trivial⟩, hE1.alloc _, hB1.alloc _⟩, hB2.alloc hB2.size _⟩ ⟨W.heap.size, hB1.lt, World.alloc_heap_new W _, rfl⟩
  case body =>
    rintro l pre x a' W hl ⟨r, hr⟩ ⟨⟨⟨v, hv1, hrow, _⟩, hE1, hB1⟩, hB2⟩ ⟨Bx, hBx, h4, rfl⟩ hlt
    have hc := hv1.cell
    obtain ⟨x0, x1, x2, x3⟩ := box4_cells h4
    have hlen : pre.length < K := hlt
    gi_wp2_with (gi_at_builtin; refine wpListIn_append_own _ rfl _ _ 96 rfl w.heap.size 107 i0 (.agg #[.int .i64 0, .int .i64 0, .int .i64 0, .string ⟨#[]⟩]) 4 40 Tryz.underlying96 hi hz0 hz1 hz2 rfl (by decide) _ _ _ rfl (hrow.alloc _) ⟨W.heap.size, 0, none⟩ 1 1 (celR x.1) rfl rfl (cells4_new _ _) (by intro u hu; simp [celR] at hu; rcases hu with rfl | rfl | rfl | rfl <;> rfl) (by unfold maxLen; omega) (by omega) (by have := hB2.size; simp; omega) ?_; intro v' w1 hown' hgrow _; obtain ⟨g', cap', rfl⟩ := ownsRow_succ hown'; obtain ⟨hv2, hv3, hr2, hk2, hb2⟩ := hv1.appended (by decide) hrow hB2.size (Nat.le_refl _) hown' hgrow; have hc1 := hv2.cell; have hf1 := hv2.frozen; have hE2 : Boxed w1 (w.heap.size + 1) 3 (.int .i64 (endR pre : Int)) := (hE1.alloc _).kept hgrow (hE1.not_row (by decide) hrow); have hB3 : Boxed w1 (w.heap.size + 1 + 1) 57 (.slice ao vl vc) := (hB1.alloc _).kept hgrow (hB1.not_row (by decide) hrow); have hE3 := hE2.other (by omega : w.heap.size + 1 ≠ w.heap.size) (.slice (some ⟨g', 0, none⟩) (pre.length + 1) cap'); have hB4 := hB3.other (by omega : w.heap.size + 1 + 1 ≠ w.heap.size) (.slice (some ⟨g', 0, none⟩) (pre.length + 1) cap'); have hc2 := hE3.cell; have hf2 := hE3.frozen)
    have hbb := hb2.setCell (p := ⟨w.heap.size + 1, 0, none⟩) (by simp) (.int .i64 (x.2 : Int))
    have hB5 := hB4.other (by omega : w.heap.size + 1 + 1 ≠ w.heap.size + 1) (.int .i64 (x.2 : Int))
    have hr3 := hr2.kept (grownBy_setCell' _ (w.heap.size + 1) (.int .i64 (x.2 : Int))) (.inr (hE3.not_row (by decide) hr2).symm)
    refine ⟨(hk2.trans (KeepsOthers.setCell _ _ _)).from _, ⟨hbb, fun _ => (show _ = _ from hB5).trans (show _ = _ from hB1).symm⟩, ⟨⟨⟨_, hv3.other (by omega) _, ?_, trivial⟩, ?_, hB5⟩, hB2.trans hbb⟩⟩
    · rw [List.map_append, List.length_append, List.map_cons, List.map_nil, cellsR_snoc]; exact hr3
    · rw [show endR (pre ++ [x]) = x.2 by simp [endR]]; exact hE3.set _
  case done =>
    rintro D ys W hD rfl ⟨⟨⟨v, hv1, hrow, _⟩, hE1, hB1⟩, hB2⟩ hKD
    have hc := hv1.cell
    have hc2 := hE1.cell
    gi_wp2
    gi_region
    all_goals
      gi_wp2
      refine ⟨by simp, .inl ⟨_, _, rfl, run_takeDeferred (show W.drew.heap[D]? = _ from hKD), ?_⟩⟩
      refine ⟨_, results_tmp2 rfl _ _ _, K, v, ?_, hK, ?_, ?_⟩
      · rw [← end_rep]; rfl
      · rw [repR_len]
        have hq : (List.range K).map (fun i => rcOf (recR bs i)) = ((List.range K).map (fun i => (rcOf (recR bs i), atR bs (i + 1)))).map (fun x => x.1) := by rw [List.map_map]; rfl
        have hrw := ownsRow_putObj hrow.drew (.deferred none) (show W.drew.heap[D]? = _ from hKD) rfl
        rw [List.length_map, List.length_range, ← hq] at hrw
        exact hrw
      · exact hB2.drew.trans (belowK_b (w := w) (Nat.le_refl _) W.drew D _ _ (by omega) hKD rfl rfl)
  case stop =>
    rintro D c pre W _ _ h _
    exact h.elim
end Go.Proofs.YtibjcofbhldenaaGreatDoor
