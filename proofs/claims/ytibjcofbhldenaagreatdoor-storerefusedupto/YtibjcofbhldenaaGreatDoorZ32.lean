/- The contract of Add. The contracts of removeUnfinished, of read where there is no log yet, of Open over whatever read answers. -/
import Derived.Deep.RegionHeld3
import Derived.BigQuiet
import Derived.Test.YtibjcofbhldenaaGreatDoorZ31
import Derived.Test.YtibjcofbhldenaaGreatDoorZ15
namespace Go.Proofs.YtibjcofbhldenaaGreatDoor
open Go.RowKit Go.Shelf
set_option maxRecDepth 20000
def addR (b : List UInt8) (st : LSt) : LSt × Int := runT [opT ⟨2, lgN, [], b⟩, setT (st.2 + 1), opT ⟨3, lgN, [], []⟩] st
def addT (op no : Int) (id : List UInt8) (st : LSt) : LSt × Int := if (encOf st.2 op no id).2 = 0 then addR (encOf st.2 op no id).1 st else (st, (encOf st.2 op no id).2)
theorem enc_seq {seq op no : Int} {id : List UInt8} (h : (encOf seq op no id).2 = 0) : 0 ≤ seq ∧ seq ≤ 4294967295 := by
  unfold encOf at h
  split at h
  · rename_i h1; exact h1.2.1
  · exact absurd h (by decide)
theorem byt_own {o : Ow} {g lb : Nat} {s : Dk} {c : Int} {W0 W : World} {v : Value} {bs : List UInt8} (h : LogS o g lb s c W0) (ho : Own W0 v bs W) : Byt o lb v bs W := by
  refine ⟨holdsB_own ho, fun ad n c' e => ?_⟩
  subst e
  have hx := ho.1.lt ad.block (by
    obtain ⟨hl, h1 | ⟨gg, cap, cur, hv, _⟩⟩ := id ho.1
    · cases h1.1
    · simp only [Value.slice.injEq, Option.some.injEq] at hv; rw [hv.1]; rfl)
  exact ⟨none_of_lt (dsk_lt h.dsk) hx.1, by have := h.blk.2; omega, hx.2⟩
theorem count_any {o : Ow} {g lb bx : Nat} {s : Dk} {c c' : Int} {W : World} (h : LogS o g lb s c W) (hx : Cap o lb bx (lptr lb) W) : ∀ w', Below W.heap.size W w' → Calls Tryz.prog 98 #[lptr lb, .int .i64 c'] w' fun e w'' =>
    ∃ bc bl, e = .returned (.func (.func 141) #[] #[lptr bc, lptr bl]) ∧ Hid (Below W.heap.size W w'' ∧ Cap o lb bc (.int .i64 c') w'' ∧ Cap o lb bl (lptr lb) w'') ∧ w''.cell? ⟨bx, 0, none⟩ = some (lptr lb) ∧ w''.cell? ⟨lb, 0, none⟩ = some (lptr g) ∧ w''.cell? ⟨lb, 1, none⟩ = some (.int .i64 c) := by
  intro w' hb
  refine (countF lb c' w').mono ?_
  rintro e w'' ⟨rfl, rfl⟩
  have h1 := logS_below h hb
  have b1 := bel_a w' (.cells #[lptr lb] 95)
  have h2 := logS_below h1 b1
  have b2 := bel_a (w'.alloc (.cells #[lptr lb] 95)) (.cells #[.int .i64 c'] 3)
  have k2 := cap_new h2 (.int .i64 c') 3
  rw [World.size_alloc] at k2
  obtain ⟨j0, j1, _⟩ := logS_cells (logS_below h2 b2)
  exact ⟨_, _, rfl, ⟨hb.trans ((b1.trans (b2.mono b1.size)).mono hb.size), k2, cap_below (cap_new h1 (lptr lb) 95) b2⟩, cap_cell (cap_below (cap_below (cap_below hx hb) b1) b2), j0, j1⟩
set_option maxHeartbeats 4000000 in
theorem addC {o : Ow} {g lb : Nat} {s : Dk} {c : Int} {W : World} (h : LogS o g lb s c W) (m : Nat) (hB : Bd m s) (op no : Int) (id : List UInt8) (hid : id.length ≤ 1000000000000000) (hm : m ≤ 60000000) :
    Calls Tryz.prog 56 #[lptr lb, .int .i64 op, .int .i64 no, .string ⟨id.toArray⟩] W fun e W' => LPost o g lb (addT op no id (s, c)) W e W' ∧ Bd (m + 13000) (addT op no id (s, c)).1.1 := by
  have b1 := bel_a W (.cells #[lptr lb] 95)
  have h1 := logS_below h b1
  have k1 := cap_new h (lptr lb) 95
  obtain ⟨W1, hW1⟩ : ∃ W1, W1 = W.alloc (.cells #[lptr lb] 95) := ⟨_, rfl⟩
  have z1 : W1.heap.size = W.heap.size + 1 := by rw [hW1]; simp
  obtain ⟨c0, c1, _⟩ := logS_cells h1
  have kc := cap_cell k1
  have CE := hide' (encC c op no id (W.alloc (.cells #[lptr lb] 95)) hid)
  unfold recV at CE
  rw [← hW1] at b1 h1 k1
  have H1 := hide' h1
  have K1 := hide' k1
  have B1 := hide' b1
  have HW1 := hide' hW1
  have HB := hide' hB
  clear h h1 k1 b1 hW1 hB
  by_cases hz : (encOf c op no id).2 = 0
  · have R : Hid (addT op no id (s, c) = addR (encOf c op no id).1 (s, c)) := by unfold Hid addT; rw [if_pos hz]
    have LN : Hid ((encOf c op no id).1.length ≤ 4111) := by
      unfold Hid; unfold encOf at hz ⊢
      split
      · rename_i h2; rw [if_pos h2] at hz
        split
        · show (recL _ _ _ _).length ≤ _; rw [recL_len]; omega
        · exact Nat.zero_le _
      · exact Nat.zero_le _
    obtain ⟨hc0, hc1⟩ := enc_seq hz
    have qw : IntKind.i64.wrap (c + 1) = c + 1 := wrap_small _ (by omega) (by omega)
    rw [hz] at CE
    clear hz
    generalize (encOf c op no id).1 = d at CE R LN
    go_enter Tryz.func56, Tryz.ntmps56
    go_wp2_with fail
    refine CE.out.mono ?_
    rw [← HW1.out]
    rintro e w2 ⟨u, rfl, hu⟩
    obtain ⟨ua, ul, uc, rfl⟩ := own_sl hu
    have b3 := bel_a w2 (.cells #[.slice ua ul uc] 57)
    have h2 := logS_below H1.out hu.2
    have h3 := logS_below h2 b3
    have k3 := cap_below (cap_below K1.out hu.2) b3
    have d3 := byt_below (byt_own H1.out hu) b3
    have k4 := cap_new h2 (.slice ua ul uc) 57
    obtain ⟨W3, hW3⟩ : ∃ W3, W3 = w2.alloc (.cells #[.slice ua ul uc] 57) := ⟨_, rfl⟩
    obtain ⟨c0, c1, _⟩ := logS_cells h3
    have kc := cap_cell k3
    have CC := hide' (count_any (c' := c + 1) h3 k3)
    have C : Hid (∀ w'' w' b bc bl, Hid (Below W3.heap.size W3 w'' ∧ Cap o lb bc (.int .i64 (c + 1)) w'' ∧ Cap o lb bl (lptr lb) w'') → Below w''.heap.size w'' w' → w''.heap.size ≤ b → b < w'.heap.size →
        w'.cell? ⟨b, 0, none⟩ = some (.func (.func 96) #[] #[lptr W.heap.size, lptr w2.heap.size]) → w'.cell? ⟨b, 1, none⟩ = some (.func (.func 141) #[] #[lptr bc, lptr bl]) → w'.cell? ⟨b, 2, none⟩ = some (.func (.func 99) #[lptr lb] #[]) →
        Calls Tryz.prog 84 #[.slice (some ⟨b, 0, none⟩) 3 3] w' fun e W' => (LPost o g lb (addR d (s, c)) W e W' ∧ Bd (m + 3 * (2 + d.length)) (addR d (s, c)).1.1) ∧ W'.cell? ⟨W.heap.size, 0, none⟩ = some (lptr lb) ∧ W'.cell? ⟨lb, 0, none⟩ = some (lptr g)) := by
      intro w'' w' b bc bl hh hb hbl hbs e0 e1 e2
      obtain ⟨hb3, hbc, hbl2⟩ := hh.out
      rw [← hW3] at h3 k3 k4 d3
      have h4 := logS_below (logS_below h3 hb3) hb
      have q1 := cap_below (cap_below k3 hb3) hb
      have q2 := cap_below (cap_below k4 hb3) hb
      have q3 := byt_below (byt_below d3 hb3) hb
      have q4 := cap_below hbc hb
      have q5 := cap_below hbl2 hb
      have hm' : m + 3 * (2 + d.length) ≤ 80000000 := by have := LN.out; omega
      refine (turnL h4 b 3 m (2 + d.length) [.func (.func 96) #[] #[lptr W.heap.size, lptr w2.heap.size], .func (.func 141) #[] #[lptr bc, lptr bl], .func (.func 99) #[lptr lb] #[]] [opT ⟨2, lgN, [], d⟩, setT (c + 1), opT ⟨3, lgN, [], []⟩] rfl rfl (by decide) (fun j hj => ?_) hbs (none_of_lt (dsk_lt (logS_below h3 hb3).dsk) hbl) (by have := (logS_below h3 hb3).blk.2; omega) HB.out (fun i i1 i2 => ?_)).mono ?_
      · match j, hj with
        | 0, _ => exact e0
        | 1, _ => exact e1
        | 2, _ => exact e2
      · match i, i1 with
        | 0, _ => exact stepV_of (enters_of Tryz.func96 (by kernel_rfl) rfl) (fun o' st w hl' hg hb => addF1 hl' (cap_grow q1 hg) (cap_grow q2 hg) (byt_grow q3 hg) (by omega) (bd_mono hb (by omega))) (bd_op _ (Nat.le_refl _))
        | 1, _ => exact stepV_of (enters_of Tryz.func141 (by kernel_rfl) rfl) (fun o' st w hl' hg hb => countF1 hl' (cap_grow q4 hg) (cap_grow q5 hg)) (bd_set _)
        | 2, _ => exact stepV_of (enters_of Tryz.func99 (by kernel_rfl) rfl) (fun o' st w hl' hg hb => syncF hl' (bd_mono hb (by omega))) (bd_op _ (by show 2 + 0 ≤ _; omega))
      · rintro e W' ⟨P, hbd⟩
        have bb := B1.out.trans ((hu.2.trans (((hW3 ▸ b3 : Below w2.heap.size w2 W3).trans ((hb3.trans (hb.mono hb3.size)).mono (hW3 ▸ b3 : Below w2.heap.size w2 W3).size)).mono hu.2.size)).mono B1.out.size)
        have P2 := P
        obtain ⟨_, o', hl', hg'⟩ := P2
        exact ⟨⟨lpost_from (growL_below bb) P, hbd⟩, cap_cell (cap_grow q1 hg'), (logS_cells hl').1⟩
    rw [hW3] at C
    clear hu h2 h3 k3 k4 d3 b3 hW3
    go_wp2_with fail
    refine wp_region_held_drew (S := fun w' => w'.cell? ⟨W.heap.size, 0, none⟩ = some (lptr lb) ∧ w'.cell? ⟨lb, 0, none⟩ = some (lptr g)) (by kernel_rfl) ?_ (fun hHeld => ?_)
    · (try dsimp only); go_keep
    refine wpAnyH_take (i := 0) (v := ?_) rfl (by kernel_rfl) (by kernel_rfl) (by kernel_rfl) (fun _ _ _ h => h) (Or.inl ⟨by rfl, ?_⟩) (by assumption) ?_
    rotate_left
    · intro w hSw; (try dsimp only at hSw); go_simp; all_goals with_reducible rfl
    refine wpAnyH_take (i := 1) (v := ?_) rfl (by kernel_rfl) (by kernel_rfl) (by kernel_rfl) (fun _ _ _ h => h) (Or.inl ⟨by rfl, ?_⟩) (by assumption) ?_
    rotate_left
    · intro w hSw; (try dsimp only at hSw); go_simp; all_goals with_reducible rfl
    refine wpAnyH_take (i := 2) (v := ?_) rfl (by kernel_rfl) (by kernel_rfl) (by kernel_rfl) (fun _ _ _ h => h) (Or.inl ⟨by rfl, ?_⟩) (by assumption) ?_
    rotate_left
    · intro w hSw; (try dsimp only at hSw); go_simp; all_goals with_reducible rfl
    refine wpAnyH_take (i := 3) (v := ?_) rfl (by kernel_rfl) (by kernel_rfl) (by kernel_rfl) (fun _ _ _ h => h) (Or.inl ⟨by rfl, ?_⟩) (by assumption) ?_
    rotate_left
    · intro w hSw; (try dsimp only at hSw); go_simp; all_goals with_reducible rfl
    refine wpAnyH_take (i := 4) (v := ?_) rfl (by kernel_rfl) (by kernel_rfl) (by kernel_rfl) (fun _ _ _ h => h) (Or.inl ⟨by rfl, ?_⟩) (by assumption) ?_
    rotate_left
    · intro w hSw; (try dsimp only at hSw); go_simp; all_goals with_reducible rfl
    refine wpAnyH_take (i := 8) (v := ?_) rfl (by kernel_rfl) (by kernel_rfl) (by kernel_rfl) (fun _ _ _ h => h) (Or.inl ⟨by rfl, ?_⟩) (by assumption) ?_
    rotate_left
    · intro w hSw; (try dsimp only at hSw); go_simp; all_goals with_reducible rfl
    refine wpAnyH_take (i := 9) (v := ?_) rfl (by kernel_rfl) (by kernel_rfl) (by kernel_rfl) (fun _ _ _ h => h) (Or.inl ⟨by rfl, ?_⟩) (by assumption) ?_
    rotate_left
    · intro w hSw; (try dsimp only at hSw); go_simp; all_goals with_reducible rfl
    refine wpAnyH_ready (rs := [5]) (by kernel_rfl) (by simp) ?_
    refine AllReadyH.cons rfl (fun K hK => ?_) AllReadyH.nil
    go_simp
    refine hK.out _ _ ?_ (fun hHeld => ?_)
    · (try dsimp only); go_keep
    clear hK K
    refine wpAnyH_take (i := 6) (v := ?_) rfl (by kernel_rfl) (by kernel_rfl) (by kernel_rfl) (fun _ _ _ h => h) (Or.inl ⟨by rfl, ?_⟩) (by assumption) ?_
    rotate_left
    · intro w hSw; (try dsimp only at hSw); go_simp; all_goals with_reducible rfl
    refine wpAnyH_ready (rs := [7]) (by kernel_rfl) (by simp) ?_
    refine AllReadyH.cons rfl (fun K hK => ?_) AllReadyH.nil
    go_simp
    refine (CC.out _ ?_).mono ?_
    · (first | exact (Below.refl _ _).drew | exact Below.refl _ _)
    rintro e w4 ⟨bc, bl, rfl, P4, j0, j1, j2⟩
    go_wp2_with fail
    refine hK.out _ _ ?_ (fun hHeld => ?_)
    · (try dsimp only); go_keep
    clear hK K
    refine wpAnyH_ready (rs := [10]) (by kernel_rfl) (by simp) ?_
    refine AllReadyH.cons rfl (fun K hK => ?_) AllReadyH.nil
    go_simp
    refine hK.out _ _ ?_ (fun hHeld => ?_)
    · (try dsimp only); go_keep
    clear hK K
    refine wpAnyH_ready (rs := [11]) (by kernel_rfl) (by simp) ?_
    refine AllReadyH.cons rfl (fun K hK => ?_) AllReadyH.nil
    go_simp
    refine (C.out _ _ _ _ _ P4 ?_ ?_ ?_ ?_ ?_ ?_).mono ?_
    · (first | exact bel_a _ _ | exact bel_da _ _ | exact bel_ad _ _)
    · simp
    · simp
    · simp
    · simp
    · simp
    rintro e w5 ⟨P, j3, j4⟩
    have PP := hide' P
    obtain ⟨⟨rfl, _⟩, _⟩ := P
    go_wp2_with fail
    refine hK.out _ _ ?_ (fun hHeld => ?_)
    · (try dsimp only); go_keep
    clear hK K
    refine wpAnyH_ready (rs := [12]) (by kernel_rfl) (by simp) ?_
    refine AllReadyH.cons rfl (fun K hK => ?_) AllReadyH.nil
    go_simp
    refine hK.out _ _ ?_ (fun hHeld => ?_)
    · (try dsimp only); go_keep
    clear hK K
    refine wpAnyH_done (by kernel_rfl) ?_ _
    go_wp2_with fail
    go_ret
    rw [R.out]
    exact ⟨PP.out.1, bd_mono PP.out.2 (by have := LN.out; omega)⟩
  · have R : Hid (addT op no id (s, c) = ((s, c), (encOf c op no id).2)) := by unfold Hid addT; rw [if_neg hz]
    obtain ⟨y, hy⟩ : ∃ y, y = (encOf c op no id).2 := ⟨_, rfl⟩
    have hy0 : decide (y = 0) = false := by rw [decide_eq_false_iff_not, hy]; exact hz
    have hy2 : ¬ y = 0 := by rw [hy]; exact hz
    rw [← hy] at CE R
    clear hz hy
    go_enter Tryz.func56, Tryz.ntmps56
    go_wp2_with fail
    refine CE.out.mono ?_
    rw [← HW1.out]
    rintro e w2 ⟨u, rfl, hu⟩
    obtain ⟨ua, ul, uc, rfl⟩ := own_sl hu
    have b3 := bel_a w2 (.cells #[.slice ua ul uc] 57)
    have H3 := hide' (logS_below (logS_below H1.out hu.2) b3)
    have BB := hide' (B1.out.trans ((hu.2.trans (b3.mono hu.2.size)).mono B1.out.size))
    clear hu b3
    go_wp2_with fail
    go_ret
    rw [R.out]
    exact ⟨⟨rfl, o, H3.out, growL_below BB.out⟩, bd_mono HB.out (by omega)⟩
end Go.Proofs.YtibjcofbhldenaaGreatDoor
namespace Go.Proofs.YtibjcofbhldenaaGreatDoor
open Go.RowKit Go.Shelf
set_option maxRecDepth 20000
def remU (st : LSt) : LSt × Int := if nwN ∈ st.1.list then opT ⟨6, nwN, [], []⟩ st else (st, 0)
theorem list_le {m : Nat} {s : Dk} (h : Bd m s) : s.list.length ≤ m := by
  unfold Dk.list
  split
  · exact Nat.zero_le _
  · rw [List.length_map]; exact h.2.2.1
set_option maxHeartbeats 1000000 in
theorem removeUC {o : Ow} {g lb : Nat} {s : Dk} {c : Int} {W : World} (h : LogS o g lb s c W) (hB : Bd 90000000 s) :
    Calls Tryz.prog 85 #[lptr lb] W fun e W' => LPost o g lb (remU (s, c)) W e W' := by
  have CL := hide' (listC h.dsk (bd_mono hB (by decide)))
  have LN := hide' (list_le hB)
  obtain ⟨c0, _, _⟩ := logS_cells h
  have H := hide' h
  have HB := hide' hB
  clear h hB
  by_cases hm : nwN ∈ s.list
  · have R : Hid (remU (s, c) = opT ⟨6, nwN, [], []⟩ (s, c)) := by unfold Hid remU; rw [if_pos hm]
    have hd : Hid (decide (nwN ∈ s.list) = true) := by unfold Hid; simpa using hm
    clear hm
    go_enter Tryz.func85, Tryz.ntmps85
    go_wp2_with fail
    refine CL.out.mono ?_
    rintro e w1 ⟨v, rfl, hv⟩
    have CC := hide' (containsS v s.list nwN w1 (holds_own hv) (by have := LN.out; omega))
    rw [hd.out] at CC
    have h1 := logS_below H.out hv.2
    have B1 := hide' hv.2
    have C6 := hide' (removeC h1.dsk nwBa [] [] (by decide) (bd_mono HB.out (by decide)))
    obtain ⟨c1, _, _⟩ := logS_cells h1
    have H1 := hide' h1
    clear h1 hv
    go_wp2_with fail
    refine CC.out.mono ?_
    rintro e w2 ⟨rfl, ew⟩
    rw [ew]
    clear ew w2
    go_wp2_with fail
    refine C6.out.mono ?_
    intro e w3 sp
    have P := hide' (lpost_from (growL_below B1.out) (lpost_step H1.out sp))
    obtain ⟨rfl, _⟩ := sp
    go_wp2_with fail
    go_ret
    rw [R.out]
    exact P.out
  · have R : Hid (remU (s, c) = ((s, c), 0)) := by unfold Hid remU; rw [if_neg hm]
    have hd : Hid (decide (nwN ∈ s.list) = false) := by unfold Hid; simpa using hm
    clear hm
    go_enter Tryz.func85, Tryz.ntmps85
    go_wp2_with fail
    refine CL.out.mono ?_
    rintro e w1 ⟨v, rfl, hv⟩
    have CC := hide' (containsS v s.list nwN w1 (holds_own hv) (by have := LN.out; omega))
    rw [hd.out] at CC
    have B1 := hide' hv.2
    have H1 := hide' (logS_below H.out hv.2)
    clear hv
    go_wp2_with fail
    refine CC.out.mono ?_
    rintro e w2 ⟨rfl, ew⟩
    rw [ew]
    clear ew w2
    go_wp2_with fail
    go_ret
    rw [R.out]
    exact ⟨rfl, o, H1.out, growL_below B1.out⟩
/-- a list of records that lies aside from the log -/
def Rsd (o : Ow) (lb n0 : Nat) (v : Value) (rs : RL) (W : World) : Prop := HoldsR W v rs ∧ ∀ ad n c, v = .slice (some ad) n c → o ad.block = none ∧ ad.block ≠ lb ∧ n0 ≤ ad.block ∧ ad.block < W.heap.size
theorem rsd_nil (o : Ow) (lb n0 : Nat) (W : World) : Rsd o lb n0 (.slice none 0 0) [] W := ⟨holdsR_nil W, fun ad n c e => by cases e⟩
def RdPost (o : Ow) (g lb : Nat) (q : (LSt × Int) × RL) (W : World) (e : Ending) (W' : World) : Prop := ∃ lv o', e = .returned (.tuple #[lv, .int .i64 q.1.2]) ∧ LogS o' g lb q.1.1.1 q.1.1.2 W' ∧ GrowL lb o W o' W' ∧ Rsd o' lb W.heap.size lv q.2 W'
set_option maxHeartbeats 1000000 in
/-- where there is no log, one without records is begun -/
theorem readNone {o : Ow} {g lb : Nat} {s : Dk} {c : Int} {W : World} (h : LogS o g lb s c W) (m : Nat) (hm : m ≤ 80000000) (hB : Bd m s) (hr : (s.read lgN).2 = 90) :
    Calls Tryz.prog 83 #[lptr lb] W fun e W' => RdPost o g lb (beginT (s, c), []) W e W' ∧ Bd (m + 6) (beginT (s, c)).1.1 := by
  have CR := hide' (readC h.dsk lgB (by decide) (bd_mono hB (by omega)))
  have hr2 : (s.read (lgB).data.toList).2 = 90 := hr
  rw [hr2] at CR
  obtain ⟨c0, _, _⟩ := logS_cells h
  have H := hide' h
  have HB := hide' hB
  clear h hB hr hr2
  go_enter Tryz.func83, Tryz.ntmps83
  go_wp2_with fail
  refine CR.out.mono ?_
  rintro e w1 ⟨v, rfl, hv⟩
  have B1 := hide' hv.2
  have CB := hide' (beginC0 (logS_below H.out hv.2) m hm HB.out)
  obtain ⟨va, vl, vc, rfl⟩ := own_sl hv
  clear hv
  go_wp2_with fail
  refine CB.out.mono ?_
  rintro e w2 ⟨P, hbd⟩
  have PP := hide' P
  have HBD := hide' hbd
  obtain ⟨rfl, _⟩ := P
  clear hbd
  go_wp2_with fail
  go_ret2
  obtain ⟨_, o', hl, hg⟩ := lpost_from (growL_below B1.out) PP.out
  exact ⟨⟨_, o', rfl, hl, hg, rsd_nil _ _ _ _⟩, HBD.out⟩
end Go.Proofs.YtibjcofbhldenaaGreatDoor
