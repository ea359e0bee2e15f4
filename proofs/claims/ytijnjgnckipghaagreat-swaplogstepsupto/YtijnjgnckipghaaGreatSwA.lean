/- The contract of Add. -/
import Derived.Test.YtijnjgnckipghaaGreatBw14
import Derived.Deep.RegionHeld3
namespace Go.Proofs.YtijnjgnckipghaaGreat
open Go.RowKit Go.Shelf
set_option maxRecDepth 20000
def addR (b : List UInt8) (st : LSt) : LSt × Int := runT [opT ⟨2, lgN, [], b⟩, setT (st.2 + 1), opT ⟨3, lgN, [], []⟩] st
def addT (op no : Int) (id : List UInt8) (st : LSt) : LSt × Int := if (encOf st.2 op no id).2 = 0 then addR (encOf st.2 op no id).1 st else (st, (encOf st.2 op no id).2)
theorem enc_seq {seq op no : Int} {id : List UInt8} (h : (encOf seq op no id).2 = 0) : 0 ≤ seq ∧ seq ≤ 4294967295 := by
  unfold encOf at h
  split at h
  · rename_i h1; exact h1.2.1
  · exact absurd h (by decide)
theorem byt_own {o : Ow} {g lb : Nat} {s : Dk} {c : Int} {W0 W : World} {v : Value} {bs : List UInt8} (h : LogS o g lb s c W0) (ho : Own W0 v bs W) : Byt o lb v bs W := by
  refine ⟨holdsB_own ho, fun ad n c' e => ?_⟩
  subst e
  have hx := ho.1.lt ad.block (by
    obtain ⟨hl, h1 | ⟨gg, cap, cur, hv, _⟩⟩ := id ho.1
    · cases h1.1
    · simp only [Value.slice.injEq, Option.some.injEq] at hv; rw [hv.1]; rfl)
  exact ⟨none_of_lt (dsk_lt h.dsk) hx.1, by have := h.blk.2; omega, hx.2⟩
theorem count_any {o : Ow} {g lb bx : Nat} {s : Dk} {c c' : Int} {W : World} (h : LogS o g lb s c W) (hx : Cap o lb bx (lptr lb) W) : ∀ w', Below W.heap.size W w' → Calls Tryz.prog 46 #[lptr lb, .int .i64 c'] w' fun e w'' =>
    ∃ bc bl, e = .returned (.func (.func 82) #[] #[lptr bc, lptr bl]) ∧ Hid (Below W.heap.size W w'' ∧ Cap o lb bc (.int .i64 c') w'' ∧ Cap o lb bl (lptr lb) w'') ∧ w''.cell? ⟨bx, 0, none⟩ = some (lptr lb) ∧ w''.cell? ⟨lb, 0, none⟩ = some (lptr g) ∧ w''.cell? ⟨lb, 1, none⟩ = some (.int .i64 c) := by
  intro w' hb
  refine (countF lb c' w').mono ?_
  rintro e w'' ⟨rfl, rfl⟩
  have h1 := logS_below h hb
  have b1 := bel_a w' (.cells #[lptr lb] 41)
  have h2 := logS_below h1 b1
  have b2 := bel_a (w'.alloc (.cells #[lptr lb] 41)) (.cells #[.int .i64 c'] 3)
  have k2 := cap_new h2 (.int .i64 c') 3
  rw [World.size_alloc] at k2
  obtain ⟨j0, j1, _⟩ := logS_cells (logS_below h2 b2)
  exact ⟨_, _, rfl, ⟨hb.trans ((b1.trans (b2.mono b1.size)).mono hb.size), k2, cap_below (cap_new h1 (lptr lb) 41) b2⟩, cap_cell (cap_below (cap_below (cap_below hx hb) b1) b2), j0, j1⟩
set_option maxHeartbeats 4000000 in
theorem addC {o : Ow} {g lb : Nat} {s : Dk} {c : Int} {W : World} (h : LogS o g lb s c W) (m : Nat) (hB : Bd m s) (op no : Int) (id : List UInt8) (hid : id.length ≤ 1000000000000000) (hm : m ≤ 60000000) :
    Calls Tryz.prog 16 #[lptr lb, .int .i64 op, .int .i64 no, .string ⟨id.toArray⟩] W fun e W' => LPost o g lb (addT op no id (s, c)) W e W' ∧ Bd (m + 13000) (addT op no id (s, c)).1.1 := by
  have b1 := bel_a W (.cells #[lptr lb] 41)
  have h1 := logS_below h b1
  have k1 := cap_new h (lptr lb) 41
  obtain ⟨W1, hW1⟩ : ∃ W1, W1 = W.alloc (.cells #[lptr lb] 41) := ⟨_, rfl⟩
  have z1 : W1.heap.size = W.heap.size + 1 := by rw [hW1]; simp
  obtain ⟨c0, c1, _⟩ := logS_cells h1
  have kc := cap_cell k1
  have CE := hide' (encC c op no id (W.alloc (.cells #[lptr lb] 41)) hid)
  unfold recV at CE
  rw [← hW1] at b1 h1 k1
  have H1 := hide' h1
  have K1 := hide' k1
  have B1 := hide' b1
  have HW1 := hide' hW1
  have HB := hide' hB
  clear h h1 k1 b1 hW1 hB
  by_cases hz : (encOf c op no id).2 = 0
  · have R : Hid (addT op no id (s, c) = addR (encOf c op no id).1 (s, c)) := by unfold Hid addT; rw [if_pos hz]
    have LN : Hid ((encOf c op no id).1.length ≤ 4111) := by
      unfold Hid; unfold encOf at hz ⊢
      split
      · rename_i h2; rw [if_pos h2] at hz
        split
        · show (recL _ _ _ _).length ≤ _; rw [recL_len]; omega
        · exact Nat.zero_le _
      · exact Nat.zero_le _
    obtain ⟨hc0, hc1⟩ := enc_seq hz
    have qw : IntKind.i64.wrap (c + 1) = c + 1 := wrap_small _ (by omega) (by omega)
    rw [hz] at CE
    clear hz
    generalize (encOf c op no id).1 = d at CE R LN
    go_enter Tryz.func16, Tryz.ntmps16
    go_wp2_with fail
    refine CE.out.mono ?_
    rw [← HW1.out]
    rintro e w2 ⟨u, rfl, hu⟩
    obtain ⟨ua, ul, uc, rfl⟩ := own_sl hu
    have b3 := bel_a w2 (.cells #[.slice ua ul uc] 67)
    have h2 := logS_below H1.out hu.2
    have h3 := logS_below h2 b3
    have k3 := cap_below (cap_below K1.out hu.2) b3
    have d3 := byt_below (byt_own H1.out hu) b3
    have k4 := cap_new h2 (.slice ua ul uc) 67
    obtain ⟨W3, hW3⟩ : ∃ W3, W3 = w2.alloc (.cells #[.slice ua ul uc] 67) := ⟨_, rfl⟩
    obtain ⟨c0, c1, _⟩ := logS_cells h3
    have kc := cap_cell k3
    have CC := hide' (count_any (c' := c + 1) h3 k3)
    have C : Hid (∀ w'' w' b bc bl, Hid (Below W3.heap.size W3 w'' ∧ Cap o lb bc (.int .i64 (c + 1)) w'' ∧ Cap o lb bl (lptr lb) w'') → Below w''.heap.size w'' w' → w''.heap.size ≤ b → b < w'.heap.size →
        w'.cell? ⟨b, 0, none⟩ = some (.func (.func 49) #[] #[lptr W.heap.size, lptr w2.heap.size]) → w'.cell? ⟨b, 1, none⟩ = some (.func (.func 82) #[] #[lptr bc, lptr bl]) → w'.cell? ⟨b, 2, none⟩ = some (.func (.func 51) #[lptr lb] #[]) →
        Calls Tryz.prog 26 #[.slice (some ⟨b, 0, none⟩) 3 3] w' fun e W' => (LPost o g lb (addR d (s, c)) W e W' ∧ Bd (m + 3 * (2 + d.length)) (addR d (s, c)).1.1) ∧ W'.cell? ⟨W.heap.size, 0, none⟩ = some (lptr lb) ∧ W'.cell? ⟨lb, 0, none⟩ = some (lptr g)) := by
      intro w'' w' b bc bl hh hb hbl hbs e0 e1 e2
      obtain ⟨hb3, hbc, hbl2⟩ := hh.out
      rw [← hW3] at h3 k3 k4 d3
      have h4 := logS_below (logS_below h3 hb3) hb
      have q1 := cap_below (cap_below k3 hb3) hb
      have q2 := cap_below (cap_below k4 hb3) hb
      have q3 := byt_below (byt_below d3 hb3) hb
      have q4 := cap_below hbc hb
      have q5 := cap_below hbl2 hb
      have hm' : m + 3 * (2 + d.length) ≤ 80000000 := by have := LN.out; omega
      refine (turnL h4 b 3 m (2 + d.length) [.func (.func 49) #[] #[lptr W.heap.size, lptr w2.heap.size], .func (.func 82) #[] #[lptr bc, lptr bl], .func (.func 51) #[lptr lb] #[]] [opT ⟨2, lgN, [], d⟩, setT (c + 1), opT ⟨3, lgN, [], []⟩] rfl rfl (by decide) (fun j hj => ?_) hbs (none_of_lt (dsk_lt (logS_below h3 hb3).dsk) hbl) (by have := (logS_below h3 hb3).blk.2; omega) HB.out (fun i i1 i2 => ?_)).mono ?_
      · match j, hj with
        | 0, _ => exact e0
        | 1, _ => exact e1
        | 2, _ => exact e2
      · match i, i1 with
        | 0, _ => exact stepV_of (enters_of Tryz.func49 (by kernel_rfl) rfl) (fun o' st w hl' hg hb => addF1 hl' (cap_grow q1 hg) (cap_grow q2 hg) (byt_grow q3 hg) (by omega) (bd_mono hb (by omega))) (bd_op _ (Nat.le_refl _))
        | 1, _ => exact stepV_of (enters_of Tryz.func82 (by kernel_rfl) rfl) (fun o' st w hl' hg hb => countF1 hl' (cap_grow q4 hg) (cap_grow q5 hg)) (bd_set _)
        | 2, _ => exact stepV_of (enters_of Tryz.func51 (by kernel_rfl) rfl) (fun o' st w hl' hg hb => syncF hl' (bd_mono hb (by omega))) (bd_op _ (by show 2 + 0 ≤ _; omega))
      · rintro e W' ⟨P, hbd⟩
        have bb := B1.out.trans ((hu.2.trans (((hW3 ▸ b3 : Below w2.heap.size w2 W3).trans ((hb3.trans (hb.mono hb3.size)).mono (hW3 ▸ b3 : Below w2.heap.size w2 W3).size)).mono hu.2.size)).mono B1.out.size)
        have P2 := P
        obtain ⟨_, o', hl', hg'⟩ := P2
        exact ⟨⟨lpost_from (growL_below bb) P, hbd⟩, cap_cell (cap_grow q1 hg'), (logS_cells hl').1⟩
    rw [hW3] at C
    clear hu h2 h3 k3 k4 d3 b3 hW3
    go_wp2_with fail
    refine wp_region_held_drew (S := fun w' => w'.cell? ⟨W.heap.size, 0, none⟩ = some (lptr lb) ∧ w'.cell? ⟨lb, 0, none⟩ = some (lptr g)) (by kernel_rfl) ?_ (fun hHeld => ?_)
    · (try dsimp only); go_keep
    refine wpAnyH_take (i := 0) (v := ?_) rfl (by kernel_rfl) (by kernel_rfl) (by kernel_rfl) (fun _ _ _ h => h) (Or.inl ⟨by rfl, ?_⟩) (by assumption) ?_
    rotate_left
    · intro w hSw; (try dsimp only at hSw); go_simp; all_goals with_reducible rfl
    refine wpAnyH_take (i := 1) (v := ?_) rfl (by kernel_rfl) (by kernel_rfl) (by kernel_rfl) (fun _ _ _ h => h) (Or.inl ⟨by rfl, ?_⟩) (by assumption) ?_
    rotate_left
    · intro w hSw; (try dsimp only at hSw); go_simp; all_goals with_reducible rfl
    refine wpAnyH_take (i := 2) (v := ?_) rfl (by kernel_rfl) (by kernel_rfl) (by kernel_rfl) (fun _ _ _ h => h) (Or.inl ⟨by rfl, ?_⟩) (by assumption) ?_
    rotate_left
    · intro w hSw; (try dsimp only at hSw); go_simp; all_goals with_reducible rfl
    refine wpAnyH_take (i := 3) (v := ?_) rfl (by kernel_rfl) (by kernel_rfl) (by kernel_rfl) (fun _ _ _ h => h) (Or.inl ⟨by rfl, ?_⟩) (by assumption) ?_
    rotate_left
    · intro w hSw; (try dsimp only at hSw); go_simp; all_goals with_reducible rfl
    refine wpAnyH_take (i := 4) (v := ?_) rfl (by kernel_rfl) (by kernel_rfl) (by kernel_rfl) (fun _ _ _ h => h) (Or.inl ⟨by rfl, ?_⟩) (by assumption) ?_
    rotate_left
    · intro w hSw; (try dsimp only at hSw); go_simp; all_goals with_reducible rfl
    refine wpAnyH_take (i := 8) (v := ?_) rfl (by kernel_rfl) (by kernel_rfl) (by kernel_rfl) (fun _ _ _ h => h) (Or.inl ⟨by rfl, ?_⟩) (by assumption) ?_
    rotate_left
    · intro w hSw; (try dsimp only at hSw); go_simp; all_goals with_reducible rfl
    refine wpAnyH_take (i := 9) (v := ?_) rfl (by kernel_rfl) (by kernel_rfl) (by kernel_rfl) (fun _ _ _ h => h) (Or.inl ⟨by rfl, ?_⟩) (by assumption) ?_
    rotate_left
    · intro w hSw; (try dsimp only at hSw); go_simp; all_goals with_reducible rfl
    refine wpAnyH_ready (rs := [5]) (by kernel_rfl) (by simp) ?_
    refine AllReadyH.cons rfl (fun K hK => ?_) AllReadyH.nil
    go_simp
    refine hK.out _ _ ?_ (fun hHeld => ?_)
    · (try dsimp only); go_keep
    clear hK K
    refine wpAnyH_take (i := 6) (v := ?_) rfl (by kernel_rfl) (by kernel_rfl) (by kernel_rfl) (fun _ _ _ h => h) (Or.inl ⟨by rfl, ?_⟩) (by assumption) ?_
    rotate_left
    · intro w hSw; (try dsimp only at hSw); go_simp; all_goals with_reducible rfl
    refine wpAnyH_ready (rs := [7]) (by kernel_rfl) (by simp) ?_
    refine AllReadyH.cons rfl (fun K hK => ?_) AllReadyH.nil
    go_simp
    refine (CC.out _ ?_).mono ?_
    · (first | exact (Below.refl _ _).drew | exact Below.refl _ _)
    rintro e w4 ⟨bc, bl, rfl, P4, j0, j1, j2⟩
    go_wp2_with fail
    refine hK.out _ _ ?_ (fun hHeld => ?_)
    · (try dsimp only); go_keep
    clear hK K
    refine wpAnyH_ready (rs := [10]) (by kernel_rfl) (by simp) ?_
    refine AllReadyH.cons rfl (fun K hK => ?_) AllReadyH.nil
    go_simp
    refine hK.out _ _ ?_ (fun hHeld => ?_)
    · (try dsimp only); go_keep
    clear hK K
    refine wpAnyH_ready (rs := [11]) (by kernel_rfl) (by simp) ?_
    refine AllReadyH.cons rfl (fun K hK => ?_) AllReadyH.nil
    go_simp
    refine (C.out _ _ _ _ _ P4 ?_ ?_ ?_ ?_ ?_ ?_).mono ?_
    · (first | exact bel_a _ _ | exact bel_da _ _ | exact bel_ad _ _)
    · simp
    · simp
    · simp
    · simp
    · simp
    rintro e w5 ⟨P, j3, j4⟩
    have PP := hide' P
    obtain ⟨⟨rfl, _⟩, _⟩ := P
    go_wp2_with fail
    refine hK.out _ _ ?_ (fun hHeld => ?_)
    · (try dsimp only); go_keep
    clear hK K
    refine wpAnyH_ready (rs := [12]) (by kernel_rfl) (by simp) ?_
    refine AllReadyH.cons rfl (fun K hK => ?_) AllReadyH.nil
    go_simp
    refine hK.out _ _ ?_ (fun hHeld => ?_)
    · (try dsimp only); go_keep
    clear hK K
    refine wpAnyH_done (by kernel_rfl) ?_ _
    go_wp2_with fail
    go_ret
    rw [R.out]
    exact ⟨PP.out.1, bd_mono PP.out.2 (by have := LN.out; omega)⟩
  · have R : Hid (addT op no id (s, c) = ((s, c), (encOf c op no id).2)) := by unfold Hid addT; rw [if_neg hz]
    obtain ⟨y, hy⟩ : ∃ y, y = (encOf c op no id).2 := ⟨_, rfl⟩
    have hy0 : decide (y = 0) = false := by rw [decide_eq_false_iff_not, hy]; exact hz
    have hy2 : ¬ y = 0 := by rw [hy]; exact hz
    rw [← hy] at CE R
    clear hz hy
    go_enter Tryz.func16, Tryz.ntmps16
    go_wp2_with fail
    refine CE.out.mono ?_
    rw [← HW1.out]
    rintro e w2 ⟨u, rfl, hu⟩
    obtain ⟨ua, ul, uc, rfl⟩ := own_sl hu
    have b3 := bel_a w2 (.cells #[.slice ua ul uc] 67)
    have H3 := hide' (logS_below (logS_below H1.out hu.2) b3)
    have BB := hide' (B1.out.trans ((hu.2.trans (b3.mono hu.2.size)).mono B1.out.size))
    clear hu b3
    go_wp2_with fail
    go_ret
    rw [R.out]
    exact ⟨⟨rfl, o, H3.out, growL_below BB.out⟩, bd_mono HB.out (by omega)⟩
end Go.Proofs.YtijnjgnckipghaaGreat
