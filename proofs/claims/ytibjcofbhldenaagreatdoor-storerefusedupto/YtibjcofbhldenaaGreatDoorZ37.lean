/- The contract of Rewrite. -/
import Derived.Deep.RegionHeld3
import Derived.Test.YtibjcofbhldenaaGreatDoorZ32
namespace Go.Proofs.YtibjcofbhldenaaGreatDoor
open Go.RowKit Go.Shelf
set_option maxRecDepth 20000
def rewR (n : Nat) (b : List UInt8) : LSt → LSt × Int := runT [opT ⟨1, nwN, [], []⟩, replT b, setT (n : Int), opT ⟨4, [], [], []⟩]
def rewT (rs : RL) (st : LSt) : LSt × Int := if (encG 0 rs).2 = 0 then rewR rs.length (encG 0 rs).1 st else (st, (encG 0 rs).2)
theorem replT_bd {m : Nat} {b : List UInt8} {st : LSt} (h : Bd m st.1) : Bd (m + 3 * (2 + b.length) + 2) (replT b st).1.1 := by
  have h1 : ∀ op : DOp, ∀ q : LSt, ∀ k, Bd k q.1 → op.data.length ≤ b.length → Bd (k + (2 + b.length)) (opT op q).1.1 := fun op q k hk hd => bd_mono (bd_step hk op) (by omega)
  have key : Bd (m + 3 * (2 + b.length)) (fillT b st).1.1 := by
    unfold fillT
    by_cases e1 : (opT ⟨2, nwN, [], b⟩ st).2 = 0
    · rw [runT_ok e1]
      by_cases e2 : (opT ⟨3, nwN, [], []⟩ (opT ⟨2, nwN, [], b⟩ st).1).2 = 0
      · rw [runT_ok e2]
        by_cases e3 : (opT ⟨5, nwN, lgN, []⟩ (opT ⟨3, nwN, [], []⟩ (opT ⟨2, nwN, [], b⟩ st).1).1).2 = 0
        · rw [runT_ok e3, runT_nil]
          exact bd_mono (h1 _ _ _ (h1 _ _ _ (h1 _ _ _ h (Nat.le_refl _)) (Nat.zero_le _)) (Nat.zero_le _)) (by omega)
        · rw [runT_bad e3]
          exact bd_mono (h1 _ _ _ (h1 _ _ _ (h1 _ _ _ h (Nat.le_refl _)) (Nat.zero_le _)) (Nat.zero_le _)) (by omega)
      · rw [runT_bad e2]
        exact bd_mono (h1 _ _ _ (h1 _ _ _ h (Nat.le_refl _)) (Nat.zero_le _)) (by omega)
    · rw [runT_bad e1]
      exact bd_mono (h1 _ _ _ h (Nat.le_refl _)) (by omega)
  unfold replT
  split
  · exact bd_mono key (by omega)
  · exact bd_step key ⟨6, nwN, [], []⟩
set_option maxHeartbeats 4000000 in
theorem rewriteC {o : Ow} {g lb : Nat} {s : Dk} {c : Int} {W : World} (h : LogS o g lb s c W) (m : Nat) (hB : Bd m s) (ra : Option Addr) (rn rc : Nat) (rs : RL) (hr : HoldsR W (.slice ra rn rc) rs) (hm : m + 4 * (8 + 3 * bulkR rs) ≤ 80000000) :
    Calls Tryz.prog 129 #[lptr lb, .slice ra rn rc] W fun e W' => LPost o g lb (rewT rs (s, c)) W e W' ∧ Bd (m + 4 * (8 + 3 * bulkR rs)) (rewT rs (s, c)).1.1 := by
  have b1 := bel_a W (.cells #[lptr lb] 95)
  have h1 := logS_below h b1
  have k1 := cap_new h (lptr lb) 95
  have hrn : rn = rs.length := by obtain ⟨_, _, e, _⟩ := hr; simp only [Value.slice.injEq] at e; exact e.2.1
  obtain ⟨W1, hW1⟩ : ∃ W1, W1 = W.alloc (.cells #[lptr lb] 95) := ⟨_, rfl⟩
  obtain ⟨c0, c1, _⟩ := logS_cells h1
  have kc := cap_cell k1
  have CE := hide' (encodedC (.slice ra rn rc) rs (W.alloc (.cells #[lptr lb] 95)) (holdsR_mono hr b1) (by omega))
  rw [← hW1] at b1 h1 k1
  have H1 := hide' h1
  have K1 := hide' k1
  have B1 := hide' b1
  have HW1 := hide' hW1
  have HB := hide' hB
  have HRN := hide' hrn
  have LN : Hid ((encG 0 rs).1.length ≤ bulkR rs) := by
    unfold Hid
    have := encH_len rs 0 []
    rw [encH_nil _ (encG_bad rs 0)] at this
    simpa using this
  clear h h1 k1 b1 hW1 hB hr hrn
  by_cases hz : (encG 0 rs).2 = 0
  · have R : Hid (rewT rs (s, c) = rewR rn (encG 0 rs).1 (s, c)) := by unfold Hid rewT; rw [if_pos hz, HRN.out]
    rw [hz] at CE
    clear hz
    generalize (encG 0 rs).1 = d at CE R LN
    go_enter Tryz.func129, Tryz.ntmps129
    go_wp2_with fail
    refine CE.out.mono ?_
    rw [← HW1.out]
    rintro e w2 ⟨u, rfl, hu⟩
    obtain ⟨ua, ul, uc, rfl⟩ := own_sl hu
    have b3 := bel_a w2 (.cells #[.slice ua ul uc] 57)
    have h2 := logS_below H1.out hu.2
    have h3 := logS_below h2 b3
    have k3 := cap_below (cap_below K1.out hu.2) b3
    have d3 := byt_below (byt_own H1.out hu) b3
    have k4 := cap_new h2 (.slice ua ul uc) 57
    obtain ⟨W3, hW3⟩ : ∃ W3, W3 = w2.alloc (.cells #[.slice ua ul uc] 57) := ⟨_, rfl⟩
    obtain ⟨c0, c1, _⟩ := logS_cells h3
    have kc := cap_cell k3
    have CC := hide' (count_any (c' := (rn : Int)) h3 k3)
    have C : Hid (∀ w'' w' b bc bl, Hid (Below W3.heap.size W3 w'' ∧ Cap o lb bc (.int .i64 (rn : Int)) w'' ∧ Cap o lb bl (lptr lb) w'') → Below w''.heap.size w'' w' → w''.heap.size ≤ b → b < w'.heap.size →
        w'.cell? ⟨b, 0, none⟩ = some (.func (.func 168) #[] #[lptr W.heap.size]) → w'.cell? ⟨b, 1, none⟩ = some (.func (.func 169) #[] #[lptr W.heap.size, lptr w2.heap.size]) → w'.cell? ⟨b, 2, none⟩ = some (.func (.func 141) #[] #[lptr bc, lptr bl]) → w'.cell? ⟨b, 3, none⟩ = some (.func (.func 157) #[lptr g] #[]) →
        Calls Tryz.prog 84 #[.slice (some ⟨b, 0, none⟩) 4 4] w' fun e W' => (LPost o g lb (rewR rn d (s, c)) W e W' ∧ Bd (m + 4 * (8 + 3 * d.length)) (rewR rn d (s, c)).1.1) ∧ W'.cell? ⟨W.heap.size, 0, none⟩ = some (lptr lb) ∧ W'.cell? ⟨lb, 0, none⟩ = some (lptr g)) := by
      intro w'' w' b bc bl hh hb hbl hbs e0 e1 e2 e3
      obtain ⟨hb3, hbc, hbl2⟩ := hh.out
      rw [← hW3] at h3 k3 k4 d3
      have h4 := logS_below (logS_below h3 hb3) hb
      have q1 := cap_below (cap_below k3 hb3) hb
      have q2 := cap_below (cap_below k4 hb3) hb
      have q3 := byt_below (byt_below d3 hb3) hb
      have q4 := cap_below hbc hb
      have q5 := cap_below hbl2 hb
      have hm' : m + 4 * (8 + 3 * d.length) ≤ 80000000 := by have := LN.out; omega
      refine (turnL h4 b 4 m (8 + 3 * d.length) [.func (.func 168) #[] #[lptr W.heap.size], .func (.func 169) #[] #[lptr W.heap.size, lptr w2.heap.size], .func (.func 141) #[] #[lptr bc, lptr bl], .func (.func 157) #[lptr g] #[]] [opT ⟨1, nwN, [], []⟩, replT d, setT (rn : Int), opT ⟨4, [], [], []⟩] rfl rfl (by decide) (fun j hj => ?_) hbs (none_of_lt (dsk_lt (logS_below h3 hb3).dsk) hbl) (by have := (logS_below h3 hb3).blk.2; omega) HB.out (fun i i1 i2 => ?_)).mono ?_
      · match j, hj with
        | 0, _ => exact e0
        | 1, _ => exact e1
        | 2, _ => exact e2
        | 3, _ => exact e3
      · match i, i1 with
        | 0, _ => exact stepV_of (enters_of Tryz.func168 (by kernel_rfl) rfl) (fun o' st w hl' hg hb => rewriteF1 hl' (cap_grow q1 hg) (bd_mono hb (by omega))) (bd_op _ (by show 2 + 0 ≤ _; omega))
        | 1, _ => exact stepV_of (enters_of Tryz.func169 (by kernel_rfl) rfl) (fun o' st w hl' hg hb => rewriteF2 hl' (cap_grow q1 hg) _ hb (cap_grow q2 hg) (byt_grow q3 hg) (by omega)) (fun st hb => bd_mono (replT_bd hb) (by omega))
        | 2, _ => exact stepV_of (enters_of Tryz.func141 (by kernel_rfl) rfl) (fun o' st w hl' hg hb => countF1 hl' (cap_grow q4 hg) (cap_grow q5 hg)) (bd_set _)
        | 3, _ => exact stepV_of (enters_of Tryz.func157 (by kernel_rfl) rfl) (fun o' st w hl' hg hb => syncNamesL hl' (bd_mono hb (by omega))) (bd_op _ (by show 2 + 0 ≤ _; omega))
      · rintro e W' ⟨P, hbd⟩
        have bb := B1.out.trans ((hu.2.trans (((hW3 ▸ b3 : Below w2.heap.size w2 W3).trans ((hb3.trans (hb.mono hb3.size)).mono (hW3 ▸ b3 : Below w2.heap.size w2 W3).size)).mono hu.2.size)).mono B1.out.size)
        have P2 := P
        obtain ⟨_, o', hl', hg'⟩ := P2
        exact ⟨⟨lpost_from (growL_below bb) P, hbd⟩, cap_cell (cap_grow q1 hg'), (logS_cells hl').1⟩
    rw [hW3] at C
    clear hu h2 h3 k3 k4 d3 b3 hW3
    go_wp2_with fail
    go_region_held3 (fun w' => w'.cell? ⟨W.heap.size, 0, none⟩ = some (lptr lb) ∧ w'.cell? ⟨lb, 0, none⟩ = some (lptr g)) (go_keep)
      (first
      | (go_at_call 98; refine (CC.out _ ?_).mono ?_; (first | exact (Below.refl _ _).drew | exact Below.refl _ _); rintro e w4 ⟨bc, bl, rfl, P4, j0, j1, j2⟩)
      | (go_at_call 84; refine (C.out _ _ _ _ _ P4 ?_ ?_ ?_ ?_ ?_ ?_ ?_).mono ?_; (first | exact bel_a _ _ | exact bel_da _ _ | exact bel_ad _ _); simp; simp; simp; simp; simp; simp; rintro e w5 ⟨P, j3, j4⟩; have PP := hide' P; obtain ⟨⟨rfl, _⟩, _⟩ := P))
    all_goals
      go_wp2_with fail
      go_ret
      rw [R.out]
      exact ⟨PP.out.1, bd_mono PP.out.2 (by have := LN.out; omega)⟩
  · have R : Hid (rewT rs (s, c) = ((s, c), (encG 0 rs).2)) := by unfold Hid rewT; rw [if_neg hz]
    obtain ⟨y, hy⟩ : ∃ y, y = (encG 0 rs).2 := ⟨_, rfl⟩
    have hy0 : decide (y = 0) = false := by rw [decide_eq_false_iff_not, hy]; exact hz
    have hy2 : ¬ y = 0 := by rw [hy]; exact hz
    rw [← hy] at CE R
    clear hz hy
    go_enter Tryz.func129, Tryz.ntmps129
    go_wp2_with fail
    refine CE.out.mono ?_
    rw [← HW1.out]
    rintro e w2 ⟨u, rfl, hu⟩
    obtain ⟨ua, ul, uc, rfl⟩ := own_sl hu
    have b3 := bel_a w2 (.cells #[.slice ua ul uc] 57)
    have H3 := hide' (logS_below (logS_below H1.out hu.2) b3)
    have BB := hide' (B1.out.trans ((hu.2.trans (b3.mono hu.2.size)).mono B1.out.size))
    clear hu b3
    go_wp2_with fail
    go_ret
    rw [R.out]
    exact ⟨⟨rfl, o, H3.out, growL_below BB.out⟩, bd_mono HB.out (by omega)⟩
end Go.Proofs.YtibjcofbhldenaaGreatDoor
