/- The contract of SyncNames: all pending changes are done to the names that are safe. -/
import Derived.Test.YtaklfiipkjfjdaaDkX
namespace Go.Proofs.Ytaklfiipkjfjdaa
open Go.RowKit Go.Maps
/-- a change of names called by its value -/
theorem chg_cases {o : Ow} {fb : Nat → Nat} {W : World} {v : Value} {c : Chg} (h : ChgV o fb W v c) :
    (∃ n k bf bn, c = .put n k ∧ n.length ≤ 64 ∧ v = .func (.func 49) #[] #[.pointer (some ⟨bf, 0, none⟩), .pointer (some ⟨bn, 0, none⟩)] ∧ W.cell? ⟨bf, 0, none⟩ = some (.pointer (some ⟨fb k, 0, none⟩)) ∧ W.cell? ⟨bn, 0, none⟩ = some (S n) ∧ o bf = some .cap ∧ o bn = some .cap) ∨
    (∃ n bn, c = .del n ∧ n.length ≤ 64 ∧ v = .func (.func 53) #[] #[.pointer (some ⟨bn, 0, none⟩)] ∧ W.cell? ⟨bn, 0, none⟩ = some (S n) ∧ o bn = some .cap) ∨
    (∃ a b k ba bf bb, c = .mv a b k ∧ a.length ≤ 64 ∧ b.length ≤ 64 ∧ v = .func (.func 52) #[] #[.pointer (some ⟨ba, 0, none⟩), .pointer (some ⟨bf, 0, none⟩), .pointer (some ⟨bb, 0, none⟩)] ∧ W.cell? ⟨ba, 0, none⟩ = some (S a) ∧ W.cell? ⟨bf, 0, none⟩ = some (.pointer (some ⟨fb k, 0, none⟩)) ∧ W.cell? ⟨bb, 0, none⟩ = some (S b) ∧ o ba = some .cap ∧ o bf = some .cap ∧ o bb = some .cap) := by
  cases c with
  | put n k =>
    obtain ⟨hl, bf, bn, e, h1, h2, o1, o2⟩ := h
    exact .inl ⟨n, k, bf, bn, rfl, hl, e, h1, h2, o1, o2⟩
  | del n =>
    obtain ⟨hl, bn, e, h2, o2⟩ := h
    exact .inr (.inl ⟨n, bn, rfl, hl, e, h2, o2⟩)
  | mv a b k =>
    obtain ⟨l1, l2, ba, bf, bb, e, h1, h2, h3, o1, o2, o3⟩ := h
    exact .inr (.inr ⟨a, b, k, ba, bf, bb, rfl, l1, l2, e, h1, h2, h3, o1, o2, o3⟩)
theorem sn_spec (s : Dk) (nm to : Nm) (d : List UInt8) (h : stepE s [] = 0) : s.step ⟨4, nm, to, d⟩ = ({ cntS s with safe := s.now, pend := [] }, 0) := by
  obtain ⟨h1, h2⟩ := step_z s ⟨4, nm, to, d⟩ h
  rw [h2, h1]
  cases e : atN s.now nm with
  | none => simp only; rfl
  | some k => simp only; rfl
theorem take_succ_app (cs : List Chg) (l : NL) (j : Nat) (hj : j < cs.length) : appAll (cs.take (j + 1)) l = (cs[j]).app (appAll (cs.take j) l) := by
  rw [List.take_succ_eq_append_getElem hj, appAll_snoc]
theorem app_bound (cs : List Chg) (l : NL) (j : Nat) (hl : l.length ≤ 900000000) (hc : cs.length ≤ 90000000) : (appAll (cs.take j) l).length ≤ 1000000000 := by
  have h1 := appAll_len (cs.take j) l
  have h2 : (cs.take j).length ≤ cs.length := by rw [List.length_take]; omega
  omega
set_option maxRecDepth 20000 in
set_option maxHeartbeats 4000000 in
theorem syncNamesC {o : Ow} {g : Nat} {s : Dk} {W : World} (h : Dsk o g s W) (nm to : Nm) (d : List UInt8) (hB : Bd 90000000 s) :
    Calls Try.prog 24 #[.pointer (some ⟨g, 0, none⟩)] W fun e W' => StepPost o g s ⟨4, nm, to, d⟩ W e W' := by
  obtain ⟨m0, m1, m2, pv, fb, cs, v⟩ := h
  have hH : Holds W (.slice none 0 0) [] := ⟨none, 0, rfl, fun h => absurd rfl h⟩
  have CO := hide' (stepC v (.slice none 0 0) [] hH (fun n hn => by cases hn) (by simp) (by have := hB.1; omega) (fun ad n c e => by cases e))
  have V := hide' v
  by_cases hE : stepE s [] = 0
  · have SP := hide' (sn_spec s nm to d hE)
    have hwf := wf_step v.wf ⟨4, nm, to, d⟩
    rw [SP.out] at hwf
    have HW := hide' hwf
    have hcl : cs.length ≤ 90000000 := by have h1 := v.sc.1; have h2 := hB.2.2.2.2.1; rw [h1, scan_len] at h2; omega
    have hsl : s.safe.length ≤ 900000000 := by have := hB.2.2.2.1; omega
    have hsf : (cntS s).safe = s.safe := by unfold cntS; split <;> rfl
    rw [hE] at CO
    clear v hE hwf
    go_enter Try.func24, Try.ntmps24
    go_wp2_with fail
    refine CO.out.mono ?_
    rintro e w1 ⟨rfl, h1, h2⟩
    obtain ⟨vs, hr, hch, hpw⟩ := h1.pend
    obtain ⟨pa, pc, hpv⟩ := row_sl hr
    subst hpv
    obtain ⟨⟨c0, c1, c2, c3, c4, c5, c6, c7⟩, ⟨f3, f4, f7⟩⟩ := cells_eight h1.blk
    clear c0 c1 c2 c3 c4 c5 f3 f4
    have H1 := hide' h1
    have H2 := hide' h2
    have HR := hide' hr
    have HCH := hide' hch
    have HPW := hide' hpw
    have hg := h1.blk.2
    have hgm : m2 ≠ g := ow_ne h1.o2 h1.og (by decide)
    -- what lies beside the safe names is as it was
    have KEEP : Hid (∀ wr, w1.grownBy wr (some m2) → (wr.cell? ⟨g, 6, none⟩ = some (.map (some m2)) ∧ wr.cell? ⟨g, 7, none⟩ = some (.slice pa cs.length pc) ∧ wr.frozen? ⟨g, 7, none⟩ = false) ∧ Same o (fun r => r ≠ .safe) w1 wr) := fun wr h => by
      have e := h.block g hg (fun e => hgm (Option.some.inj e).symm)
      exact ⟨⟨by rw [World.cell?_of_block (w := w1) (a := ⟨g, 6, none⟩) e]; exact c6, by rw [World.cell?_of_block (w := w1) (a := ⟨g, 7, none⟩) e]; exact c7, by rw [World.frozen?_of_block (w := w1) (a := ⟨g, 7, none⟩) e]; exact f7⟩, same_grown h H1.out.lt H1.out.o2⟩
    have CELL : Hid (∀ wr j (hj : j < cs.length), w1.grownBy wr (some m2) → ∃ pb cv, pa = some ⟨pb, 0, none⟩ ∧ wr.cell? ⟨pb, j, none⟩ = some cv ∧ ChgV o fb wr cv cs[j]) := fun wr j hj h => by
      have hs := (KEEP.out wr h).2
      obtain ⟨cv, e1, e2⟩ := HCH.out j hj
      have hr2 := row_same HR.out hs HPW.out (by decide)
      rcases hr2.2 with ⟨_, e⟩ | ⟨x, cap, cur, hv, _⟩
      · omega
      · cases hv
        refine ⟨x, cv, rfl, ?_, chg_same e2 hs (by decide)⟩
        rw [hr2.cellAt j (by omega)]
        exact e1
    have hcm : o m2 ≠ some .cap := by rw [H1.out.o2]; decide
    have hz : Hid (Tbl w1 m2 fb s.safe) := by have := H1.out.safe; rw [hsf] at this; exact this
    clear h1 h2 hr hch hpw f7
    obtain ⟨n, hn⟩ : ∃ n, n = cs.length := ⟨_, rfl⟩
    have HN := hide' hn
    rw [← hn] at KEEP c7
    have hnl : n ≤ 90000000 := by omega
    clear hn
    go_wp2_with fail
    clear c6 c7
    go_loopw [5, 16] (fun _ i wr => ∃ j : Nat, j ≤ n ∧ i = .int .i64 j ∧ Hid (Tbl wr m2 fb (appAll (cs.take j) s.safe)) ∧ Hid (w1.grownBy wr (some m2))) (fun _ i _ => n - (intOf i).toNat)
    case atStart => exact ⟨0, by omega, rfl, hz, ⟨rfl, rfl, rfl, Nat.le_refl _, fun _ _ _ => rfl⟩⟩
    case round =>
      obtain ⟨j, hj, rfl, HT, HG⟩ := hrel
      by_cases hlt' : j < n
      · have hlt : j < cs.length := by rw [← HN.out]; exact hlt'
        obtain ⟨pb, cv, hpa, hcell, hcv⟩ := CELL.out wr j hlt HG.out
        have hbd := app_bound cs s.safe j hsl hcl
        obtain ⟨⟨k6, k7, kf⟩, _⟩ := KEEP.out wr HG.out
        subst hpa
        have hcap : ∀ b, o b = some .cap → b ≠ m2 := fun b e e2 => hcm (by rw [← e2]; exact e)
        rcases chg_cases hcv with ⟨x, k, bf, bn, hc, hl, rfl, h1, h2, o1, o2⟩ | ⟨x, bn, hc, hl, rfl, h2, o2⟩ | ⟨x, y, k, ba, bf, bb, hc, l1, l2, rfl, h1, h2, h3, o1, o2, o3⟩
        · have CC := hide' (putC HT.out hbd hl h1 h2)
          have CJ := hide' hc
          clear hcv h1 h2 o1 o2 hl hc k7 kf
          go_wp2_with (go_at_call 49; refine CC.out.mono ?_; rintro e w2 ⟨rfl, t2, g2⟩; have T2 := hide' t2; have G2 := hide' (HG.out.andThen g2 (fun x hx => .inr hx)); clear t2 g2)
          go_roundw
          case rel => exact ⟨j + 1, by omega, by go_num, by unfold Hid; rw [take_succ_app cs s.safe j hlt, CJ.out]; exact T2.out, G2⟩
          case measure => simp [intOf]; omega
        · have CC := hide' (delC HT.out hl h2)
          have CJ := hide' hc
          clear hcv h2 o2 hl hc k7 kf
          go_wp2_with (go_at_call 53; refine CC.out.mono ?_; rintro e w2 ⟨rfl, t2, g2⟩; have T2 := hide' t2; have G2 := hide' (HG.out.andThen g2 (fun x hx => .inr hx)); clear t2 g2)
          go_roundw
          case rel => exact ⟨j + 1, by omega, by go_num, by unfold Hid; rw [take_succ_app cs s.safe j hlt, CJ.out]; exact T2.out, G2⟩
          case measure => simp [intOf]; omega
        · have CC := hide' (mvC HT.out hbd l1 l2 h1 h2 h3 (hcap bf o2) (hcap bb o3))
          have CJ := hide' hc
          clear hcv h1 h2 h3 o1 o2 o3 l1 l2 hc k7 kf
          go_wp2_with (go_at_call 52; refine CC.out.mono ?_; rintro e w2 ⟨rfl, t2, g2⟩; have T2 := hide' t2; have G2 := hide' (HG.out.andThen g2 (fun x hx => .inr hx)); clear t2 g2)
          go_roundw
          case rel => exact ⟨j + 1, by omega, by go_num, by unfold Hid; rw [take_succ_app cs s.safe j hlt, CJ.out]; exact T2.out, G2⟩
          case measure => simp [intOf]; omega
      · have ej : cs.take j = cs := List.take_of_length_le (by rw [← HN.out]; omega)
        obtain ⟨⟨k6, k7, kf⟩, ks⟩ := KEEP.out wr HG.out
        have KS := hide' ks
        have EJ := hide' ej
        clear ks ej
        go_wp2_with fail
        go_ret
        have hT := HT.out
        rw [EJ.out] at hT
        have hnow : appAll cs s.safe = s.now := by have := H1.out.sc.2; rw [hsf, cnt_now] at this; exact this.symm
        rw [hnow] at hT
        have s3 : Same o (fun r => r ≠ .disk) wr (wr.setCell ⟨g, 7, none⟩ (.slice none 0 0)) := same_poke H1.out.og _
        have s13 : Same o (fun r => r ≠ .safe ∧ r ≠ .disk) w1 (wr.setCell ⟨g, 7, none⟩ (.slice none 0 0)) := (KS.out.mono (fun _ h => h.1)).trans (s3.mono (fun _ h => h.2))
        have b2 := cells_set (blk_same H1.out.blk KS.out H1.out.og (by decide)) (j := 7) (by simp) (.slice none 0 0)
        have hV : DkV o g m0 m1 m2 (.slice none 0 0) fb { cntS s with safe := s.now, pend := [] } [] (wr.setCell ⟨g, 7, none⟩ (.slice none 0 0)) := by
          refine ⟨b2, fails_same H1.out.fails s13 H1.out.o0 (by decide), tbl_same H1.out.seen s13 H1.out.o1 (by decide), tbl_same hT s3 H1.out.o2 (by decide), ⟨[], World.ownsRow_nil _ _ _ _, fun i hi => absurd hi (by simp), fun rb e => by cases e⟩, fun i hi => file_same (H1.out.files i hi) s13 (by simp) (by simp), H1.out.og, H1.out.o0, H1.out.o1, H1.out.o2, fun k hk => Nat.lt_of_lt_of_le (H1.out.lt k hk) s13.size, HW.out, H1.out.once, ⟨rfl, cnt_now s⟩, H1.out.rm⟩
        refine ⟨by rw [SP.out]; rfl, o, by rw [SP.out]; exact ⟨_, _, _, _, _, _, hV⟩, ?_⟩
        refine (grow_g H2.out V.out.og).trans ⟨?_, fun _ _ e => e, fun _ e => .inl e⟩
        exact Off.trans (off_grown (S := o.has) HG.out (fun k e => by cases e; exact has_of H1.out.o2)) (off_poke (S := o.has) _ (has_of H1.out.og) _) (fun i hi => .inl hi)
  · have SP : Hid (s.step ⟨4, nm, to, d⟩ = (cntS s, stepE s [])) := step_e s ⟨4, nm, to, d⟩ hE
    generalize stepE s [] = E at hE CO SP
    have q : (E != 0) = true := by simpa using hE
    clear v hE
    go_enter Try.func24, Try.ntmps24
    go_wp2_with (go_at_call 47; refine CO.out.mono ?_; rintro e w1 ⟨rfl, h1, h2⟩; have H1 := hide' h1; have H2 := hide' h2; clear h1 h2)
    go_ret
    exact ⟨by rw [SP.out]; rfl, o, by rw [SP.out]; exact ⟨_, _, _, _, _, _, H1.out⟩, grow_g H2.out V.out.og⟩
end Go.Proofs.Ytaklfiipkjfjdaa
