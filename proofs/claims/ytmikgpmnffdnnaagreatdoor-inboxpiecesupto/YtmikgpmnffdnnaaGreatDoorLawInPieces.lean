/- The walk of InboxPieces. -/
import Derived.Test.YtmikgpmnffdnnaaGreatDoorPd
import Derived.Test.YtmikgpmnffdnnaaGreatDoorInA
import Derived.Test.YtmikgpmnffdnnaaGreatDoorInW
import Derived.Test.YtmikgpmnffdnnaaGreatDoorInL
namespace Go.Proofs.YtmikgpmnffdnnaaGreatDoor
open Go.RowKit
namespace inboxPieces
set_option maxRecDepth 100000 in
set_option maxHeartbeats 16000000 in
theorem walk (v zv : Value) (bs : List UInt8) (zs : List Int) (w : World) (hv : HoldsB w v bs) (hz : HoldsI w zv zs) (hl : bs.length ≤ 1048576) (hzl : zs.length ≤ 1048576) (E : Env w) (R : Er w) :
    Calls Tryz.prog 6 #[v, zv] w fun e w' => e = .returned (.bool true) ∧ Below w.heap.size w w' := by
  have HV := hide' hv
  have HZ := hide' hz
  have EV := hide' E
  have RV := hide' R
  have c0 := hide' (aliveI w E R)
  obtain ⟨ao, cap, rfl, _⟩ := hv
  obtain ⟨za, zc, rfl, _⟩ := hz
  clear E R
  go_enter Tryz.func6, Tryz.ntmps6
  go_wp2_with fail
  refine c0.out.mono ?_
  rintro e w1 ⟨rfl, b1⟩
  have B1 := hide' b1
  clear c0 b1
  go_wp2_with fail
  refine (newM 11 w1).mono ?_
  rintro e w2 ⟨rfl, hw2⟩
  have bk2 : Blk w1.heap.size w2 [(.func (.func 11) #[] #[]), .slice none 0 0, .int .i64 0] := by rw [hw2]; exact cells_lit w1 #[(.func (.func 11) #[] #[]), .slice none 0 0, .int .i64 0] _
  have b2 : Below w1.heap.size w1 w2 := by rw [hw2]; exact below_alloc' _ _
  have BK2 := hide' bk2
  have B2 := hide' (bt' B1.out b2)
  have hwg := hide' B1.out.size
  obtain ⟨g, hg⟩ : ∃ g, g = w1.heap.size := ⟨_, rfl⟩
  rw [← hg] at BK2 hwg ⊢
  have hg2 := hide' BK2.out.2
  clear hw2 bk2 b2 hg B1
  go_wp2_with fail
  refine (copyB _ bs _ (holdsB_mono HV.out B2.out) (by omega)).mono ?_
  rintro e w3 ⟨u3, rfl, ho3⟩
  have B3 := hide' (bt' B2.out ho3.2)
  have BK3 := hide' (cells_below BK2.out ho3.2)
  have O3 := hide' ho3
  obtain ⟨ra, rc, hu, _⟩ := holdsB_own ho3
  subst hu
  clear ho3 B2 BK2
  go_wp2_with fail
  refine (cutC _ _ bs zs _ (holdsB_mono HV.out B3.out) (holdsI_mono HZ.out B3.out) hl hzl).mono ?_
  rintro e w4 ⟨ov, us, ps, rfl, hp, hf, hul, b4⟩
  have B4 := hide' (bt' B3.out b4)
  have BK4 := hide' (cells_below BK3.out b4)
  have HR4 := hide' (holdsN_own (own_mono O3.out b4) hg2.out)
  have hg3 := hide' BK3.out.2
  have hg4 := hide' BK4.out.2
  obtain ⟨oa, oc, hov⟩ := row_slice hp.1
  subst hov
  have HP := hide' hp
  have HF := hide' hf
  obtain ⟨L, hL⟩ : ∃ L, L = us.length := ⟨_, rfl⟩
  have HL := hide' hL
  rw [← hL] at hul ⊢
  -- what a piece is, in every later world
  have PK : Hid (∀ (i : Nat) (wr : World), i < L → BelowBut g w4.heap.size w4 wr → ∃ ob pa pn pc, oa = some ⟨ob, 0, none⟩ ∧ wr.cell? ⟨ob, i, none⟩ = some (.slice pa pn pc) ∧ HoldsB wr (.slice pa pn pc) (ps.getD i []) ∧ (ps.drop i).flatten = ps.getD i [] ++ (ps.drop (i + 1)).flatten) := by
    intro i wr hi hb
    have hi1 : i < us.length := by rw [← HL.out]; exact hi
    have hi2 : i < ps.length := by rw [← HP.out.2.1]; exact hi1
    have hr := HP.out.2.2 i hi1 hi2
    have hrow := HP.out.1
    have hw := row_but hr hg3.out hb
    have hro := row_but hrow hg3.out hb
    obtain ⟨pa, pc, hpv⟩ := row_slice hr
    have hgd : ps.getD i [] = ps[i] := by simp [List.getD, hi2]
    obtain ⟨_, h1 | ⟨ob, cap', cur, hv', _⟩⟩ := hro
    · exact absurd h1.2 (by omega)
    · simp at hv'
      obtain ⟨rfl, rfl⟩ := hv'
      have hc := World.ownsRow.cellAt (w := wr) (j := i) (row_but hrow hg3.out hb) (by omega)
      refine ⟨ob, pa, ps[i].length, pc, rfl, ?_, ?_, ?_⟩
      · rw [hc, List.getElem?_eq_getElem hi1, hpv]
      · rw [hgd, ← hpv]; exact row_holds hw
      · rw [hgd, List.drop_eq_getElem_cons hi2, List.flatten_cons]
  obtain ⟨N, hN⟩ : ∃ N, N = bs.length := ⟨_, rfl⟩
  have I0 : Hid (PcI g w4 N (.slice ra bs.length rc) bs [] 0 bs w4) := ⟨HR4.out, ps_start bs, box_start BK4.out, BelowBut.refl _ _ _, by omega, Nat.zero_le _⟩
  have HPS := hide' (show ps.flatten = bs from hf)
  have HN := hide' hN
  have hNl : N ≤ 1048576 := by omega
  clear hp hf b4 hL hN BK3 BK4 HR4 O3 B3
  go_wp2_with fail
  go_loopw [6, 8, 9, 10, 11, 12, 13, 14, 15] (fun rv ev iv _ _ _ _ _ _ wr => ∃ (i : Nat) (rb held : List UInt8) (er : Int), iv = .int .i64 i ∧ i ≤ L ∧ ev = .int .i64 er ∧ Hid (PcI g w4 N rv rb held er ((ps.drop i).flatten) wr) ∧ Hid (er = 0 → eQ held = 0 ∧ nQ held = 0)) (fun _ _ iv _ _ _ _ _ _ _ => L - (intOf iv).toNat)
  case atStart => exact ⟨0, bs, [], 0, rfl, Nat.zero_le _, rfl, by rw [List.drop_zero, HPS.out]; exact I0.out, fun _ => nil_told⟩
  case round =>
    obtain ⟨i, rb, held, er, rfl, hi, rfl, PI, TD⟩ := hrel
    obtain ⟨qa, qc, hrv, _⟩ := holdsB_parts PI.out.1.1
    subst hrv
    by_cases hlt : i < L
    · have hlt' : (i : Int) < (L : Int) := by omega
      obtain ⟨ob, pa, pn, pc, rfl, ck, hpH, hfl⟩ := PK.out i wr hlt PI.out.2.2.2.1
      have CF := hide' (feedAny g w4 N hNl _ _ rb held (ps.getD i []) ((ps.drop (i + 1)).flatten) er wr (by rw [← hfl]; exact PI.out) hpH)
      obtain ⟨lf, hlf⟩ : ∃ lf, lf = (ps.drop (i + 1)).flatten := ⟨_, rfl⟩
      have HLF := hide' hlf
      rw [← hlf] at CF
      clear hpH hfl hlf
      go_wp2_with fail
      refine CF.out.mono ?_
      rintro e w5 ⟨rfl, held5, PI5⟩
      clear CF ck PI TD held
      go_wp2_with fail
      go_loopw [6, 8, 10, 11, 12, 13, 14, 15] (fun rv _ _ _ _ _ _ _ wi => ∃ (rb held : List UInt8) (er : Int), Hid (PcI g w4 N rv rb held er lf wi)) (fun rv _ _ _ _ _ _ _ _ => lenV rv)
      case atStart => exact ⟨rb, held5, er, PI5.out⟩
      case round =>
        clear PI5 held5
        obtain ⟨rb, held, er, PI⟩ := hrel
        obtain ⟨qa, qc, hrv, hqc⟩ := holdsB_parts PI.out.1.1
        subst hrv
        have hrbl := PI.out.2.2.2.2.1
        have hsz := PI.out.2.2.2.2.2
        have BW := hide' (B4.out.trans (PI.out.2.2.2.1.below B4.out.size hwg.out))
        have CN := hide' (nextAny g w4 N hNl _ rb held lf er wr PI.out (env_below EV.out BW.out) (er_below RV.out BW.out))
        have HRN := hide' PI.out.1
        go_wp2_with fail
        refine CN.out.mono ?_
        intro e w6 h
        clear CN BW PI
        rcases h with ⟨er', rfl, P6, T6, _, _⟩ | ⟨he, lv, bv, tv, rfl, G6, hn6, he6, hm6, hnl, bb6, P6⟩
        · have P7 := hide' (pci_but P6.out (below_alloc' w6 (.cells #[.string ⟨#[]⟩, .string ⟨#[]⟩, .int .i64 0, .slice none 0 0, .int .i64 0, .string ⟨#[]⟩, .int .i64 0, .slice none 0 0, .slice none 0 0, .slice none 0 0] 31)))
          unfold mzV
          clear P6 HRN
          go_wp2_with fail
          go_roundw
          case rel => exact ⟨i + 1, rb, held, er', by go_num, by omega, rfl, by rw [← HLF.out]; exact P7.out, T6⟩
          case measure => simp [intOf]; omega
        · subst he
          obtain ⟨s1, s2, s3⟩ := msgQ_size held
          unfold nQ at hn6 hnl P6
          unfold eQ at he6
          generalize msgQ held = X at G6 hn6 he6 hm6 hnl P6 s1 s2 s3
          obtain ⟨⟨m, t, k, fs⟩, bd, tl, n, ee⟩ := X
          simp only at he6 hn6 hnl s1 s2 s3
          subst he6
          obtain ⟨la1, lc1, _, _, e1, _⟩ := holdsF_parts G6.out.1
          obtain ⟨ba1, bc1, e2, _⟩ := holdsB_parts G6.out.2.1
          obtain ⟨ta1, tc1, _, _, e3, _⟩ := holdsF_parts G6.out.2.2
          subst e1 e2 e3
          unfold mqV
          simp only
          have b7 := below_alloc' w6 (.cells #[.string ⟨m.toArray⟩, .string ⟨t.toArray⟩, .int .i64 k, .slice la1 fs.length lc1, .int .i64 0, .string ⟨#[]⟩, .int .i64 0, .slice none 0 0, .slice ba1 bd.length bc1, .slice ta1 tl.length tc1] 31)
          have M7 := hide' (cells_lit w6 #[.string ⟨m.toArray⟩, .string ⟨t.toArray⟩, .int .i64 k, .slice la1 fs.length lc1, .int .i64 0, .string ⟨#[]⟩, .int .i64 0, .slice none 0 0, .slice ba1 bd.length bc1, .slice ta1 tl.length tc1] 31)
          have G7 := hide' (msgQ_mono G6.out b7)
          have BB7 := hide' (bb6.out.trans ((but_of b7).mono bb6.out.size))
          have HR7 := hide' (holdsN_but HRN.out BB7.out)
          have CR := hide' (msgRef _ rb _ HR7.out (by omega))
          rw [hm6.out] at CR
          have hz : ((n : Int) == 0) = false := by simp; omega
          have sf := fun W => from_run qa rb.length qc n hnl hqc W
          have HS := holdsN_suf HRN.out n hnl
          obtain ⟨sa, sc, hsv, _⟩ := holdsB_parts HS.1
          rw [hsv] at sf HS
          rw [List.length_drop] at sf HS
          have HS' := hide' HS
          clear G6 hm6 b7 HS hsv
          go_wp2_with fail
          refine CR.out.mono ?_
          intro e w8 h
          obtain ⟨la2, lc2, ba2, bc2, ta2, tc2, rfl, K8, b8, _⟩ := ansQ_open h
          simp only at K8 ⊢
          have b9 := below_alloc' w8 (.cells #[.string ⟨m.toArray⟩, .string ⟨t.toArray⟩, .int .i64 k, .slice la2 fs.length lc2, .int .i64 0, .string ⟨#[]⟩, .int .i64 0, .slice none 0 0, .slice ba2 bd.length bc2, .slice ta2 tl.length tc2] 31)
          have O9 := hide' (cells_lit w8 #[.string ⟨m.toArray⟩, .string ⟨t.toArray⟩, .int .i64 k, .slice la2 fs.length lc2, .int .i64 0, .string ⟨#[]⟩, .int .i64 0, .slice none 0 0, .slice ba2 bd.length bc2, .slice ta2 tl.length tc2] 31)
          have M9 := hide' (cells_below (cells_below M7.out b8) b9)
          have G9 := hide' (msgQ_mono G7.out (bt' b8 b9))
          have K9 := hide' (msgQ_mono K8 b9)
          have B79 := hide' (bt' (below_alloc' w6 (.cells #[.string ⟨m.toArray⟩, .string ⟨t.toArray⟩, .int .i64 k, .slice la1 fs.length lc1, .int .i64 0, .string ⟨#[]⟩, .int .i64 0, .slice none 0 0, .slice ba1 bd.length bc1, .slice ta1 tl.length tc1] 31)) (bt' b8 b9))
          clear h K8 b8 b9 CR M7 G7 HR7
          obtain ⟨⟨mc0, mc1, mc2, mc3, mc4, mc5, mc6, mc7, mc8, mc9⟩, _⟩ := cells_ten M9.out
          obtain ⟨⟨oc0, oc1, oc2, oc3, oc4, oc5, oc6, oc7, oc8, oc9⟩, _⟩ := cells_ten O9.out
          go_wp2_with fail
          refine (sameQ G9.out K9.out s1 (by omega) s3).mono ?_
          rintro e w10 ⟨rfl, b10⟩
          have B10 := hide' (bt' B79.out b10)
          clear b10 mc0 oc0 mc1 oc1 mc2 oc2 mc3 oc3 mc4 oc4 mc5 oc5 mc6 oc6 mc7 oc7 mc8 oc8 mc9 oc9 G9 K9 M9 O9
          go_wp2_with fail
          go_roundw
          case rel => exact ⟨rb.drop n, held.drop n, 0, pci_but (P6.out _ HS'.out) B10.out⟩
          case measure => simp [lenV]; omega
    · obtain rfl : i = L := by omega
      have hnil : (ps.drop i).flatten = [] := by
        rw [List.drop_eq_nil_of_le (by rw [← HP.out.2.1, ← HL.out]; exact Nat.le_refl _)]; rfl
      rw [hnil] at PI
      have hrbl := PI.out.2.2.2.2.1
      have hhl := PI.out.2.2.2.2.2
      have HRN := hide' PI.out.1
      have HR := hide' (holdsN_but HRN.out PI.out.2.2.2.1)
      have CR := hide' (msgRef _ rb wr HR.out (by omega))
      obtain ⟨s1, s2, s3⟩ := msgQ_size rb
      have FIN : Hid ((er = 0 ∧ rb = held ∧ (msgQ rb).2.2.2.2 = 0 ∧ (msgQ rb).2.2.2.1 = 0 ∧ eQ held = 0 ∧ nQ held = 0) ∨ (er ≠ 0 ∧ (msgQ rb).2.2.2.2 = er ∧ (msgQ rb).2.2.2.1 = 0)) := by
        by_cases he : er = 0
        · subst he
          have e := ps_end PI.out.2.1
          obtain ⟨t1, t2⟩ := TD.out rfl
          refine .inl ⟨rfl, e, ?_, ?_, t1, t2⟩
          · rw [e]; exact t1
          · rw [e]; exact t2
        · have e := ps_err PI.out.2.1 he
          refine .inr ⟨he, e, ?_⟩
          have : eQ rb ≠ 0 := by rw [e]; exact he
          exact nQ_bad this
      generalize msgQ rb = X at CR FIN s1 s2 s3
      obtain ⟨⟨m, t, k, fs⟩, bd, tl, n, ee⟩ := X
      simp only at FIN s1 s2 s3
      clear hnil HR
      go_wp2_with fail
      refine CR.out.mono ?_
      intro e w5 h
      obtain ⟨la1, lc1, ba1, bc1, ta1, tc1, rfl, _, b5, _⟩ := ansQ_open h
      simp only
      have b6 := below_alloc' w5 (.cells #[.string ⟨m.toArray⟩, .string ⟨t.toArray⟩, .int .i64 k, .slice la1 fs.length lc1, .int .i64 0, .string ⟨#[]⟩, .int .i64 0, .slice none 0 0, .slice ba1 bd.length bc1, .slice ta1 tl.length tc1] 31)
      have P6 := hide' (pci_but PI.out (bt' b5 b6))
      have BW := hide' (B4.out.trans (P6.out.2.2.2.1.below B4.out.size hwg.out))
      have CN := hide' (nextAny g w4 N hNl _ rb held [] er _ P6.out (env_below EV.out BW.out) (er_below RV.out BW.out))
      clear h b5 b6 CR PI
      go_wp2_with fail
      refine CN.out.mono ?_
      intro e w7 h
      clear CN P6 BW
      rcases FIN.out with ⟨h1, h2, h3, h4, h5, h6⟩ | ⟨h1, h2, h3⟩
      · subst h1 h3 h4 h2
        rcases h with ⟨er', rfl, P7, _, _, q2⟩ | ⟨_, _, _, _, _, _, hn6, _⟩
        · have q3 := q2.out rfl
          rw [h5] at q3
          subst q3
          have P8 := hide' (pci_but P7.out (below_alloc' w7 (.cells #[.string ⟨#[]⟩, .string ⟨#[]⟩, .int .i64 0, .slice none 0 0, .int .i64 0, .string ⟨#[]⟩, .int .i64 0, .slice none 0 0, .slice none 0 0, .slice none 0 0] 31)))
          have BW8 := hide' (B4.out.trans (P8.out.2.2.2.1.below B4.out.size hwg.out))
          have CR2 := hide' (restM g w4.heap.size 11 _ 0 _ P8.out.2.2.1 (by omega))
          have HR8 := hide' (holdsN_but HRN.out P8.out.2.2.2.1)
          unfold mzV
          clear P7 q2 h5 h6
          go_wp2_with fail
          refine CR2.out.mono ?_
          rintro e w9 ⟨u9, rfl, ho9⟩
          have BW9 := hide' (bt' BW8.out ho9.2)
          have H9 := hide' (holdsB_own ho9)
          have HR9 := hide' (holdsB_mono HR8.out ho9.2)
          obtain ⟨xa, xc, hu, _⟩ := H9.out
          subst hu
          clear ho9 CR2 HR8
          go_wp2_with fail
          refine (sameBe _ _ _ _ H9.out HR9.out (by omega)).mono ?_
          rintro e w10 ⟨rfl, b10⟩
          have BW10 := hide' (bt' BW9.out b10)
          clear b10
          go_wp2_with fail
          go_ret
          exact ⟨rfl, BW10.out⟩
        · omega
      · subst h2 h3
        rcases h with ⟨er', rfl, P7, _, q1, _⟩ | ⟨he, _⟩
        · have q3 := q1.out h1
          subst q3
          have P8 := hide' (pci_but P7.out (below_alloc' w7 (.cells #[.string ⟨#[]⟩, .string ⟨#[]⟩, .int .i64 0, .slice none 0 0, .int .i64 0, .string ⟨#[]⟩, .int .i64 0, .slice none 0 0, .slice none 0 0, .slice none 0 0] 31)))
          have BW8 := hide' (B4.out.trans (P8.out.2.2.2.1.below B4.out.size hwg.out))
          have h1' : (er' == 0) = false := by simpa using h1
          have h1'' : (er' != 0) = true := by simpa using h1
          unfold mzV
          clear P7 q1
          go_wp2_with fail
          go_ret
          exact ⟨rfl, BW8.out⟩
        · exact absurd he h1
end inboxPieces
end Go.Proofs.YtmikgpmnffdnnaaGreatDoor
