/- The contract of the document's Unchanged. -/
import Derived.Test.YtikokjclhpgocaaDoorVaRa
import Derived.Test.YtikokjclhpgocaaDoorVaU
namespace Go.Proofs.YtikokjclhpgocaaDoor
open Go.RowKit
def inL : List UInt8 := [105, 102, 45, 110, 111, 110, 101, 45, 109, 97, 116, 99, 104]
def imL : List UInt8 := [105, 102, 45, 109, 111, 100, 105, 102, 105, 101, 100, 45, 115, 105, 110, 99, 101]
theorem vals_inL (fs : FL) : valsOf fs inL = valsOf fs inN := vals_low2 fs (by decide)
theorem getJ_im (fs : FL) : getJ fs imL = getJ fs imN := getJ_low fs (by decide)
set_option maxHeartbeats 8000000 in
set_option maxRecDepth 20000 in
theorem unchRC (s k : Int) (r : List UInt8) (av lv : Value) (ask fs : FL) (D : List UInt8 → Int) (w : World) (ha : HoldsF w av ask) (hv : HoldsF w lv fs) (hb : bulkF fs ≤ 1048576) (hba : bulkF ask ≤ 1048576)
    (hD1 : DtB (getJ ask imN) (D (getJ ask imN))) (hD2 : DtB (getJ fs lmN) (D (getJ fs lmN))) :
    Calls Tryd.prog 14 #[av, .agg #[.int .i64 s, .string ⟨r.toArray⟩, .int .i64 k, lv]] w fun e w' => e = .returned (.bool (unchOf D ask s fs)) ∧ Below w.heap.size w w' := by
  have CV := fun W (h : Below w.heap.size w W) => valuesRef av ask inL W (holdsF_mono ha h) (fit_bulk hba (by omega)) (by decide) (by have := bulkF_len ask; omega)
  simp only [vals_inL] at CV
  replace CV := hide' CV
  have CG := fun W (h : Below w.heap.size w W) => getRef lv fs etN W (holdsF_mono hv h) hb (by decide)
  simp only [getJ_eq] at CG
  replace CG := hide' CG
  have CS := hide' (fun W (h : Below w.heap.size w W) => secondVR av ask imL (D (getJ ask imN)) W (holdsF_mono ha h) hba (by decide) (by rw [getJ_im]; exact hD1))
  have CM := hide' (fun W (h : Below w.heap.size w W) => secondVR lv fs lmN (D (getJ fs lmN)) W (holdsF_mono hv h) hb (by decide) hD2)
  have bv := bulk_vals ask inN
  have gl := getJ_len fs etN
  have BM := hide' (bulkT_mem (valsOf ask inN))
  have BL := bulkT_len (valsOf ask inN)
  obtain ⟨la, lc, _, _, el, -⟩ := holdsF_parts hv
  obtain ⟨aa, ac, _, _, ea, -⟩ := holdsF_parts ha
  subst el ea
  have U1 := hide' (unch_else D ask fs)
  have U2 := hide' (unch_tags D ask fs)
  have U3 := hide' (unch_not D ask s fs)
  clear hv ha hD1 hD2
  generalize (⟨r.toArray⟩ : ByteArray) = R
  generalize decide (0 < (valsOf fs etN).length) = p1 at CG
  generalize fs.length = fl at CG CM ⊢
  generalize ask.length = q at CV CS ⊢
  have P0 := hide' (show Blk w.heap.size (w.alloc (.cells #[.int .i64 s, .string R, .int .i64 k, .slice la fl lc] 24)) [.int .i64 s, .string R, .int .i64 k, .slice la fl lc] from cells_lit w _ _)
  have B0 := hide' (below_alloc' w (.cells #[.int .i64 s, .string R, .int .i64 k, .slice la fl lc] 24))
  by_cases h200 : s = 200
  · subst h200
    generalize D (getJ ask imN) = ds at CS U1
    generalize D (getJ fs lmN) = dm at CM U1
    generalize unchOf D ask 200 fs = res at U1 U2 ⊢
    generalize getJ fs etN = je at CG U2 gl
    generalize valsOf ask inN = vs at CV U1 U2 bv BM BL
    generalize bulkF ask = ba at bv hba
    go_enter Tryd.func14, Tryd.ntmps14
    go_wp2_with fail
    refine (CV.out _ B0.out).mono ?_
    rintro e w1 ⟨u, rfl, ho⟩
    have B1 := hide' (bt' B0.out ho.2)
    have P1 := hide' (cells_below P0.out ho.2)
    have H1 := hide' (holds_own ho)
    obtain ⟨va, vc, b1, o1, ev, hc⟩ := holds_parts (holds_own ho)
    have C := hide' hc
    rw [ev] at H1 ⊢
    clear ho ev CV B0 P0 hc
    by_cases hz : vs = []
    · have E1 := hide' (U1.out hz)
      subst hz
      obtain ⟨i0, i1, i2, i3, iz⟩ := blk4 P1.out
      clear U1 U2 CG H1 C BM BL bv
      simp only [List.length_nil]
      go_wp2_with fail
      refine (CS.out _ B1.out).mono ?_
      rintro e w2 ⟨rfl, b2⟩
      have B2 := hide' (bt' B1.out b2)
      have P2 := hide' (cells_below P1.out b2)
      clear b2 B1 P1 i0 i1 i2 i3 iz CS
      obtain ⟨i0, i1, i2, i3, iz⟩ := blk4 P2.out
      go_wp2_with fail
      refine (CM.out _ B2.out).mono ?_
      rintro e w3 ⟨rfl, b3⟩
      have B3 := hide' (bt' B2.out b3)
      clear b3 B2 P2 i0 i1 i2 i3 iz CM
      by_cases h1 : 0 ≤ ds
      · by_cases h2 : 0 ≤ dm
        · by_cases h3 : dm ≤ ds
          · have F := hide' (show res = true from by rw [E1.out, decide_eq_true h1, decide_eq_true h2, decide_eq_true h3]; rfl)
            clear E1
            go_wp2_with fail
            go_ret
            exact ⟨by rw [F.out]; first | rfl | simp [h3], B3.out⟩
          · have F := hide' (show res = false from by rw [E1.out, decide_eq_false h3, Bool.and_false])
            clear E1
            go_wp2_with fail
            go_ret
            exact ⟨by rw [F.out]; first | rfl | simp [h3], B3.out⟩
        · have F := hide' (show res = false from by rw [E1.out, decide_eq_false h2, Bool.and_false, Bool.false_and])
          clear E1
          go_wp2_with fail
          go_ret
          exact ⟨by rw [F.out]; first | rfl | simp [h1, h2], B3.out⟩
      · have F := hide' (show res = false from by rw [E1.out, decide_eq_false h1, Bool.false_and, Bool.false_and])
        clear E1
        go_wp2_with fail
        go_ret
        exact ⟨by rw [F.out]; first | rfl | simp [h1], B3.out⟩
    · have E2 := hide' (U2.out hz)
      have hn0 : 0 < vs.length := List.length_pos_iff.2 hz
      obtain ⟨i0, i1, i2, i3, iz⟩ := blk4 P1.out
      clear hz U1 U2 H1 CS CM
      obtain ⟨n, en⟩ : ∃ n, n = vs.length := ⟨_, rfl⟩
      have N : Hid (vs.length = n) := en.symm
      rw [N.out] at hn0 BL ⊢
      clear en
      go_wp2_with fail
      refine (CG.out _ B1.out).mono ?_
      rintro e w2 ⟨rfl, b2⟩
      have B2 := hide' (bt' B1.out b2)
      have C2 := hide' b2
      clear b2 P1 i0 i1 i2 i3 iz CG
      go_wp2_with fail
      go_loopw [8] (fun i wr => ∃ j : Nat, j ≤ n ∧ i = .int .i64 j ∧ Hid (((vs.take j).flatMap listOf).any (hitE je) = false) ∧ Hid (Below w1.heap.size w1 wr)) (fun i _ => n - (intOf i).toNat)
      case atStart => exact ⟨0, Nat.zero_le _, rfl, by unfold Hid; simp, C2⟩
      case round =>
        obtain ⟨j, hj, rfl, HA, HB⟩ := hrel
        obtain ⟨w3, ew⟩ : ∃ w3, w3 = wr := ⟨_, rfl⟩
        subst ew
        by_cases hlt : j < n
        · have G : Hid (j < vs.length) := by unfold Hid; rw [N.out]; exact hlt
          obtain ⟨hao, hblt, hcell⟩ := C.out (by have := G.out; omega)
          subst hao
          have c1 : w3.cell? ⟨b1, o1 + j, none⟩ = some (.string ⟨(vs[j]'G.out).toArray⟩) := by
            rw [HB.out.cell (p := ⟨b1, o1 + j, none⟩) hblt]; exact hcell j G.out
          have bl := BM.out _ (List.getElem_mem G.out)
          have cL := hide' (fun W => listRef ⟨(vs[j]'G.out).toArray⟩ W (by rw [size_l]; omega))
          simp only at cL
          have IN := hide' (fun x (hx : x ∈ listOf (vs[j]'G.out)) (h : hitE je x = true) => (show res = true from by rw [E2.out]; exact any_in G.out hx h))
          have NX := hide' (fun (h2 : (listOf (vs[j]'G.out)).any (hitE je) = false) => any_next G.out HA.out h2)
          have lm := listOf_len (vs[j]'G.out)
          have LL := hide' (fun x (hx : x ∈ listOf (vs[j]'G.out)) => Nat.le_trans (listOf_mem _ x hx) bl)
          clear hcell HA
          generalize vs[j]'G.out = q1 at c1 cL IN NX LL bl lm
          generalize listOf q1 = ts at cL IN NX LL lm
          go_wp2_with fail
          refine (cL.out _).mono ?_
          rintro e w4 ⟨u, rfl, ho⟩
          have B4 := hide' (bt' HB.out ho.2)
          obtain ⟨ta, tc, b2, o2, eu, ht⟩ := holds_parts (holds_own ho)
          have T := hide' ht
          rw [eu]
          clear ho eu ht cL HB c1
          obtain ⟨m, em⟩ : ∃ m, m = ts.length := ⟨_, rfl⟩
          have M : Hid (ts.length = m) := em.symm
          rw [M.out] at lm ⊢
          clear em
          go_wp2_with fail
          go_loop [10] (fun i => ∃ g : Nat, g ≤ m ∧ i = .int .i64 g ∧ Hid ((ts.take g).any (hitE je) = false)) (fun i => m - (intOf i).toNat)
          case atStart => exact ⟨0, Nat.zero_le _, rfl, by unfold Hid; simp⟩
          case round =>
            obtain ⟨g, hg, rfl, HJ⟩ := hrel
            by_cases hgt : g < m
            · have G2 : Hid (g < ts.length) := by unfold Hid; rw [M.out]; exact hgt
              obtain ⟨hto, htlt, htc⟩ := T.out (by have := G2.out; omega)
              subst hto
              have c2 := htc g G2.out
              unfold S at c2
              have SN := hide' (fun (h2 : hitE je (ts[g]'G2.out) = false) => any_snoc G2.out HJ.out h2)
              have HT := hide' (fun (h : hitE je (ts[g]'G2.out) = true) => IN.out _ (List.getElem_mem G2.out) h)
              have ll := LL.out _ (List.getElem_mem G2.out)
              clear htc HJ IN LL
              generalize ts[g]'G2.out = x at c2 SN HT ll
              have HE : Hid (hitE je x = (decide (x = [42]) || sameG x je false)) := rfl
              by_cases hs : x = [42]
              · have F := hide' (HT.out (by rw [HE.out, decide_eq_true hs]; rfl))
                subst hs
                clear SN HT HE
                go_wp2_with fail
                go_ret
                exact ⟨by rw [F.out]; rfl, bt' B1.out B4.out⟩
              · have n1 := ba_eqlT hs
                have n2 : (x == [42]) = false := by simpa using hs
                have cS := hide' (fun W => sameRC x je false W (by omega) (by omega))
                cases hgg : sameG x je false with
                | true =>
                  have F := hide' (HT.out (by rw [HE.out, hgg]; simp))
                  rw [hgg] at cS
                  clear SN HT HE hs hgg
                  go_wp2_with fail
                  refine (cS.out _).mono ?_
                  rintro e w5 ⟨rfl, rfl⟩
                  go_wp2_with fail
                  go_ret
                  exact ⟨by rw [F.out]; rfl, bt' B1.out B4.out⟩
                | false =>
                  have F := hide' (SN.out (by rw [HE.out, hgg, decide_eq_false hs]; rfl))
                  rw [hgg] at cS
                  clear SN HT HE hs hgg
                  go_wp2_with fail
                  refine (cS.out _).mono ?_
                  rintro e w5 ⟨rfl, rfl⟩
                  go_wp2_with fail
                  go_round
                  case rel => exact ⟨g + 1, by omega, by go_num, F⟩
                  case measure => simp [intOf]; omega
            · have E : Hid (ts.take g = ts) := List.take_of_length_le (by rw [M.out]; omega)
              rw [E.out] at HJ
              have F := hide' (NX.out HJ.out)
              clear NX HJ IN LL T E
              go_wp2_with fail
              go_roundw
              case rel => exact ⟨j + 1, by omega, by go_num, F, B4⟩
              case measure => simp [intOf]; omega
        · have E : Hid (vs.take j = vs) := List.take_of_length_le (by rw [N.out]; omega)
          rw [E.out] at HA
          go_wp2_with fail
          go_ret
          exact ⟨by rw [E2.out, HA.out]; rfl, bt' B1.out HB.out⟩
  · have E3 := hide' (U3.out h200)
    have hs : (s != 200) = true := by simpa using h200
    rw [E3.out]
    clear U1 U2 U3 E3 CV CG CS CM h200
    go_enter Tryd.func14, Tryd.ntmps14
    go_wp2_with fail
    go_ret
    exact ⟨rfl, B0.out⟩
end Go.Proofs.YtikokjclhpgocaaDoor
