/- The contracts of known and Unchanged. -/
import Derived.Test.YtikokjclhpgocaaDoorVaA
namespace Go.Proofs.YtikokjclhpgocaaDoor
open Go.RowKit
theorem any_in {vs : List (List UInt8)} {p : List UInt8 → Bool} {k : Nat} (hk : k < vs.length) {x : List UInt8} (hx : x ∈ listOf vs[k]) (h : p x = true) : (vs.flatMap listOf).any p = true :=
  List.any_eq_true.2 ⟨x, List.mem_flatMap.2 ⟨vs[k], List.getElem_mem hk, hx⟩, h⟩
theorem any_next {vs : List (List UInt8)} {p : List UInt8 → Bool} {k : Nat} (hk : k < vs.length) (h1 : ((vs.take k).flatMap listOf).any p = false) (h2 : (listOf vs[k]).any p = false) : ((vs.take (k + 1)).flatMap listOf).any p = false := by
  rw [List.take_succ_eq_append_getElem hk, List.flatMap_append, List.any_append, h1]
  simpa using h2
theorem any_snoc {ts : List (List UInt8)} {p : List UInt8 → Bool} {j : Nat} (hj : j < ts.length) (h1 : (ts.take j).any p = false) (h2 : p ts[j] = false) : (ts.take (j + 1)).any p = false := by
  rw [List.take_succ_eq_append_getElem hj, List.any_append, h1]
  simp [h2]
set_option maxHeartbeats 4000000 in
set_option maxRecDepth 20000 in
theorem knownC (v : Value) (vs : List (List UInt8)) (tag : List UInt8) (w : World) (hv : Holds w v vs) (hb : bulkT vs ≤ 9000000) (hbm : ∀ x ∈ vs, x.length ≤ 4194304) :
    Calls Tryd.prog 25 #[v, .string ⟨tag.toArray⟩] w fun e w' => e = .returned (.bool ((vs.flatMap listOf).any (hitE tag))) ∧ Below w.heap.size w w' := by
  obtain ⟨ao, ca, b1, o1, rfl, hc⟩ := holds_parts hv
  have C := hide' hc
  have BM := hide' hbm
  have hlv := bulkT_len vs
  obtain ⟨res, er⟩ : ∃ res, res = (vs.flatMap listOf).any (hitE tag) := ⟨_, rfl⟩
  have RS := hide' er
  rw [← er]
  clear er
  clear hv hc hbm
  obtain ⟨n, en⟩ : ∃ n, n = vs.length := ⟨_, rfl⟩
  have N : Hid (vs.length = n) := en.symm
  rw [N.out] at hlv ⊢
  clear en
  go_enter Tryd.func25, Tryd.ntmps25
  go_wp2_with fail
  go_loopw [11] (fun i wr => ∃ k : Nat, k ≤ n ∧ i = .int .i64 k ∧ Hid (((vs.take k).flatMap listOf).any (hitE tag) = false) ∧ Hid (Below w.heap.size w wr)) (fun i _ => n - (intOf i).toNat)
  case atStart => exact ⟨0, Nat.zero_le _, rfl, by unfold Hid; simp, Below.refl _ _⟩
  case round =>
    obtain ⟨k, hk, rfl, HA, HB⟩ := hrel
    obtain ⟨w1, ew⟩ : ∃ w1, w1 = wr := ⟨_, rfl⟩
    subst ew
    by_cases hlt : k < n
    · have G : Hid (k < vs.length) := by unfold Hid; rw [N.out]; exact hlt
      obtain ⟨hao, hblt, hcell⟩ := C.out (by have := G.out; omega)
      subst hao
      have c1 : w1.cell? ⟨b1, o1 + k, none⟩ = some (.string ⟨(vs[k]'G.out).toArray⟩) := by
        rw [HB.out.cell (p := ⟨b1, o1 + k, none⟩) hblt]; exact hcell k G.out
      have bl := BM.out _ (List.getElem_mem G.out)
      have cL := hide' (fun W => listTok ⟨(vs[k]'G.out).toArray⟩ W (by rw [size_l]; omega))
      simp only at cL
      have IN := hide' (fun x (hx : x ∈ listOf (vs[k]'G.out)) (h : hitE tag x = true) => (show res = true from by rw [RS.out]; exact any_in G.out hx h))
      have NX := hide' (fun (h2 : (listOf (vs[k]'G.out)).any (hitE tag) = false) => any_next G.out HA.out h2)
      have lm := listOf_len (vs[k]'G.out)
      have LL := hide' (fun x (hx : x ∈ listOf (vs[k]'G.out)) => Nat.le_trans (listOf_mem _ x hx) bl)
      clear hcell HA
      generalize vs[k]'G.out = q at c1 cL IN NX LL bl lm
      generalize listOf q = ts at cL IN NX LL lm
      go_wp2_with fail
      refine (cL.out _).mono ?_
      rintro e w2 ⟨u, rfl, ho⟩
      have B2 := hide' (bt' HB.out ho.2)
      obtain ⟨ta, tc, b2, o2, eu, ht⟩ := holds_parts (holds_own ho)
      have T := hide' ht
      rw [eu]
      clear ho eu ht cL HB c1
      obtain ⟨m, em⟩ : ∃ m, m = ts.length := ⟨_, rfl⟩
      have M : Hid (ts.length = m) := em.symm
      rw [M.out] at lm ⊢
      clear em
      go_wp2_with fail
      go_loop [18] (fun i => ∃ j : Nat, j ≤ m ∧ i = .int .i64 j ∧ Hid ((ts.take j).any (hitE tag) = false)) (fun i => m - (intOf i).toNat)
      case atStart => exact ⟨0, Nat.zero_le _, rfl, by unfold Hid; simp⟩
      case round =>
        obtain ⟨j, hj, rfl, HJ⟩ := hrel
        by_cases hjt : j < m
        · have G2 : Hid (j < ts.length) := by unfold Hid; rw [M.out]; exact hjt
          obtain ⟨hto, htlt, htc⟩ := T.out (by have := G2.out; omega)
          subst hto
          have c2 := htc j G2.out
          unfold S at c2
          have SN := hide' (fun (h2 : hitE tag (ts[j]'G2.out) = false) => any_snoc G2.out HJ.out h2)
          have HT := hide' (fun (h : hitE tag (ts[j]'G2.out) = true) => IN.out _ (List.getElem_mem G2.out) h)
          have ll := LL.out _ (List.getElem_mem G2.out)
          clear htc HJ IN LL
          generalize ts[j]'G2.out = x at c2 SN HT ll
          have HE : Hid (hitE tag x = (decide (x = [42]) || sameG x tag false)) := rfl
          by_cases hs : x = [42]
          · have F := hide' (HT.out (by rw [HE.out, decide_eq_true hs]; rfl))
            subst hs
            clear SN HT HE
            go_wp2_with fail
            go_ret
            exact ⟨by rw [F.out]; rfl, B2.out⟩
          · have n1 := ba_eqlT hs
            have n2 : (x == [42]) = false := by simpa using hs
            have cS := hide' (fun W => sameC x tag false W (by omega))
            cases hg : sameG x tag false with
            | true =>
              have F := hide' (HT.out (by rw [HE.out, hg]; simp))
              rw [hg] at cS
              clear SN HT HE hs hg
              go_wp2_with fail
              refine (cS.out _).mono ?_
              rintro e w3 ⟨rfl, rfl⟩
              go_wp2_with fail
              go_ret
              exact ⟨by rw [F.out]; rfl, B2.out⟩
            | false =>
              have F := hide' (SN.out (by rw [HE.out, hg, decide_eq_false hs]; rfl))
              rw [hg] at cS
              clear SN HT HE hs hg
              go_wp2_with fail
              refine (cS.out _).mono ?_
              rintro e w3 ⟨rfl, rfl⟩
              go_wp2_with fail
              go_round
              case rel => exact ⟨j + 1, by omega, by go_num, F⟩
              case measure => simp [intOf]; omega
        · have E : Hid (ts.take j = ts) := List.take_of_length_le (by rw [M.out]; omega)
          rw [E.out] at HJ
          have F := hide' (NX.out HJ.out)
          clear NX HJ IN LL T E
          go_wp2_with fail
          go_roundw
          case rel => exact ⟨k + 1, by omega, by go_num, F, B2⟩
          case measure => simp [intOf]; omega
    · have E : Hid (vs.take k = vs) := List.take_of_length_le (by rw [N.out]; omega)
      rw [E.out] at HA
      go_wp2_with fail
      go_ret
      exact ⟨by rw [RS.out, HA.out]; rfl, HB.out⟩
theorem vals_small {fs : FL} {m : Nat} (h : ∀ f ∈ fs, f.2.length ≤ m) (n : List UInt8) : ∀ x ∈ valsOf fs n, x.length ≤ m := by
  intro x hx
  unfold valsOf at hx
  obtain ⟨f, hf, rfl⟩ := List.mem_map.1 hx
  exact h f (List.mem_filter.1 hf).1
theorem small_bulk {fs : FL} (h : bulkF fs ≤ 1048576) : ∀ f ∈ fs, f.2.length ≤ 4194304 := fun f hf => by have := bulkF_mem fs f hf; omega
theorem unch_else (D : List UInt8 → Int) (ask : FL) (fs : FL) (h : valsOf ask inN = []) : unchOf D ask 200 fs = (decide (0 ≤ D (getJ ask imN)) && decide (0 ≤ D (getJ fs lmN)) && decide (D (getJ fs lmN) ≤ D (getJ ask imN))) := by
  unfold unchOf
  rw [if_neg (by simp), if_neg (by simpa using h)]
theorem unch_tags (D : List UInt8 → Int) (ask : FL) (fs : FL) (h : valsOf ask inN ≠ []) : unchOf D ask 200 fs = ((valsOf ask inN).flatMap listOf).any (hitE (getJ fs etN)) := by
  unfold unchOf
  rw [if_neg (by simp), if_pos h]
theorem unch_not (D : List UInt8 → Int) (ask : FL) (s : Int) (fs : FL) (h : s ≠ 200) : unchOf D ask s fs = false := by
  unfold unchOf
  rw [if_pos h]
set_option maxHeartbeats 4000000 in
set_option maxRecDepth 20000 in
theorem unchC (s k : Int) (r : List UInt8) (av lv : Value) (ask fs : FL) (D : List UInt8 → Int) (w : World) (ha : HoldsF w av ask) (hv : HoldsF w lv fs) (hb : bulkF fs ≤ 1048576) (hba : bulkF ask ≤ 9000000) (hbm : ∀ f ∈ ask, f.2.length ≤ 4194304) (E : EvD w)
    (hD1 : DtP (getJ ask imN) (D (getJ ask imN))) (hD2 : DtP (getJ fs lmN) (D (getJ fs lmN))) :
    Calls Tryd.prog 12 #[av, .agg #[.int .i64 s, .string ⟨r.toArray⟩, .int .i64 k, lv]] w fun e w' => e = .returned (.bool (unchOf D ask s fs)) ∧ Below w.heap.size w w' := by
  have CV := hide' (fun W (h : Below w.heap.size w W) => valuesTok av ask inN W (holdsF_mono ha h) (fit_bulk hba (by omega)) (by decide) (by have := bulkF_len ask; omega))
  have CG := fun W (h : Below w.heap.size w W) => getTok lv fs etU W (holdsF_mono hv h) hb (by decide)
  simp only [getJ_eq, getJ_et] at CG
  replace CG := hide' CG
  have CS := hide' (fun W (h : Below w.heap.size w W) => secondVC av ask imN (D (getJ ask imN)) W (holdsF_mono ha h) hba (by decide) (evD_below E h) hD1)
  have CM := hide' (fun W (h : Below w.heap.size w W) => secondVC lv fs lmU (D (getJ fs lmN)) W (holdsF_mono hv h) (by omega) (by decide) (evD_below E h) (by rw [getJ_lm]; exact hD2))
  have bv := bulk_vals ask inN
  have CK := hide' (fun u W (h : Holds W u (valsOf ask inN)) => knownC u (valsOf ask inN) (getJ fs etN) W h (by omega) (vals_small hbm inN))
  obtain ⟨la, lc, _, _, el, -⟩ := holdsF_parts hv
  obtain ⟨aa, ac, _, _, ea, -⟩ := holdsF_parts ha
  subst el ea
  have U1 := hide' (unch_else D ask fs)
  have U2 := hide' (unch_tags D ask fs)
  have U3 := hide' (unch_not D ask s fs)
  clear hv ha E hD1 hD2 bv
  generalize (⟨r.toArray⟩ : ByteArray) = R
  generalize decide (0 < (valsOf fs etU).length) = p1 at CG
  generalize fs.length = n at CG CM ⊢
  generalize ask.length = q at CV CS ⊢
  have P0 := hide' (show Blk w.heap.size (w.alloc (.cells #[.int .i64 s, .string R, .int .i64 k, .slice la n lc] 24)) [.int .i64 s, .string R, .int .i64 k, .slice la n lc] from cells_lit w _ _)
  have B0 := hide' (below_alloc' w (.cells #[.int .i64 s, .string R, .int .i64 k, .slice la n lc] 24))
  by_cases h200 : s = 200
  · subst h200
    generalize D (getJ ask imN) = ds at CS U1 
    generalize D (getJ fs lmN) = dm at CM U1
    generalize unchOf D ask 200 fs = res at U1 U2 ⊢
    generalize getJ fs etN = je at CG CK U2
    generalize valsOf ask inN = vs at CV CK U1 U2
    go_enter Tryd.func12, Tryd.ntmps12
    go_wp2_with fail
    refine (CV.out _ B0.out).mono ?_
    rintro e w1 ⟨u, rfl, ho⟩
    have B1 := hide' (bt' B0.out ho.2)
    have P1 := hide' (cells_below P0.out ho.2)
    have H1 := hide' (holds_own ho)
    obtain ⟨va, vc, _, _, ev, -⟩ := holds_parts (holds_own ho)
    rw [ev] at H1 ⊢
    clear ho ev CV B0 P0
    by_cases hz : vs = []
    · have E1 := hide' (U1.out hz)
      subst hz
      obtain ⟨i0, i1, i2, i3, iz⟩ := blk4 P1.out
      clear U1 U2 CK CG H1
      simp only [List.length_nil]
      go_wp2_with fail
      refine (CS.out _ B1.out).mono ?_
      rintro e w2 ⟨rfl, b2⟩
      have B2 := hide' (bt' B1.out b2)
      have P2 := hide' (cells_below P1.out b2)
      clear b2 B1 P1 i0 i1 i2 i3 iz CS
      obtain ⟨i0, i1, i2, i3, iz⟩ := blk4 P2.out
      go_wp2_with fail
      refine (CM.out _ B2.out).mono ?_
      rintro e w3 ⟨rfl, b3⟩
      have B3 := hide' (bt' B2.out b3)
      clear b3 B2 P2 i0 i1 i2 i3 iz CM
      by_cases h1 : 0 ≤ ds
      · by_cases h2 : 0 ≤ dm
        · have e1 : max ds 0 = ds := by omega
          have e2 : max dm 0 = dm := by omega
          rw [e1, e2, decide_eq_true h1, decide_eq_true h2]
          clear e1 e2
          by_cases h3 : dm ≤ ds
          · have F := hide' (show res = true from by rw [E1.out, decide_eq_true h1, decide_eq_true h2, decide_eq_true h3]; rfl)
            clear E1 h1 h2
            go_wp2_with fail
            go_ret
            exact ⟨by rw [F.out]; rfl, B3.out⟩
          · have F := hide' (show res = decide (dm ≤ ds) from by rw [E1.out, decide_eq_true h1, decide_eq_true h2, Bool.true_and, Bool.true_and])
            clear E1 h1 h2
            go_wp2_with fail
            go_ret
            exact ⟨by rw [F.out]; rfl, B3.out⟩
        · have F := hide' (show res = false from by rw [E1.out, decide_eq_false h2, Bool.and_false, Bool.false_and])
          rw [decide_eq_true h1, decide_eq_false h2]
          generalize max ds 0 = x1
          generalize max dm 0 = x2
          clear h1 h2 E1
          go_wp2_with fail
          go_ret
          exact ⟨by rw [F.out]; rfl, B3.out⟩
      · have F := hide' (show res = false from by rw [E1.out, decide_eq_false h1, Bool.false_and, Bool.false_and])
        rw [decide_eq_false h1]
        generalize max ds 0 = x1
        generalize max dm 0 = x2
        generalize decide (0 ≤ dm) = x3
        clear h1 E1
        go_wp2_with fail
        go_ret
        exact ⟨by rw [F.out]; rfl, B3.out⟩
    · have E2 := hide' (U2.out hz)
      have hn0 : 0 < vs.length := List.length_pos_iff.2 hz
      have CK1 := hide' (fun W (h : Below w1.heap.size w1 W) => CK.out _ W (holds_mono H1.out h))
      obtain ⟨i0, i1, i2, i3, iz⟩ := blk4 P1.out
      clear hz U1 U2 CK H1 CS CM
      generalize (vs.flatMap listOf).any (hitE je) = rb at CK1 E2
      generalize vs.length = vl at hn0 CK1 ⊢
      go_wp2_with fail
      refine (CG.out _ B1.out).mono ?_
      rintro e w2 ⟨rfl, b2⟩
      have B2 := hide' (bt' B1.out b2)
      have cK := hide' (CK1.out w2 b2)
      clear b2 B1 P1 i0 i1 i2 i3 iz CG CK1
      go_wp2_with fail
      refine cK.out.mono ?_
      rintro e w3 ⟨rfl, b3⟩
      have B3 := hide' (bt' B2.out b3)
      clear b3 B2 cK
      go_wp2_with fail
      go_ret
      exact ⟨by rw [E2.out]; rfl, B3.out⟩
  · have E3 := hide' (U3.out h200)
    have hs : (s != 200) = true := by simpa using h200
    rw [E3.out]
    clear U1 U2 U3 E3 CV CG CS CM CK h200
    go_enter Tryd.func12, Tryd.ntmps12
    go_wp2_with fail
    go_ret
    exact ⟨rfl, B0.out⟩
end Go.Proofs.YtikokjclhpgocaaDoor
