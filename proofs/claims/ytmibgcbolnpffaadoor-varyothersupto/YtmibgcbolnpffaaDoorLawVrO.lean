/- The walk of VaryOthers. -/
import Derived.Test.YtmibgcbolnpffaaDoorVrE
import Derived.Test.YtmibgcbolnpffaaDoorTkD
import Derived.Deep.RegionHeld3
namespace Go.Proofs.YtmibgcbolnpffaaDoor
open Go.RowKit
theorem lows_names (es : FL) : ∀ z ∈ namesV es, lows z = z := by
  unfold namesV
  intro z hz
  split at hz
  · rw [mem_uniq] at hz
    unfold wordsV toksOf at hz
    obtain ⟨y, _, rfl⟩ := List.mem_map.1 hz
    exact lows_idem y
  · cases hz
theorem tell_more (fs : FL) (c : Nat) {x y n : List UInt8} (h : ¬ lows x = lows n) : tellOf (fs.take c ++ [(x, y)] ++ fs.drop c) n = tellOf fs n := by unfold tellOf elsOf; rw [vals_more fs c h]
theorem match_more (es fs : FL) (vary x y : List UInt8) (c : Nat) (h : lows x ∉ namesV es) : matchV es vary (fs.take c ++ [(x, y)] ++ fs.drop c) = matchV es vary fs := by
  have e : ∀ ns : List Nm, (∀ z ∈ ns, ¬ lows x = lows z) → keyV ns (fs.take c ++ [(x, y)] ++ fs.drop c) = keyV ns fs := by
    intro ns
    induction ns with
    | nil => intro _; rfl
    | cons z r ih =>
      intro hz
      unfold keyV at ih ⊢
      rw [List.flatMap_cons, List.flatMap_cons, tell_more fs c (hz z List.mem_cons_self), ih (fun y hy => hz y (List.mem_cons_of_mem _ hy))]
  unfold matchV
  rw [e (namesV es) (fun z hz => by rw [lows_names es z hz]; intro e; exact h (by rw [e]; exact hz))]
theorem cells_duo {b : Nat} {W : World} {u v : Value} (h : Blk b W [u, v]) : W.cell? ⟨b, 0, none⟩ = some u ∧ W.cell? ⟨b, 1, none⟩ = some v := ⟨(h.1 0 (by simp)).1, (h.1 1 (by simp)).1⟩
set_option maxHeartbeats 16000000 in
set_option maxRecDepth 20000 in
theorem othersW (e : En) (lv bv av : Value) (fs : FL) (x y : List UInt8) (p : Int) (w : World) (hF : HoldsF w lv e.r.fs) (hB : HoldsB w bv e.body) (ha : HoldsF w av fs) (hb : e.key.length + e.vary.length + e.r.r.length + bulkF e.r.fs + e.body.length + bulkF fs + (x.length + y.length + 3) ≤ 1048576) :
    Calls Tryd.prog 7 #[entV e lv bv, av, .agg #[.string ⟨x.toArray⟩, .string ⟨y.toArray⟩], .int .i64 p] w fun e w' => e = .returned (.bool true) ∧ Below w.heap.size w w' := by
  obtain ⟨key, vary, ⟨s, r, k, es⟩, body, a, g⟩ := e
  dsimp only at hb hF hB
  have HA := hide' ha
  have hn : es.length ≤ 2000000 := by have := bulkF_len es; omega
  have hq : fs.length ≤ 1048576 := by have := bulkF_len fs; omega
  have hnl : (namesV es).length ≤ 1048576 := by have h1 := bulk_names es; have h2 := bulkT_len (namesV es); omega
  have c0 := hide' (fun W => aliveV W)
  have cL := hide' (fun W (h : Below w.heap.size w W) => copyF lv es W (holdsF_mono hF h) (by omega))
  have cF := hide' (fun W (h : Below w.heap.size w W) => copyF av fs W (holdsF_mono ha h) (by omega))
  have cN := hide' (fun u W (h : HoldsF W u es) => namesC u es W h (by omega))
  have cW := fun W => lowerRef ⟨x.toArray⟩ W (by rw [size_l]; omega)
  simp only at cW
  replace cW := hide' cW
  have cC := hide' (fun W (h : Below w.heap.size w W) => copyEC ⟨key, vary, ⟨s, r, k, es⟩, body, a, g⟩ lv bv W (holdsF_mono hF h) (holdsB_mono hB h) hn (by dsimp only; omega))
  have cM := fun (c : Nat) l2 b2 u W (h1 : HoldsF W l2 es) (h2 : HoldsB W b2 body) (h3 : HoldsF W u (fs.take c ++ [(x, y)] ++ fs.drop c)) => matchC ⟨key, vary, ⟨s, r, k, es⟩, body, a, g⟩ l2 b2 u (fs.take c ++ [(x, y)] ++ fs.drop c) W h1 h2 h3 (by dsimp only; omega) (by rw [bulk_more]; omega)
  have cT := fun l2 b2 u W (h1 : HoldsF W l2 es) (h2 : HoldsB W b2 body) (h3 : HoldsF W u fs) => matchC ⟨key, vary, ⟨s, r, k, es⟩, body, a, g⟩ l2 b2 u fs W h1 h2 h3 (by dsimp only; omega) (by omega)
  have MM := hide' (fun c (h : lows x ∉ namesV es) => match_more es fs vary x y c h)
  dsimp only at cM cT
  obtain ⟨ao, ca, _, _, el, _⟩ := holdsF_parts hF
  obtain ⟨ba, bc, eb, _⟩ := holdsB_parts hB
  obtain ⟨aa, ac, _, _, ea, _⟩ := holdsF_parts ha
  subst el eb ea
  clear hF hB ha
  unfold entV at cC cM cT ⊢
  dsimp only at cC cM cT ⊢
  generalize matchV es vary fs = mv at cT MM
  replace cM := hide' cM
  replace cT := hide' cT
  generalize namesB es = nb at cN
  generalize namesV es = nv at cN MM hnl
  generalize (⟨key.toArray⟩ : ByteArray) = K at cC cM cT ⊢
  generalize (⟨vary.toArray⟩ : ByteArray) = V at cC cM cT ⊢
  generalize (⟨r.toArray⟩ : ByteArray) = R at cC cM cT ⊢
  obtain ⟨n, en⟩ : ∃ n, n = es.length := ⟨_, rfl⟩
  have N : Hid (es.length = n) := en.symm
  obtain ⟨m, em⟩ : ∃ m, m = body.length := ⟨_, rfl⟩
  have M : Hid (body.length = m) := em.symm
  obtain ⟨q, eq⟩ : ∃ q, q = fs.length := ⟨_, rfl⟩
  have Q : Hid (fs.length = q) := eq.symm
  rw [N.out, M.out] at cC
  rw [N.out] at cL
  rw [Q.out] at cF HA hq
  rw [N.out, M.out, Q.out]
  clear en em eq hb hn
  have P0 := hide' (show E2 w (w.heap.size + 1) (EL K V R s k a g ao ba n m ca bc) [.string ⟨x.toArray⟩, .string ⟨y.toArray⟩] [] [] ((w.alloc (.cells #[.string K, .string V, .int .i64 s, .string R, .int .i64 k, .slice ao n ca, .slice ba m bc, .int .i64 a, .int .i64 g] 38)).alloc (.cells #[.string ⟨x.toArray⟩, .string ⟨y.toArray⟩] 43)) from by
    have b1 := below_alloc' w (.cells #[.string K, .string V, .int .i64 s, .string R, .int .i64 k, .slice ao n ca, .slice ba m bc, .int .i64 a, .int .i64 g] 38)
    have b2 := below_alloc' (w.alloc (.cells #[.string K, .string V, .int .i64 s, .string R, .int .i64 k, .slice ao n ca, .slice ba m bc, .int .i64 a, .int .i64 g] 38)) (.cells #[.string ⟨x.toArray⟩, .string ⟨y.toArray⟩] 43)
    have c2 := cells_lit (w.alloc (.cells #[.string K, .string V, .int .i64 s, .string R, .int .i64 k, .slice ao n ca, .slice ba m bc, .int .i64 a, .int .i64 g] 38)) #[.string ⟨x.toArray⟩, .string ⟨y.toArray⟩] 43
    have z : (w.alloc (.cells #[.string K, .string V, .int .i64 s, .string R, .int .i64 k, .slice ao n ca, .slice ba m bc, .int .i64 a, .int .i64 g] 38)).heap.size = w.heap.size + 1 := by simp
    rw [z] at c2
    exact ⟨bt' b1 b2, cells_below (cells_lit w #[.string K, .string V, .int .i64 s, .string R, .int .i64 k, .slice ao n ca, .slice ba m bc, .int .i64 a, .int .i64 g] 38) b2, c2, (fun p hp => by cases hp), (fun p hp => by cases hp)⟩)
  go_enter Tryd.func7, Tryd.ntmps7
  go_wp2_with fail
  refine (c0.out _).mono ?_
  rintro e w1 ⟨rfl, b1⟩
  have P1 := hide' (e2_below P0.out b1)
  clear b1 P0 c0
  by_cases hp : p < 0
  · go_wp2_with fail
    go_ret
    exact ⟨rfl, P1.out.bel⟩
  · by_cases hpq : (q : Int) < p
    · go_wp2_with fail
      go_ret
      exact ⟨rfl, P1.out.bel⟩
    · obtain ⟨c, rfl⟩ : ∃ c : Nat, p = (c : Int) := ⟨p.toNat, by omega⟩
      have hc : c ≤ fs.length := by have := Q.out; omega
      have HA2 : Hid (HoldsF w (.slice aa fs.length ac) fs) := by unfold Hid; rw [Q.out]; exact HA.out
      obtain ⟨pa, pc, hrT, hT⟩ := holdsF_take HA2.out c hc
      obtain ⟨qa, qc, hrD, hD⟩ := holdsF_drop HA2.out c hc
      rw [Q.out] at hrT hrD hD
      have HT := hide' hT
      have HD := hide' hD
      have LT : Hid ((fs.take c).length ≤ 1048576) := by have := Q.out; unfold Hid; rw [List.length_take]; omega
      have LD : Hid ((fs.drop c).length ≤ 1048576) := by have := Q.out; unfold Hid; rw [List.length_drop]; omega
      replace cM := hide' (fun l2 b2 u W h1 h2 h3 => cM.out c l2 b2 u W h1 h2 h3)
      replace MM := hide' (MM.out c)
      clear hT hD
      obtain ⟨-, -, -, -, -, d5, -, -, -⟩ := eL_cells P1.out.one
      go_wp2_with fail
      refine (cL.out w1 P1.out.bel).mono ?_
      rintro e w2 ⟨u2, rfl, hu2⟩
      have P2 := hide' (e2_below P1.out hu2.2)
      have H2 := hide' (holdsF_own hu2)
      obtain ⟨a2, c2, _, _, e2, _⟩ := holdsF_parts (holdsF_own hu2)
      rw [e2] at H2 ⊢
      clear hu2 e2 P1 d5 cL
      go_wp2_with fail
      refine (cN.out _ w2 H2.out).mono ?_
      rintro e w3 ⟨u3, rfl, hu3⟩
      have P3 := hide' (e2_below P2.out hu3.2)
      obtain ⟨a3, c3, b3, o3, e3, hc3⟩ := holds_parts (holds_own hu3)
      have D3 := hide' hc3
      rw [e3]
      clear hu3 e3 hc3 P2 H2 cN
      obtain ⟨nn, enn⟩ : ∃ nn, nn = nv.length := ⟨_, rfl⟩
      have NN : Hid (nv.length = nn) := enn.symm
      rw [NN.out] at hnl ⊢
      clear enn
      obtain ⟨z, ez⟩ : ∃ z, z = w.heap.size + 1 := ⟨_, rfl⟩
      have Z : Hid (w.heap.size + 1 = z) := ez.symm
      rw [Z.out] at P3 ⊢
      clear ez
      go_wp2_with fail
      go_loopw [11] (fun i wr => ∃ j : Nat, j ≤ nn ∧ i = .int .i64 (j : Int) ∧ Hid (∀ h (hh : h < nv.length), h < j → ¬ nv[h] = lows x) ∧ Hid (Below w3.heap.size w3 wr)) (fun i _ => nn - (intOf i).toNat)
      case atStart => exact ⟨0, by omega, rfl, fun h hh hj => absurd hj (by omega), Below.refl _ _⟩
      case round =>
        obtain ⟨j, hj, rfl, HJ, HW⟩ := hrel
        have P4 := hide' (e2_below P3.out HW.out)
        by_cases hjt : j < nn
        · have Gj : Hid (j < nv.length) := by unfold Hid; rw [NN.out]; exact hjt
          obtain ⟨ha3, hb3, hcell⟩ := D3.out (by have := Gj.out; omega)
          subst ha3
          have x1 : wr.cell? ⟨b3, o3 + j, none⟩ = some (.string ⟨(nv[j]'Gj.out).toArray⟩) := by
            rw [HW.out.cell (p := ⟨b3, o3 + j, none⟩) hb3]; exact hcell j Gj.out
          obtain ⟨y0, y1⟩ := cells_duo P4.out.two
          have zl := P4.out.two.2
          have bl : b3 < wr.heap.size := Nat.lt_of_lt_of_le hb3 HW.out.size
          have hj0 : (0 : Int) ≤ (j : Int) := by omega
          have hj2 : (j : Int) < (nn : Int) := by omega
          clear hcell
          by_cases he : nv[j]'Gj.out = lows x
          · rw [he] at x1
            have X1 := hide' x1
            have Y0 := hide' y0
            have ZL := hide' zl
            have BL := hide' bl
            go_wp2_with fail
            go_region_held3 (fun w' => w'.cell? ⟨b3, o3 + j, none⟩ = some (.string ⟨(lows x).toArray⟩) ∧ w'.cell? ⟨z, 0, none⟩ = some (.string ⟨x.toArray⟩)) (go_keep)
              (first
                | (go_at_call 22; refine (cW.out _).mono ?_; rintro e w5 ⟨rfl, b5⟩; have B5 := hide' (((Below.refl _ wr).drew).trans b5); have x2 := (B5.out.cell (p := ⟨b3, o3 + j, none⟩) BL.out).trans X1.out; have y2 := (B5.out.cell (p := ⟨z, 0, none⟩) ZL.out).trans Y0.out; clear b5))
            go_wp2_with fail
            go_ret
            exact ⟨rfl, (e2_below P4.out B5.out).bel⟩
          · have HJ2 : Hid (∀ h (hh : h < nv.length), h < j + 1 → ¬ nv[h] = lows x) := by
              intro h hh hlt
              by_cases e : h = j
              · subst e; exact he
              · exact HJ.out h hh (by omega)
            have hne := ba_eqlC _ _ he
            have hne2 : (nv[j]'Gj.out == lows x) = false := by simpa using he
            clear he
            generalize nv[j]'Gj.out = nj at x1 hne hne2
            have X1 := hide' x1
            have Y0 := hide' y0
            have ZL := hide' zl
            have BL := hide' bl
            go_wp2_with fail
            go_region_held3 (fun w' => w'.cell? ⟨b3, o3 + j, none⟩ = some (.string ⟨nj.toArray⟩) ∧ w'.cell? ⟨z, 0, none⟩ = some (.string ⟨x.toArray⟩)) (go_keep)
              (first
                | (go_at_call 22; refine (cW.out _).mono ?_; rintro e w5 ⟨rfl, b5⟩; have B5 := hide' (((Below.refl _ wr).drew).trans b5); have x2 := (B5.out.cell (p := ⟨b3, o3 + j, none⟩) BL.out).trans X1.out; have y2 := (B5.out.cell (p := ⟨z, 0, none⟩) ZL.out).trans Y0.out; clear b5))
            go_wp2_with fail
            go_roundw
            case rel => exact ⟨j + 1, by omega, by go_num, HJ2, bt' HW.out B5.out⟩
            case measure => simp [intOf]; omega
        · have NI : Hid (lows x ∉ nv) := by
            intro hm
            obtain ⟨h, hh, e⟩ := List.getElem_of_mem hm
            exact HJ.out h hh (by have := NN.out; omega) e
          replace MM := hide' (MM.out NI.out)
          rw [MM.out] at cM
          clear HJ NI MM
          obtain ⟨w4, ew4⟩ : ∃ w4, w4 = wr := ⟨_, rfl⟩
          subst ew4
          obtain ⟨y0, y1⟩ := cells_duo P4.out.two
          go_wp2_with fail
          refine (copyF _ (fs.take c) _ (holdsF_mono HT.out P4.out.bel) (by have := LT.out; omega)).mono ?_
          rintro e w5 ⟨u5, rfl, ho5⟩
          have P5 := hide' (e2_below P4.out ho5.2)
          clear y0 y1
          obtain ⟨y0, y1⟩ := cells_duo P5.out.two
          go_wp2_with (first
            | (at_builtin; refine appF rfl (.tmp 49) (.tmp 51) rfl w4 _ (fs.take c) rfl ho5 (x, y) rfl rfl rfl rfl (by have := LT.out; omega) ?_; intro v6 w6 ho6; have O6 := hide' ho6; clear ho6)
            | (at_builtin; refine appAllF rfl (.tmp 53) (.tmp 56) rfl w4 _ _ rfl O6.out _ (fs.drop c) rfl (holdsF_mono HD.out (bt' P4.out.bel O6.out.2)) (by have := LT.out; have := LD.out; rw [List.length_append, List.length_cons, List.length_nil]; omega) ?_; intro v7 w7 ho7; have O7 := hide' ho7; clear ho7))
          have P7 := hide' (e2_fld (e2_below P4.out O7.out.2) (holdsF_own O7.out))
          obtain ⟨va, vc, _, _, hv7, _⟩ := holdsF_parts (holdsF_own O7.out)
          rw [hv7] at P7 ⊢
          clear hv7 O7 O6 ho5 P5 P4 y0 y1 HT HD hrT hrD
          generalize (fs.take c ++ [(x, y)] ++ fs.drop c) = fm at cM P7 ⊢
          generalize fm.length = fml at P7 ⊢
          have C9 := hide' (fun l lb W (h : E2 w z (EL K V R s k a g ao ba n m ca bc) [.string ⟨x.toArray⟩, .string ⟨y.toArray⟩] l lb W) => (show W.cell? ⟨w.heap.size, 0, none⟩ = some (.string K) ∧ W.cell? ⟨w.heap.size, 1, none⟩ = some (.string V) ∧ W.cell? ⟨w.heap.size, 2, none⟩ = some (.int .i64 s) ∧ W.cell? ⟨w.heap.size, 3, none⟩ = some (.string R) ∧ W.cell? ⟨w.heap.size, 4, none⟩ = some (.int .i64 k) ∧ W.cell? ⟨w.heap.size, 5, none⟩ = some (.slice ao n ca) ∧ W.cell? ⟨w.heap.size, 6, none⟩ = some (.slice ba m bc) ∧ W.cell? ⟨w.heap.size, 7, none⟩ = some (.int .i64 a) ∧ W.cell? ⟨w.heap.size, 8, none⟩ = some (.int .i64 g) from eL_cells h.one))
          have kC := hide' (fun l lb W (h : E2 w z (EL K V R s k a g ao ba n m ca bc) [.string ⟨x.toArray⟩, .string ⟨y.toArray⟩] l lb W) => (cC.out W h.bel).mono (show ∀ (e : Ending) (W' : World), (∃ lu bu, e = .returned (.agg #[.string K, .string V, .int .i64 s, .string R, .int .i64 k, lu, bu, .int .i64 a, .int .i64 g]) ∧ OwnF W lu es W' ∧ Own W bu body W') → ∃ a2 c2 b2 d2, e = .returned (.agg #[.string K, .string V, .int .i64 s, .string R, .int .i64 k, .slice a2 n c2, .slice b2 m d2, .int .i64 a, .int .i64 g]) ∧ E2 w z (EL K V R s k a g ao ba n m ca bc) [.string ⟨x.toArray⟩, .string ⟨y.toArray⟩] ((.slice a2 n c2, es) :: l) ((.slice b2 m d2, body) :: lb) W' ∧ W'.cell? ⟨w.heap.size, 0, none⟩ = some (.string K) ∧ W'.cell? ⟨w.heap.size, 1, none⟩ = some (.string V) ∧ W'.cell? ⟨w.heap.size, 2, none⟩ = some (.int .i64 s) ∧ W'.cell? ⟨w.heap.size, 3, none⟩ = some (.string R) ∧ W'.cell? ⟨w.heap.size, 4, none⟩ = some (.int .i64 k) ∧ W'.cell? ⟨w.heap.size, 5, none⟩ = some (.slice ao n ca) ∧ W'.cell? ⟨w.heap.size, 6, none⟩ = some (.slice ba m bc) ∧ W'.cell? ⟨w.heap.size, 7, none⟩ = some (.int .i64 a) ∧ W'.cell? ⟨w.heap.size, 8, none⟩ = some (.int .i64 g) from by
            rintro e W' ⟨lu, bu, rfl, hu, hbu⟩
            obtain ⟨a2, c2, _, _, e2, _⟩ := holdsF_parts (holdsF_own hu)
            obtain ⟨b2, d2, e3, _⟩ := holdsB_parts (holdsB_own hbu)
            rw [N.out] at e2
            rw [M.out] at e3
            have hx := holdsF_own hu
            have hy := holdsB_own hbu
            rw [e2] at hx ⊢
            rw [e3] at hy ⊢
            have h2 := e2_byt (e2_fld (e2_below h hu.2) hx) hy
            exact ⟨a2, c2, b2, d2, rfl, h2, C9.out _ _ _ h2⟩))
          have kF := hide' (fun l lb W (h : E2 w z (EL K V R s k a g ao ba n m ca bc) [.string ⟨x.toArray⟩, .string ⟨y.toArray⟩] l lb W) => (cF.out W h.bel).mono (show ∀ (e : Ending) (W' : World), (∃ u, e = .returned u ∧ OwnF W u fs W') → ∃ a3 c3, e = .returned (.slice a3 q c3) ∧ E2 w z (EL K V R s k a g ao ba n m ca bc) [.string ⟨x.toArray⟩, .string ⟨y.toArray⟩] ((.slice a3 q c3, fs) :: l) lb W' ∧ W'.cell? ⟨w.heap.size, 0, none⟩ = some (.string K) ∧ W'.cell? ⟨w.heap.size, 1, none⟩ = some (.string V) ∧ W'.cell? ⟨w.heap.size, 2, none⟩ = some (.int .i64 s) ∧ W'.cell? ⟨w.heap.size, 3, none⟩ = some (.string R) ∧ W'.cell? ⟨w.heap.size, 4, none⟩ = some (.int .i64 k) ∧ W'.cell? ⟨w.heap.size, 5, none⟩ = some (.slice ao n ca) ∧ W'.cell? ⟨w.heap.size, 6, none⟩ = some (.slice ba m bc) ∧ W'.cell? ⟨w.heap.size, 7, none⟩ = some (.int .i64 a) ∧ W'.cell? ⟨w.heap.size, 8, none⟩ = some (.int .i64 g) from by
            rintro e W' ⟨u, rfl, ho⟩
            obtain ⟨a3, c3, _, _, e3, _⟩ := holdsF_parts (holdsF_own ho)
            rw [Q.out] at e3
            have hh := holdsF_own ho
            rw [e3] at hh ⊢
            have h2 := e2_fld (e2_below h ho.2) hh
            exact ⟨a3, c3, rfl, h2, C9.out _ _ _ h2⟩))
          have kM := hide' (fun a2 c2 b2 d2 u l lb W (h : E2 w z (EL K V R s k a g ao ba n m ca bc) [.string ⟨x.toArray⟩, .string ⟨y.toArray⟩] l lb W) (h1 : (Value.slice a2 n c2, es) ∈ l) (h2 : (Value.slice b2 m d2, body) ∈ lb) (h3 : (u, fs) ∈ l ∨ (u, fm) ∈ l) => (show Calls Tryd.prog 19 #[.agg #[.string K, .string V, .int .i64 s, .string R, .int .i64 k, .slice a2 n c2, .slice b2 m d2, .int .i64 a, .int .i64 g], u] W (fun e W' => e = .returned (.bool mv) ∧ E2 w z (EL K V R s k a g ao ba n m ca bc) [.string ⟨x.toArray⟩, .string ⟨y.toArray⟩] l lb W' ∧ W'.cell? ⟨w.heap.size, 0, none⟩ = some (.string K) ∧ W'.cell? ⟨w.heap.size, 1, none⟩ = some (.string V) ∧ W'.cell? ⟨w.heap.size, 2, none⟩ = some (.int .i64 s) ∧ W'.cell? ⟨w.heap.size, 3, none⟩ = some (.string R) ∧ W'.cell? ⟨w.heap.size, 4, none⟩ = some (.int .i64 k) ∧ W'.cell? ⟨w.heap.size, 5, none⟩ = some (.slice ao n ca) ∧ W'.cell? ⟨w.heap.size, 6, none⟩ = some (.slice ba m bc) ∧ W'.cell? ⟨w.heap.size, 7, none⟩ = some (.int .i64 a) ∧ W'.cell? ⟨w.heap.size, 8, none⟩ = some (.int .i64 g)) from by
            have fin : ∀ (e : Ending) (W' : World), (e = .returned (.bool mv) ∧ Below W.heap.size W W') → e = .returned (.bool mv) ∧ E2 w z (EL K V R s k a g ao ba n m ca bc) [.string ⟨x.toArray⟩, .string ⟨y.toArray⟩] l lb W' ∧ W'.cell? ⟨w.heap.size, 0, none⟩ = some (.string K) ∧ W'.cell? ⟨w.heap.size, 1, none⟩ = some (.string V) ∧ W'.cell? ⟨w.heap.size, 2, none⟩ = some (.int .i64 s) ∧ W'.cell? ⟨w.heap.size, 3, none⟩ = some (.string R) ∧ W'.cell? ⟨w.heap.size, 4, none⟩ = some (.int .i64 k) ∧ W'.cell? ⟨w.heap.size, 5, none⟩ = some (.slice ao n ca) ∧ W'.cell? ⟨w.heap.size, 6, none⟩ = some (.slice ba m bc) ∧ W'.cell? ⟨w.heap.size, 7, none⟩ = some (.int .i64 a) ∧ W'.cell? ⟨w.heap.size, 8, none⟩ = some (.int .i64 g) := by
              rintro e W' ⟨rfl, hb⟩
              exact ⟨rfl, e2_below h hb, C9.out _ _ _ (e2_below h hb)⟩
            rcases h3 with h3 | h3
            · exact (cT.out _ _ _ W (h.fld _ h1) (h.byt _ h2) (h.fld _ h3)).mono fin
            · exact (cM.out _ _ _ W (h.fld _ h1) (h.byt _ h2) (h.fld _ h3)).mono fin))
          have O := P7
          obtain ⟨ce0, ce1, ce2, ce3, ce4, ce5, ce6, ce7, ce8⟩ := C9.out _ _ _ P7.out
          clear P7 C9 cF cM cT cC P3
          have BW := hide' (fun l lb W (h : E2 w z (EL K V R s k a g ao ba n m ca bc) [.string ⟨x.toArray⟩, .string ⟨y.toArray⟩] l lb W) => h.bel)
          obtain ⟨z1, ez1⟩ : ∃ z1, z1 = w.heap.size := ⟨_, rfl⟩
          have Z1 : Hid (w.heap.size = z1) := ez1.symm
          rw [Z1.out] at ce0 ce1 ce2 ce3 ce4 ce5 ce6 ce7 ce8 kF kM kC ⊢
          clear ez1
          go_wp2_with fail
          go_region_held3 (fun w' => w'.cell? ⟨z1, 0, none⟩ = some (.string K) ∧ w'.cell? ⟨z1, 1, none⟩ = some (.string V) ∧ w'.cell? ⟨z1, 2, none⟩ = some (.int .i64 s) ∧ w'.cell? ⟨z1, 3, none⟩ = some (.string R) ∧ w'.cell? ⟨z1, 4, none⟩ = some (.int .i64 k) ∧ w'.cell? ⟨z1, 5, none⟩ = some (.slice ao n ca) ∧ w'.cell? ⟨z1, 6, none⟩ = some (.slice ba m bc) ∧ w'.cell? ⟨z1, 7, none⟩ = some (.int .i64 a) ∧ w'.cell? ⟨z1, 8, none⟩ = some (.int .i64 g)) (go_keep)
            (first
              | (go_at_call 18; refine (kC.out _ _ _ (by first | exact O.out | exact e2_drew O.out)).mono ?_; rintro e w8 ⟨a2, c2, b2, d2, rfl, o8, ce0, ce1, ce2, ce3, ce4, ce5, ce6, ce7, ce8⟩; replace O := hide' o8; clear o8)
              | (go_at_call 10; refine (kF.out _ _ _ (by first | exact O.out | exact e2_drew O.out)).mono ?_; rintro e w8 ⟨a3, c3, rfl, o8, ce0, ce1, ce2, ce3, ce4, ce5, ce6, ce7, ce8⟩; replace O := hide' o8; clear o8)
              | (go_at_call 19; refine (kM.out _ _ _ _ _ _ _ _ (by first | exact O.out | exact e2_drew O.out) (by simp) (by simp) (by simp)).mono ?_; rintro e w8 ⟨rfl, o8, ce0, ce1, ce2, ce3, ce4, ce5, ce6, ce7, ce8⟩; replace O := hide' o8; clear o8))
          go_wp2_with fail
          go_ret
          exact ⟨rfl, BW.out _ _ _ O.out⟩
end Go.Proofs.YtmibgcbolnpffaaDoor
