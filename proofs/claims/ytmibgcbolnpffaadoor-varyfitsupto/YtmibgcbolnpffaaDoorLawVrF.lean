/- The walk of VaryFits. -/
import Derived.Test.YtmibgcbolnpffaaDoorVrE
namespace Go.Proofs.YtmibgcbolnpffaaDoor
open Go.RowKit
theorem match_own (es fs : FL) : matchV es (keyV (namesV es) fs) fs = namesB es := by unfold matchV; simp
set_option maxHeartbeats 8000000 in
set_option maxRecDepth 20000 in
theorem fitsW (e : En) (lv bv av : Value) (fs : FL) (w : World) (hF : HoldsF w lv e.r.fs) (hB : HoldsB w bv e.body) (ha : HoldsF w av fs) (hb : e.key.length + e.vary.length + e.r.r.length + bulkF e.r.fs + e.body.length + bulkF fs ≤ 1048576) :
    Calls Tryd.prog 6 #[entV e lv bv, av] w fun x w' => x = .returned (.bool true) ∧ Below w.heap.size w w' := by
  obtain ⟨key, vary, ⟨s, r, k, es⟩, body, a, g⟩ := e
  dsimp only at hb hF hB
  have hn : es.length ≤ 2000000 := by have := bulkF_len es; omega
  have hq : fs.length ≤ 2000000 := by have := bulkF_len fs; omega
  have BN := bulk_names es
  have c0 := hide' (fun W => aliveV W)
  have cL := hide' (fun W (h : Below w.heap.size w W) => copyF lv es W (holdsF_mono hF h) (by omega))
  have cF := hide' (fun W (h : Below w.heap.size w W) => copyF av fs W (holdsF_mono ha h) (by omega))
  have cN := hide' (fun u W (h : HoldsF W u es) => namesC u es W h (by omega))
  have cK := hide' (fun nv u W (h1 : Holds W nv (namesV es)) (h : HoldsF W u fs) => keyC nv u (namesV es) fs W h1 h (by omega) (by omega))
  have cC := hide' (fun W (h : Below w.heap.size w W) => copyEC ⟨key, keyV (namesV es) fs, ⟨s, r, k, es⟩, body, a, g⟩ lv bv W (holdsF_mono hF h) (holdsB_mono hB h) hn (by dsimp only; omega))
  have cM := fun l2 b2 u W (h1 : HoldsF W l2 es) (h2 : HoldsB W b2 body) (h3 : HoldsF W u fs) => matchC ⟨key, keyV (namesV es) fs, ⟨s, r, k, es⟩, body, a, g⟩ l2 b2 u fs W h1 h2 h3 (by dsimp only; omega) (by omega)
  dsimp only at cM
  rw [match_own] at cM
  replace cM := hide' cM
  obtain ⟨ao, ca, _, _, el, _⟩ := holdsF_parts hF
  obtain ⟨ba, bc, eb, _⟩ := holdsB_parts hB
  obtain ⟨aa, ac, _, _, ea, _⟩ := holdsF_parts ha
  subst el eb ea
  clear hF hB ha
  unfold entV at cC cM ⊢
  dsimp only at cC cM ⊢
  generalize namesB es = nb at cN cM
  generalize (⟨(keyV (namesV es) fs).toArray⟩ : ByteArray) = KV at cC cM cK
  generalize namesV es = nv at cN cK
  generalize (⟨key.toArray⟩ : ByteArray) = K at cC cM ⊢
  generalize (⟨vary.toArray⟩ : ByteArray) = V
  generalize (⟨r.toArray⟩ : ByteArray) = R at cC cM ⊢
  obtain ⟨n, en⟩ : ∃ n, n = es.length := ⟨_, rfl⟩
  have N : Hid (es.length = n) := en.symm
  obtain ⟨m, em⟩ : ∃ m, m = body.length := ⟨_, rfl⟩
  have M : Hid (body.length = m) := em.symm
  obtain ⟨q, eq⟩ : ∃ q, q = fs.length := ⟨_, rfl⟩
  have Q : Hid (fs.length = q) := eq.symm
  rw [N.out, M.out] at cC
  rw [N.out] at cL
  rw [Q.out] at cF
  rw [N.out, M.out, Q.out]
  clear en em eq hb hn hq BN
  have P0 := hide' (cells_lit w #[.string K, .string V, .int .i64 s, .string R, .int .i64 k, .slice ao n ca, .slice ba m bc, .int .i64 a, .int .i64 g] 38)
  have B0 := hide' (below_alloc' w (.cells #[.string K, .string V, .int .i64 s, .string R, .int .i64 k, .slice ao n ca, .slice ba m bc, .int .i64 a, .int .i64 g] 38))
  go_enter Tryd.func6, Tryd.ntmps6
  go_wp2_with fail
  refine (c0.out _).mono ?_
  rintro e w1 ⟨rfl, b1⟩
  have B1 := hide' (bt' B0.out b1)
  have P1 := hide' (show Blk w.heap.size w1 (EL K V R s k a g ao ba n m ca bc) from cells_below P0.out b1)
  obtain ⟨-, -, -, -, -, d5, -, -, -⟩ := eL_cells P1.out
  clear b1 P0 B0 c0
  go_wp2_with fail
  refine (cL.out w1 B1.out).mono ?_
  rintro e w2 ⟨u2, rfl, hu2⟩
  have B2 := hide' (bt' B1.out hu2.2)
  have P2 := hide' (cells_below P1.out hu2.2)
  have H2 := hide' (holdsF_own hu2)
  obtain ⟨a2, c2, _, _, e2, _⟩ := holdsF_parts (holdsF_own hu2)
  rw [e2] at H2 ⊢
  clear hu2 e2 P1 B1 d5 cL
  go_wp2_with fail
  refine (cN.out _ w2 H2.out).mono ?_
  rintro e w3 ⟨u3, rfl, hu3⟩
  have B3 := hide' (bt' B2.out hu3.2)
  have P3 := hide' (cells_below P2.out hu3.2)
  have T3 := hide' (holds_own hu3)
  obtain ⟨a3, c3, _, _, e3, _⟩ := holds_parts (holds_own hu3)
  rw [e3] at T3 ⊢
  clear hu3 e3 P2 B2 H2 cN
  go_wp2_with fail
  refine (cF.out w3 B3.out).mono ?_
  rintro e w4 ⟨u4, rfl, hu4⟩
  have B4 := hide' (bt' B3.out hu4.2)
  have P4 := hide' (cells_below P3.out hu4.2)
  have T4 := hide' (holds_mono T3.out hu4.2)
  have H4 := hide' (holdsF_own hu4)
  obtain ⟨a4, c4, _, _, e4, _⟩ := holdsF_parts (holdsF_own hu4)
  rw [e4] at H4 ⊢
  clear hu4 e4 P3 B3 T3
  go_wp2_with fail
  refine (cK.out _ _ w4 T4.out H4.out).mono ?_
  rintro e w5 ⟨rfl, b5⟩
  have B5 := hide' ((bt' B4.out b5).setCell (p := ⟨w.heap.size, 1, none⟩) (Nat.le_refl _) (.string KV))
  have P5 := hide' (cells_below P4.out b5)
  have P6 := hide' (show Blk w.heap.size (w5.setCell ⟨w.heap.size, 1, none⟩ (.string KV)) (EL K KV R s k a g ao ba n m ca bc) from cells_set P5.out (by simp [EL]) (.string KV))
  obtain ⟨d0, d1, d2, d3, d4, d5, d6, d7, d8⟩ := eL_cells P5.out
  have F1 := (P5.out.1 1 (by simp [EL])).2
  clear b5 P4 B4 T4 H4 cK
  go_upto_region 5 with fail
  obtain ⟨f0, f1, f2, f3, f4, f5, f6, f7, f8⟩ := eL_cells P6.out
  generalize w5.setCell ⟨w.heap.size, 1, none⟩ (.string KV) = w6 at B5 P6 f0 f1 f2 f3 f4 f5 f6 f7 f8 ⊢
  clear d0 d1 d2 d3 d4 d5 d6 d7 d8 F1 P5
  go_wp2_with fail
  refine (cC.out w6 B5.out).mono ?_
  rintro e w7 ⟨lu, bu, rfl, hu, hbu⟩
  obtain ⟨ao2, ca2, _, _, el2, _⟩ := holdsF_parts (holdsF_own hu)
  obtain ⟨ba2, bc2, eb2, _⟩ := holdsB_parts (holdsB_own hbu)
  rw [N.out] at el2
  rw [M.out] at eb2
  have hx := hide' (holdsF_own hu)
  have hy := hide' (holdsB_own hbu)
  rw [el2] at hx ⊢
  rw [eb2] at hy ⊢
  have B7 := hide' (bt' B5.out hu.2)
  clear hu hbu el2 eb2 f0 f1 f2 f3 f4 f5 f6 f7 f8 P6 B5 cC lu bu
  go_wp2_with fail
  refine (cF.out w7 B7.out).mono ?_
  rintro e w8 ⟨u8, rfl, hu8⟩
  have B8 := hide' (bt' B7.out hu8.2)
  have X8 := hide' (holdsF_mono hx.out hu8.2)
  have Y8 := hide' (holdsB_mono hy.out hu8.2)
  have H8 := hide' (holdsF_own hu8)
  obtain ⟨a8, c8, _, _, e8, _⟩ := holdsF_parts (holdsF_own hu8)
  rw [e8] at H8 ⊢
  clear hu8 e8 B7 hx hy
  go_wp2_with fail
  refine (cM.out _ _ _ w8 X8.out Y8.out H8.out).mono ?_
  rintro e w9 ⟨rfl, b9⟩
  have B9 := hide' (bt' B8.out b9)
  clear b9 cM X8 Y8 H8
  go_wp2_with fail
  go_ret
  exact ⟨rfl, B9.out⟩
end Go.Proofs.YtmibgcbolnpffaaDoor
