/- Copies of requests and responses; two that are alike are told as such. -/
import Derived.Test.YtikokjclhpgocaaDoorBm
namespace Go.Proofs.YtikokjclhpgocaaDoor
open Go.RowKit
theorem sameFe (va vb : Value) (xs : FL) (w : World) (ha : HoldsF w va xs) (hb : HoldsF w vb xs) (la : xs.length ≤ 1000000000000000) :
    Calls Tryd.prog 8 #[va, vb] w fun e w' => e = .returned (.bool true) ∧ Below w.heap.size w w' := by
  refine (sameF va vb xs xs w ha hb la la).mono ?_
  rintro e w' ⟨rfl, n, rfl⟩
  exact ⟨by simp, below_drewN _ _⟩
set_option maxRecDepth 20000 in
set_option maxHeartbeats 2000000 in
theorem sameRs (s k : Int) (r : List UInt8) (fs : FL) (la lb : Value) (w : World) (ha : HoldsF w la fs) (hb : HoldsF w lb fs) (hl : fs.length ≤ 2000000) :
    Calls Tryd.prog 11 #[.agg #[.int .i64 s, .string ⟨r.toArray⟩, .int .i64 k, la], .agg #[.int .i64 s, .string ⟨r.toArray⟩, .int .i64 k, lb]] w fun e w' => e = .returned (.bool true) ∧ Below w.heap.size w w' := by
  obtain ⟨a1, c1, b1, o1, e1, _⟩ := holdsF_parts ha
  obtain ⟨a2, c2, b2, o2, e2, _⟩ := holdsF_parts hb
  subst e1 e2
  have b0 := below_alloc' w (.cells #[.int .i64 s, .string ⟨r.toArray⟩, .int .i64 k, .slice a1 fs.length c1] 24)
  have b1' := below_alloc' (w.alloc (.cells #[.int .i64 s, .string ⟨r.toArray⟩, .int .i64 k, .slice a1 fs.length c1] 24)) (.cells #[.int .i64 s, .string ⟨r.toArray⟩, .int .i64 k, .slice a2 fs.length c2] 24)
  have bb := bt' b0 b1'
  have cS := hide' (sameFe _ _ fs _ (holdsF_mono ha bb) (holdsF_mono hb bb) (by omega))
  have BB := hide' bb
  clear ha hb b0 b1' bb
  generalize fs.length = n at cS BB ⊢
  go_enter Tryd.func11, Tryd.ntmps11
  go_wp2_with fail
  refine cS.out.mono ?_
  rintro e w' ⟨rfl, b⟩
  have B' := hide' (bt' BB.out b)
  clear b
  go_wp2_with fail
  go_ret
  exact ⟨rfl, B'.out⟩
set_option maxRecDepth 20000 in
set_option maxHeartbeats 4000000 in
theorem copyRs (s k : Int) (r : List UInt8) (fs : FL) (lv : Value) (w : World) (hv : HoldsF w lv fs) (hl : fs.length ≤ 2000000) :
    Calls Tryd.prog 7 #[.agg #[.int .i64 s, .string ⟨r.toArray⟩, .int .i64 k, lv]] w fun e w' => ∃ u, e = .returned (.agg #[.int .i64 s, .string ⟨r.toArray⟩, .int .i64 k, u]) ∧ OwnF w u fs w' := by
  obtain ⟨la, lc, lb, lo, hlv, _⟩ := holdsF_parts hv
  subst hlv
  have b1 := below_alloc' w (.cells #[.int .i64 s, .string ⟨r.toArray⟩, .int .i64 k, .slice la fs.length lc] 24)
  have b2 := below_alloc' (w.alloc (.cells #[.int .i64 s, .string ⟨r.toArray⟩, .int .i64 k, .slice la fs.length lc] 24)) (.cells #[.int .i64 0, .string ⟨#[]⟩, .int .i64 0, .slice none 0 0] 24)
  have Q1 := quad_below (quad_lit w (.int .i64 s) (.string ⟨r.toArray⟩) (.int .i64 k) (.slice la fs.length lc) 24) b2
  have Q2 := quad_lit (w.alloc (.cells #[.int .i64 s, .string ⟨r.toArray⟩, .int .i64 k, .slice la fs.length lc] 24)) (.int .i64 0) (.string ⟨#[]⟩) (.int .i64 0) (.slice none 0 0) 24
  have z1 : (w.alloc (.cells #[.int .i64 s, .string ⟨r.toArray⟩, .int .i64 k, .slice la fs.length lc] 24)).heap.size = w.heap.size + 1 := by simp
  rw [z1] at Q2
  have hv2 := holdsF_mono hv (bt' b1 b2)
  have B2 := hide' (bt' b1 b2)
  obtain ⟨W2, hW2⟩ : ∃ W2, W2 = (w.alloc (.cells #[.int .i64 s, .string ⟨r.toArray⟩, .int .i64 k, .slice la fs.length lc] 24)).alloc (.cells #[.int .i64 0, .string ⟨#[]⟩, .int .i64 0, .slice none 0 0] 24) := ⟨_, rfl⟩
  have HW2 := hide' hW2
  have zs : Hid (W2.heap.size = w.heap.size + 2) := by unfold Hid; rw [hW2]; simp
  rw [← hW2] at Q1 Q2 hv2 B2
  have HQ1 := hide' Q1
  have HQ2 := hide' Q2
  have cC := hide' (copyF _ fs _ hv2 (by omega))
  obtain ⟨i0, i1, i2, i3, _⟩ := Q1
  clear hv b1 b2 Q2 hv2 hW2 z1
  go_enter Tryd.func7, Tryd.ntmps7
  go_wp2_with fail
  rw [← HW2.out]
  refine cC.out.mono ?_
  rintro e w3 ⟨u, rfl, ho⟩
  obtain ⟨ua, uc, ub, uo, hu, _⟩ := holdsF_parts (holdsF_own ho)
  subst hu
  have P3 := hide' (quad_below HQ1.out ho.2)
  have Q3 := hide' (quad_below HQ2.out ho.2)
  have B3 := hide' (bt' B2.out ho.2)
  have R3 := hide' ho.1
  clear ho i0 i1 i2 i3 cC HQ1 HQ2
  have P4 := hide' (quad_set3 P3.out (.slice ua fs.length uc))
  have Q4 := hide' (quad_other (o := 3) Q3.out (show w.heap.size + 1 ≠ w.heap.size by omega) (.slice ua fs.length uc))
  have B4 := hide' (B3.out.setCell (p := ⟨w.heap.size, 3, none⟩) (Nat.le_refl _) (.slice ua fs.length uc))
  have R4 := hide' (row_poke (o := 3) (x := .slice ua fs.length uc) R3.out (b := w.heap.size) (by rw [zs.out]; omega))
  obtain ⟨h0, h1, h2, h3, e0, e1, e2, e3, hz⟩ := P3.out
  obtain ⟨k0, k1, k2, k3, d0, d1, d2, d3, dz⟩ := P4.out
  obtain ⟨j0, j1, j2, j3, f0, f1, f2, f3, fz⟩ := Q4.out
  go_wp2_with fail
  obtain ⟨q0, q1, q2, q3⟩ := quad_store Q4.out (.int .i64 s) (.string ⟨r.toArray⟩) (.int .i64 k) (.slice ua fs.length uc)
  have qb := put4_below B4.out (Nat.le_succ _) (.int .i64 s) (.string ⟨r.toArray⟩) (.int .i64 k) (.slice ua fs.length uc)
  have qr := row_base (row_put (v0 := .int .i64 s) (v1 := .string ⟨r.toArray⟩) (v2 := .int .i64 k) (v3 := .slice ua fs.length uc) R4.out (b := w.heap.size + 1) (by rw [zs.out]; omega)) B2.out.size
  unfold put4 at q0 q1 q2 q3 qb qr
  exact bodyPost_ret (v := .agg #[.int .i64 s, .string ⟨r.toArray⟩, .int .i64 k, .slice ua fs.length uc]) (by simp [results, Tryd.results7, go_sem, q0, q1, q2, q3]) rfl ⟨.slice ua fs.length uc, rfl, qr, qb⟩
end Go.Proofs.YtikokjclhpgocaaDoor
