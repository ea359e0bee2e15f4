/- The walk of ValidAsks. -/
import Derived.Test.YtikokjclhpgocaaDoorVaO
import Derived.Test.YtikokjclhpgocaaDoorVaRa
import Derived.Test.YtikokjclhpgocaaDoorVaD
import Derived.Test.YtikokjclhpgocaaDoorVaV
import Derived.Test.YtikokjclhpgocaaDoorRq
import Derived.Deep.RegionHeld3
import Derived.Deep.Cut
namespace Go.Proofs.YtikokjclhpgocaaDoor
open Go.RowKit
theorem ask_len (D : List UInt8 → Int) (fs : FL) : (askOf D fs).length ≤ 2 := by
  unfold askOf askT askD
  rw [List.length_append]
  split <;> split <;> simp
theorem dtJ (fs : FL) (n : List UInt8) (h : bulkF fs ≤ 9000000) : DtB (getJ fs n) (dtF (getJ fs n)) := dtF_spec _ (by have := getJ_len fs n; omega)
set_option maxHeartbeats 8000000 in
set_option maxRecDepth 20000 in
theorem asksW (s k : Int) (zr : List UInt8) (lv : Value) (fs : FL) (w : World) (hv : HoldsF w lv fs) (hb : bulkF fs ≤ 1048576) (E : EvD w) :
    Calls Tryd.prog 3 #[.agg #[.int .i64 s, .string ⟨zr.toArray⟩, .int .i64 k, lv]] w fun e w' => e = .returned (.bool true) ∧ Below w.heap.size w w' := by
  have hl := bulkF_len fs
  have al := ask_len dtF fs
  have DD := hide' (dtJ fs lmN (by omega))
  have kA := hide' (fun u W (h : Below w.heap.size w W) (hu : HoldsF W u fs) => askC s k zr u fs dtF W hu hb (evD_below E h) DD.out.1)
  have kR := hide' (fun u W (hu : HoldsF W u fs) => askRC s k zr u fs dtF W hu hb DD.out)
  have kC := hide' (fun u W (hu : HoldsF W u fs) => copyRs s k zr fs u W hu (by omega))
  have kS := hide' (fun u x W (hu : HoldsF W u fs) (hx : HoldsF W x fs) => sameRs s k zr fs u x W hu hx (by omega))
  have kF := hide' (fun u x W (hu : HoldsF W u (askOf dtF fs)) (hx : HoldsF W x (askOf dtF fs)) => sameFv u x _ W hu hx (by omega))
  have HV := hide' hv
  obtain ⟨la, lc, _, _, el, -⟩ := holdsF_parts hv
  subst el
  clear hv E DD
  generalize askOf dtF fs = ak at kA kR kF al
  obtain ⟨na, ena⟩ : ∃ na, na = ak.length := ⟨_, rfl⟩
  have NA : Hid (ak.length = na) := ena.symm
  obtain ⟨n, en⟩ : ∃ n, n = fs.length := ⟨_, rfl⟩
  have N : Hid (fs.length = n) := en.symm
  rw [N.out] at HV ⊢
  clear en ena al
  have b0 := below_alloc' w (.cells #[.int .i64 s, .string ⟨zr.toArray⟩, .int .i64 k, .slice la n lc] 24)
  have B0 := hide' b0
  have P0 := hide' (show Blk w.heap.size (w.alloc (.cells #[.int .i64 s, .string ⟨zr.toArray⟩, .int .i64 k, .slice la n lc] 24)) [.int .i64 s, .string ⟨zr.toArray⟩, .int .i64 k, .slice la n lc] from cells_lit w _ _)
  have c0 := hide' (aliveVa (w.alloc (.cells #[.int .i64 s, .string ⟨zr.toArray⟩, .int .i64 k, .slice la n lc] 24)))
  clear b0
  go_enter Tryd.func3, Tryd.ntmps3
  go_wp2_with fail
  refine c0.out.mono ?_
  rintro e w1 ⟨rfl, b1⟩
  have B1 := hide' (bt' B0.out b1)
  have P1 := hide' (cells_below P0.out b1)
  clear b1 c0 B0 P0
  obtain ⟨i0, i1, i2, i3, iz⟩ := blk4 P1.out
  go_wp2_with fail
  refine (kC.out _ _ (holdsF_mono HV.out B1.out)).mono ?_
  rintro e w2 ⟨u2, rfl, ho⟩
  obtain ⟨oa, oc, _, _, eo, -⟩ := holdsF_parts (holdsF_own ho)
  have hx := holdsF_own ho
  rw [N.out] at eo
  rw [eo] at hx ⊢
  have B2 := hide' (bt' B1.out ho.2)
  have P2 := hide' (cells_below P1.out ho.2)
  have X2 := hide' hx
  clear ho hx eo i0 i1 i2 i3 iz B1 P1 kC
  obtain ⟨W, hW⟩ : ∃ W, W = w2.alloc (.cells #[.int .i64 s, .string ⟨zr.toArray⟩, .int .i64 k, .slice oa n oc] 24) := ⟨_, rfl⟩
  obtain ⟨q, hq⟩ : ∃ q, q = w.heap.size := ⟨_, rfl⟩
  obtain ⟨z, hz⟩ : ∃ z, z = w2.heap.size := ⟨_, rfl⟩
  have O := hide' (show VaO w W q z [.int .i64 s, .string ⟨zr.toArray⟩, .int .i64 k, .slice la n lc] [.int .i64 s, .string ⟨zr.toArray⟩, .int .i64 k, .slice oa n oc] [(.slice oa n oc, fs), (.slice la n lc, fs)] from by
    rw [hW, hz, hq]
    have b3 := below_alloc' w2 (.cells #[.int .i64 s, .string ⟨zr.toArray⟩, .int .i64 k, .slice oa n oc] 24)
    refine ⟨bt' B2.out b3, cells_below P2.out b3, cells_lit w2 _ _, ?_⟩
    intro p hp
    rcases List.mem_cons.1 hp with rfl | hp
    · exact holdsF_mono X2.out b3
    · obtain rfl := List.mem_singleton.1 hp
      exact holdsF_mono HV.out (bt' B2.out b3))
  have q1 : Hid (∀ l W, VaO w W q z [.int .i64 s, .string ⟨zr.toArray⟩, .int .i64 k, .slice la n lc] [.int .i64 s, .string ⟨zr.toArray⟩, .int .i64 k, .slice oa n oc] l → ((.slice oa n oc : Value), fs) ∈ l → Calls Tryd.prog 9 #[.agg #[.int .i64 s, .string ⟨zr.toArray⟩, .int .i64 k, .slice oa n oc]] W fun e w' => ∃ a c, e = .returned (.slice a na c) ∧ Hid (VaO w w' q z [.int .i64 s, .string ⟨zr.toArray⟩, .int .i64 k, .slice la n lc] [.int .i64 s, .string ⟨zr.toArray⟩, .int .i64 k, .slice oa n oc] ((.slice a na c, ak) :: l)) ∧ w'.cell? ⟨q, 0, none⟩ = some (.int .i64 s) ∧ w'.cell? ⟨q, 1, none⟩ = some (.string ⟨zr.toArray⟩) ∧ w'.cell? ⟨q, 2, none⟩ = some (.int .i64 k) ∧ w'.cell? ⟨q, 3, none⟩ = some (.slice la n lc) ∧ w'.cell? ⟨z, 0, none⟩ = some (.int .i64 s) ∧ w'.cell? ⟨z, 1, none⟩ = some (.string ⟨zr.toArray⟩) ∧ w'.cell? ⟨z, 2, none⟩ = some (.int .i64 k) ∧ w'.cell? ⟨z, 3, none⟩ = some (.slice oa n oc)) := fun l W h m => (kA.out _ W h.1 (h.2.2.2 _ m)).mono (fun e w' ⟨u, h1, h2⟩ => by
    obtain ⟨a2, x2, _, _, e2, -⟩ := holdsF_parts (holdsF_own h2)
    have hh := holdsF_own h2
    rw [NA.out] at e2
    rw [e2] at h1 hh
    have o := vaO_put (vaO_below h h2.2) hh
    exact ⟨a2, x2, h1, o, vaO_cells o⟩)
  have q2 : Hid (∀ l W, VaO w W q z [.int .i64 s, .string ⟨zr.toArray⟩, .int .i64 k, .slice la n lc] [.int .i64 s, .string ⟨zr.toArray⟩, .int .i64 k, .slice oa n oc] l → ((.slice la n lc : Value), fs) ∈ l → Calls Tryd.prog 10 #[.agg #[.int .i64 s, .string ⟨zr.toArray⟩, .int .i64 k, .slice la n lc]] W fun e w' => ∃ a c, e = .returned (.slice a na c) ∧ Hid (VaO w w' q z [.int .i64 s, .string ⟨zr.toArray⟩, .int .i64 k, .slice la n lc] [.int .i64 s, .string ⟨zr.toArray⟩, .int .i64 k, .slice oa n oc] ((.slice a na c, ak) :: l)) ∧ w'.cell? ⟨q, 0, none⟩ = some (.int .i64 s) ∧ w'.cell? ⟨q, 1, none⟩ = some (.string ⟨zr.toArray⟩) ∧ w'.cell? ⟨q, 2, none⟩ = some (.int .i64 k) ∧ w'.cell? ⟨q, 3, none⟩ = some (.slice la n lc) ∧ w'.cell? ⟨z, 0, none⟩ = some (.int .i64 s) ∧ w'.cell? ⟨z, 1, none⟩ = some (.string ⟨zr.toArray⟩) ∧ w'.cell? ⟨z, 2, none⟩ = some (.int .i64 k) ∧ w'.cell? ⟨z, 3, none⟩ = some (.slice oa n oc)) := fun l W h m => (kR.out _ W (h.2.2.2 _ m)).mono (fun e w' ⟨u, h1, h2⟩ => by
    obtain ⟨a2, x2, _, _, e2, -⟩ := holdsF_parts (holdsF_own h2)
    have hh := holdsF_own h2
    rw [NA.out] at e2
    rw [e2] at h1 hh
    have o := vaO_put (vaO_below h h2.2) hh
    exact ⟨a2, x2, h1, o, vaO_cells o⟩)
  have q3 : Hid (∀ a c a2 c2 l W, VaO w W q z [.int .i64 s, .string ⟨zr.toArray⟩, .int .i64 k, .slice la n lc] [.int .i64 s, .string ⟨zr.toArray⟩, .int .i64 k, .slice oa n oc] l → ((.slice a na c : Value), ak) ∈ l → ((.slice a2 na c2 : Value), ak) ∈ l → Calls Tryd.prog 8 #[.slice a na c, .slice a2 na c2] W fun e w' => e = .returned (.bool true) ∧ Hid (VaO w w' q z [.int .i64 s, .string ⟨zr.toArray⟩, .int .i64 k, .slice la n lc] [.int .i64 s, .string ⟨zr.toArray⟩, .int .i64 k, .slice oa n oc] l) ∧ w'.cell? ⟨q, 0, none⟩ = some (.int .i64 s) ∧ w'.cell? ⟨q, 1, none⟩ = some (.string ⟨zr.toArray⟩) ∧ w'.cell? ⟨q, 2, none⟩ = some (.int .i64 k) ∧ w'.cell? ⟨q, 3, none⟩ = some (.slice la n lc) ∧ w'.cell? ⟨z, 0, none⟩ = some (.int .i64 s) ∧ w'.cell? ⟨z, 1, none⟩ = some (.string ⟨zr.toArray⟩) ∧ w'.cell? ⟨z, 2, none⟩ = some (.int .i64 k) ∧ w'.cell? ⟨z, 3, none⟩ = some (.slice oa n oc)) := fun a c a2 c2 l W h m1 m2 => (kF.out _ _ W (h.2.2.2 _ m1) (h.2.2.2 _ m2)).mono (fun e w' ⟨h1, h2⟩ => ⟨h1, vaO_below h h2, vaO_cells (vaO_below h h2)⟩)
  have q4 : Hid (∀ l W, VaO w W q z [.int .i64 s, .string ⟨zr.toArray⟩, .int .i64 k, .slice la n lc] [.int .i64 s, .string ⟨zr.toArray⟩, .int .i64 k, .slice oa n oc] l → ((.slice oa n oc : Value), fs) ∈ l → ((.slice la n lc : Value), fs) ∈ l → Calls Tryd.prog 11 #[.agg #[.int .i64 s, .string ⟨zr.toArray⟩, .int .i64 k, .slice oa n oc], .agg #[.int .i64 s, .string ⟨zr.toArray⟩, .int .i64 k, .slice la n lc]] W fun e w' => e = .returned (.bool true) ∧ Hid (VaO w w' q z [.int .i64 s, .string ⟨zr.toArray⟩, .int .i64 k, .slice la n lc] [.int .i64 s, .string ⟨zr.toArray⟩, .int .i64 k, .slice oa n oc] l) ∧ w'.cell? ⟨q, 0, none⟩ = some (.int .i64 s) ∧ w'.cell? ⟨q, 1, none⟩ = some (.string ⟨zr.toArray⟩) ∧ w'.cell? ⟨q, 2, none⟩ = some (.int .i64 k) ∧ w'.cell? ⟨q, 3, none⟩ = some (.slice la n lc) ∧ w'.cell? ⟨z, 0, none⟩ = some (.int .i64 s) ∧ w'.cell? ⟨z, 1, none⟩ = some (.string ⟨zr.toArray⟩) ∧ w'.cell? ⟨z, 2, none⟩ = some (.int .i64 k) ∧ w'.cell? ⟨z, 3, none⟩ = some (.slice oa n oc)) := fun l W h m1 m2 => (kS.out _ _ W (h.2.2.2 _ m1) (h.2.2.2 _ m2)).mono (fun e w' ⟨h1, h2⟩ => ⟨h1, vaO_below h h2, vaO_cells (vaO_below h h2)⟩)
  clear kA kR kF kS X2 P2 B2 HV
  have hqW : q < W.heap.size := (O.out.2.1).2
  have hzW : z < W.heap.size := (O.out.2.2.1).2
  obtain ⟨ce0, ce1, ce2, ce3, ce4, ce5, ce6, ce7⟩ := vaO_cells O.out
  go_upto_region 4 with fail
  rw [← hW, ← hz, ← hq]
  clear hq hW hz
  go_region_held3 (fun w' => w'.cell? ⟨q, 0, none⟩ = some (.int .i64 s) ∧ w'.cell? ⟨q, 1, none⟩ = some (.string ⟨zr.toArray⟩) ∧ w'.cell? ⟨q, 2, none⟩ = some (.int .i64 k) ∧ w'.cell? ⟨q, 3, none⟩ = some (.slice la n lc) ∧ w'.cell? ⟨z, 0, none⟩ = some (.int .i64 s) ∧ w'.cell? ⟨z, 1, none⟩ = some (.string ⟨zr.toArray⟩) ∧ w'.cell? ⟨z, 2, none⟩ = some (.int .i64 k) ∧ w'.cell? ⟨z, 3, none⟩ = some (.slice oa n oc)) (go_keep)
    (first
      | (go_at_call 9; refine (q1.out _ _ (by first | exact O.out | exact vaO_drew O.out) (by simp)).mono ?_; rintro e w9 ⟨aa, ca, rfl, O, ce0, ce1, ce2, ce3, ce4, ce5, ce6, ce7⟩)
      | (go_at_call 10; refine (q2.out _ _ (by first | exact O.out | exact vaO_drew O.out) (by simp)).mono ?_; rintro e w9 ⟨ab, cb, rfl, O, ce0, ce1, ce2, ce3, ce4, ce5, ce6, ce7⟩)
      | (go_at_call 8; refine (q3.out _ _ _ _ _ _ (by first | exact O.out | exact vaO_drew O.out) (by simp) (by simp)).mono ?_; rintro e w9 ⟨rfl, O, ce0, ce1, ce2, ce3, ce4, ce5, ce6, ce7⟩)
      | (go_at_call 11; refine (q4.out _ _ (by first | exact O.out | exact vaO_drew O.out) (by simp) (by simp)).mono ?_; rintro e w9 ⟨rfl, O, ce0, ce1, ce2, ce3, ce4, ce5, ce6, ce7⟩))
  all_goals
    go_wp2_with fail
    go_ret
    exact ⟨rfl, O.out.1⟩
end Go.Proofs.YtikokjclhpgocaaDoor
