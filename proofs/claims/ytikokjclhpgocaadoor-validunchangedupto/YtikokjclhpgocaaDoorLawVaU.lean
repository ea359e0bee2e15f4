/- The walk of ValidUnchanged. -/
import Derived.Test.YtikokjclhpgocaaDoorVaO
import Derived.Test.YtikokjclhpgocaaDoorVaRu
import Derived.Test.YtikokjclhpgocaaDoorVaD
import Derived.Test.YtikokjclhpgocaaDoorVaV
import Derived.Test.YtikokjclhpgocaaDoorLawVaA
import Derived.Test.YtikokjclhpgocaaDoorRq
import Derived.Deep.RegionHeld3
import Derived.Deep.Cut
namespace Go.Proofs.YtikokjclhpgocaaDoor
open Go.RowKit
theorem star_unch (D : List UInt8 → Int) : unchOf D [(inN, [42])] 200 [] = true := by
  have e : valsOf [(inN, [42])] inN = [[42]] := by decide +kernel
  have e2 : listOf [42] = [[42]] := by decide +kernel
  rw [unch_tags D _ _ (by rw [e]; simp), e]
  simp [e2, hitE]
theorem dt_nilB (fs : FL) (n : List UInt8) (h : valsOf fs n = []) : DtB (getJ fs n) (dtF (getJ fs n)) := by
  refine dtF_spec _ ?_
  unfold getJ
  rw [h, Lib.join_nil]
  decide
set_option maxHeartbeats 2000000 in
/-- the law's first line -/
theorem aliveU (w : World) (E : EvD w) : Calls Tryd.prog 12 #[.slice (some ⟨w.heap.size, 0, none⟩) 1 1, .agg #[.int .i64 200, .string ⟨#[]⟩, .int .i64 0, .slice none 0 0]] (w.alloc (.cells #[S inN, S [42]] 33)) fun e w' => e = .returned (.bool true) ∧ Below w.heap.size w w' := by
  have h := unchC 200 0 [] _ _ [(inN, [42])] [] dtF _ (holdsF_lit1 w inN [42]) (holdsF_lit0 _) (by decide) (by decide) (evD_below E (below_alloc' w _)) (dt_nilB _ _ (by decide +kernel)).1 (dt_nilB _ _ (by decide +kernel)).1
  rw [star_unch] at h
  exact h.mono (fun e w' ⟨h1, h2⟩ => ⟨h1, bt' (below_alloc' w _) h2⟩)
set_option maxHeartbeats 8000000 in
set_option maxRecDepth 20000 in
theorem unchW (av : Value) (ask : FL) (s k : Int) (zr : List UInt8) (lv : Value) (fs : FL) (w : World) (ha : HoldsF w av ask) (hv : HoldsF w lv fs) (hb : bulkF ask + bulkF fs ≤ 1048576) (E : EvD w) :
    Calls Tryd.prog 4 #[av, .agg #[.int .i64 s, .string ⟨zr.toArray⟩, .int .i64 k, lv]] w fun e w' => e = .returned (.bool true) ∧ Below w.heap.size w w' := by
  have hl := bulkF_len fs
  have hm := bulkF_len ask
  have D1 := hide' (dtJ ask imN (by omega))
  have D2 := hide' (dtJ fs lmN (by omega))
  have kA := hide' (fun y u W (h : Below w.heap.size w W) (hy : HoldsF W y ask) (hu : HoldsF W u fs) => unchC s k zr y u ask fs dtF W hy hu (by omega) (by omega) (evD_below E h) D1.out.1 D2.out.1)
  have kR := hide' (fun y u W (hy : HoldsF W y ask) (hu : HoldsF W u fs) => unchRC s k zr y u ask fs dtF W hy hu (by omega) (by omega) D1.out D2.out)
  have kC := hide' (fun u W (hu : HoldsF W u fs) => copyRs s k zr fs u W hu (by omega))
  have kD := hide' (fun u W (hu : HoldsF W u ask) => copyF u ask W hu (by omega))
  have kS := hide' (fun u x W (hu : HoldsF W u fs) (hx : HoldsF W x fs) => sameRs s k zr fs u x W hu hx (by omega))
  have kF := hide' (fun u x W (hu : HoldsF W u ask) (hx : HoldsF W x ask) => sameFv u x _ W hu hx (by omega))
  have HV := hide' hv
  have HA := hide' ha
  obtain ⟨la, lc, _, _, el, -⟩ := holdsF_parts hv
  obtain ⟨aa, ac, _, _, ea, -⟩ := holdsF_parts ha
  subst el ea
  have b0 := below_alloc' w (.cells #[.int .i64 s, .string ⟨zr.toArray⟩, .int .i64 k, .slice la fs.length lc] 24)
  have c0 := aliveU (w.alloc (.cells #[.int .i64 s, .string ⟨zr.toArray⟩, .int .i64 k, .slice la fs.length lc] 24)) (evD_below E b0)
  have z0 : (w.alloc (.cells #[.int .i64 s, .string ⟨zr.toArray⟩, .int .i64 k, .slice la fs.length lc] 24)).heap.size = w.heap.size + 1 := by simp
  unfold S inN at c0
  rw [z0] at c0
  generalize unchOf dtF ask s fs = ub at kA kR
  obtain ⟨n, en⟩ : ∃ n, n = fs.length := ⟨_, rfl⟩
  have N : Hid (fs.length = n) := en.symm
  obtain ⟨m, em⟩ : ∃ m, m = ask.length := ⟨_, rfl⟩
  have M : Hid (ask.length = m) := em.symm
  rw [N.out] at HV c0 b0 ⊢
  rw [M.out] at HA ⊢
  replace c0 := hide' c0
  have B0 := hide' b0
  have P0 := hide' (show Blk w.heap.size (w.alloc (.cells #[.int .i64 s, .string ⟨zr.toArray⟩, .int .i64 k, .slice la n lc] 24)) [.int .i64 s, .string ⟨zr.toArray⟩, .int .i64 k, .slice la n lc] from cells_lit w _ _)
  clear hv ha E D1 D2 en em b0 z0
  have BS := hide' (fun (W' : World) (h : Below (w.heap.size + 1) (w.alloc (.cells #[.int .i64 s, .string ⟨zr.toArray⟩, .int .i64 k, .slice la n lc] 24)) W') => (show Below w.heap.size w W' ∧ Blk w.heap.size W' [.int .i64 s, .string ⟨zr.toArray⟩, .int .i64 k, .slice la n lc] from by
    have z : (w.alloc (.cells #[.int .i64 s, .string ⟨zr.toArray⟩, .int .i64 k, .slice la n lc] 24)).heap.size = w.heap.size + 1 := by simp
    rw [← z] at h
    exact ⟨bt' B0.out h, cells_below P0.out h⟩))
  go_enter Tryd.func4, Tryd.ntmps4
  go_wp2_with fail
  refine c0.out.mono ?_
  rintro e w1 ⟨rfl, b1⟩
  have B1 := hide' (BS.out _ b1).1
  have P1 := hide' (BS.out _ b1).2
  clear b1 c0 B0 P0 BS
  go_wp2_with fail
  refine (kD.out _ _ (holdsF_mono HA.out B1.out)).mono ?_
  rintro e w2 ⟨u2, rfl, ho⟩
  obtain ⟨fa, fc, _, _, eo, -⟩ := holdsF_parts (holdsF_own ho)
  have hx := holdsF_own ho
  rw [M.out] at eo
  rw [eo] at hx ⊢
  have B2 := hide' (bt' B1.out ho.2)
  have P2 := hide' (cells_below P1.out ho.2)
  have X2 := hide' hx
  clear ho hx eo B1 P1 kD
  obtain ⟨i0, i1, i2, i3, iz⟩ := blk4 P2.out
  go_wp2_with fail
  refine (kC.out _ _ (holdsF_mono HV.out B2.out)).mono ?_
  rintro e w3 ⟨u3, rfl, ho⟩
  obtain ⟨oa, oc, _, _, eo, -⟩ := holdsF_parts (holdsF_own ho)
  have hx := holdsF_own ho
  rw [N.out] at eo
  rw [eo] at hx ⊢
  have B3 := hide' (bt' B2.out ho.2)
  have P3 := hide' (cells_below P2.out ho.2)
  have X3 := hide' (holdsF_mono X2.out ho.2)
  have Y3 := hide' hx
  clear ho hx eo B2 P2 X2 kC i0 i1 i2 i3 iz
  obtain ⟨W, hW⟩ : ∃ W, W = w3.alloc (.cells #[.int .i64 s, .string ⟨zr.toArray⟩, .int .i64 k, .slice oa n oc] 24) := ⟨_, rfl⟩
  obtain ⟨q, hq⟩ : ∃ q, q = w.heap.size := ⟨_, rfl⟩
  obtain ⟨z, hz⟩ : ∃ z, z = w3.heap.size := ⟨_, rfl⟩
  have O := hide' (show VaO w W q z [.int .i64 s, .string ⟨zr.toArray⟩, .int .i64 k, .slice la n lc] [.int .i64 s, .string ⟨zr.toArray⟩, .int .i64 k, .slice oa n oc] [(.slice oa n oc, fs), (.slice la n lc, fs), (.slice fa m fc, ask), (.slice aa m ac, ask)] from by
    rw [hW, hz, hq]
    have b3 := below_alloc' w3 (.cells #[.int .i64 s, .string ⟨zr.toArray⟩, .int .i64 k, .slice oa n oc] 24)
    refine vaO_put (vaO_put (vaO_put (vaO_put (l := []) ⟨bt' B3.out b3, cells_below P3.out b3, cells_lit w3 _ _, fun p hp => by cases hp⟩ ?_) ?_) ?_) ?_
    · exact holdsF_mono HA.out (bt' B3.out b3)
    · exact holdsF_mono X3.out b3
    · exact holdsF_mono HV.out (bt' B3.out b3)
    · exact holdsF_mono Y3.out b3)
  have q1 : Hid (∀ l W, VaO w W q z [.int .i64 s, .string ⟨zr.toArray⟩, .int .i64 k, .slice la n lc] [.int .i64 s, .string ⟨zr.toArray⟩, .int .i64 k, .slice oa n oc] l → ((.slice fa m fc : Value), ask) ∈ l → ((.slice oa n oc : Value), fs) ∈ l → Calls Tryd.prog 12 #[.slice fa m fc, .agg #[.int .i64 s, .string ⟨zr.toArray⟩, .int .i64 k, .slice oa n oc]] W fun e w' => e = .returned (.bool ub) ∧ Hid (VaO w w' q z [.int .i64 s, .string ⟨zr.toArray⟩, .int .i64 k, .slice la n lc] [.int .i64 s, .string ⟨zr.toArray⟩, .int .i64 k, .slice oa n oc] l) ∧ w'.cell? ⟨q, 0, none⟩ = some (.int .i64 s) ∧ w'.cell? ⟨q, 1, none⟩ = some (.string ⟨zr.toArray⟩) ∧ w'.cell? ⟨q, 2, none⟩ = some (.int .i64 k) ∧ w'.cell? ⟨q, 3, none⟩ = some (.slice la n lc) ∧ w'.cell? ⟨z, 0, none⟩ = some (.int .i64 s) ∧ w'.cell? ⟨z, 1, none⟩ = some (.string ⟨zr.toArray⟩) ∧ w'.cell? ⟨z, 2, none⟩ = some (.int .i64 k) ∧ w'.cell? ⟨z, 3, none⟩ = some (.slice oa n oc)) := fun l W h m1 m2 => (kA.out _ _ W h.1 (h.2.2.2 _ m1) (h.2.2.2 _ m2)).mono (fun e w' ⟨h1, h2⟩ => ⟨h1, vaO_below h h2, vaO_cells (vaO_below h h2)⟩)
  have q2 : Hid (∀ l W, VaO w W q z [.int .i64 s, .string ⟨zr.toArray⟩, .int .i64 k, .slice la n lc] [.int .i64 s, .string ⟨zr.toArray⟩, .int .i64 k, .slice oa n oc] l → ((.slice aa m ac : Value), ask) ∈ l → ((.slice la n lc : Value), fs) ∈ l → Calls Tryd.prog 14 #[.slice aa m ac, .agg #[.int .i64 s, .string ⟨zr.toArray⟩, .int .i64 k, .slice la n lc]] W fun e w' => e = .returned (.bool ub) ∧ Hid (VaO w w' q z [.int .i64 s, .string ⟨zr.toArray⟩, .int .i64 k, .slice la n lc] [.int .i64 s, .string ⟨zr.toArray⟩, .int .i64 k, .slice oa n oc] l) ∧ w'.cell? ⟨q, 0, none⟩ = some (.int .i64 s) ∧ w'.cell? ⟨q, 1, none⟩ = some (.string ⟨zr.toArray⟩) ∧ w'.cell? ⟨q, 2, none⟩ = some (.int .i64 k) ∧ w'.cell? ⟨q, 3, none⟩ = some (.slice la n lc) ∧ w'.cell? ⟨z, 0, none⟩ = some (.int .i64 s) ∧ w'.cell? ⟨z, 1, none⟩ = some (.string ⟨zr.toArray⟩) ∧ w'.cell? ⟨z, 2, none⟩ = some (.int .i64 k) ∧ w'.cell? ⟨z, 3, none⟩ = some (.slice oa n oc)) := fun l W h m1 m2 => (kR.out _ _ W (h.2.2.2 _ m1) (h.2.2.2 _ m2)).mono (fun e w' ⟨h1, h2⟩ => ⟨h1, vaO_below h h2, vaO_cells (vaO_below h h2)⟩)
  have q3 : Hid (∀ l W, VaO w W q z [.int .i64 s, .string ⟨zr.toArray⟩, .int .i64 k, .slice la n lc] [.int .i64 s, .string ⟨zr.toArray⟩, .int .i64 k, .slice oa n oc] l → ((.slice fa m fc : Value), ask) ∈ l → ((.slice aa m ac : Value), ask) ∈ l → Calls Tryd.prog 8 #[.slice fa m fc, .slice aa m ac] W fun e w' => e = .returned (.bool true) ∧ Hid (VaO w w' q z [.int .i64 s, .string ⟨zr.toArray⟩, .int .i64 k, .slice la n lc] [.int .i64 s, .string ⟨zr.toArray⟩, .int .i64 k, .slice oa n oc] l) ∧ w'.cell? ⟨q, 0, none⟩ = some (.int .i64 s) ∧ w'.cell? ⟨q, 1, none⟩ = some (.string ⟨zr.toArray⟩) ∧ w'.cell? ⟨q, 2, none⟩ = some (.int .i64 k) ∧ w'.cell? ⟨q, 3, none⟩ = some (.slice la n lc) ∧ w'.cell? ⟨z, 0, none⟩ = some (.int .i64 s) ∧ w'.cell? ⟨z, 1, none⟩ = some (.string ⟨zr.toArray⟩) ∧ w'.cell? ⟨z, 2, none⟩ = some (.int .i64 k) ∧ w'.cell? ⟨z, 3, none⟩ = some (.slice oa n oc)) := fun l W h m1 m2 => (kF.out _ _ W (h.2.2.2 _ m1) (h.2.2.2 _ m2)).mono (fun e w' ⟨h1, h2⟩ => ⟨h1, vaO_below h h2, vaO_cells (vaO_below h h2)⟩)
  have q4 : Hid (∀ l W, VaO w W q z [.int .i64 s, .string ⟨zr.toArray⟩, .int .i64 k, .slice la n lc] [.int .i64 s, .string ⟨zr.toArray⟩, .int .i64 k, .slice oa n oc] l → ((.slice oa n oc : Value), fs) ∈ l → ((.slice la n lc : Value), fs) ∈ l → Calls Tryd.prog 11 #[.agg #[.int .i64 s, .string ⟨zr.toArray⟩, .int .i64 k, .slice oa n oc], .agg #[.int .i64 s, .string ⟨zr.toArray⟩, .int .i64 k, .slice la n lc]] W fun e w' => e = .returned (.bool true) ∧ Hid (VaO w w' q z [.int .i64 s, .string ⟨zr.toArray⟩, .int .i64 k, .slice la n lc] [.int .i64 s, .string ⟨zr.toArray⟩, .int .i64 k, .slice oa n oc] l) ∧ w'.cell? ⟨q, 0, none⟩ = some (.int .i64 s) ∧ w'.cell? ⟨q, 1, none⟩ = some (.string ⟨zr.toArray⟩) ∧ w'.cell? ⟨q, 2, none⟩ = some (.int .i64 k) ∧ w'.cell? ⟨q, 3, none⟩ = some (.slice la n lc) ∧ w'.cell? ⟨z, 0, none⟩ = some (.int .i64 s) ∧ w'.cell? ⟨z, 1, none⟩ = some (.string ⟨zr.toArray⟩) ∧ w'.cell? ⟨z, 2, none⟩ = some (.int .i64 k) ∧ w'.cell? ⟨z, 3, none⟩ = some (.slice oa n oc)) := fun l W h m1 m2 => (kS.out _ _ W (h.2.2.2 _ m1) (h.2.2.2 _ m2)).mono (fun e w' ⟨h1, h2⟩ => ⟨h1, vaO_below h h2, vaO_cells (vaO_below h h2)⟩)
  clear kA kR kF kS X3 Y3 P3 B3 HV HA
  have hqW : q < W.heap.size := (O.out.2.1).2
  have hzW : z < W.heap.size := (O.out.2.2.1).2
  obtain ⟨ce0, ce1, ce2, ce3, ce4, ce5, ce6, ce7⟩ := vaO_cells O.out
  go_upto_region 5 with fail
  rw [← hW, ← hz, ← hq]
  clear hq hW hz
  go_region_held3 (fun w' => w'.cell? ⟨q, 0, none⟩ = some (.int .i64 s) ∧ w'.cell? ⟨q, 1, none⟩ = some (.string ⟨zr.toArray⟩) ∧ w'.cell? ⟨q, 2, none⟩ = some (.int .i64 k) ∧ w'.cell? ⟨q, 3, none⟩ = some (.slice la n lc) ∧ w'.cell? ⟨z, 0, none⟩ = some (.int .i64 s) ∧ w'.cell? ⟨z, 1, none⟩ = some (.string ⟨zr.toArray⟩) ∧ w'.cell? ⟨z, 2, none⟩ = some (.int .i64 k) ∧ w'.cell? ⟨z, 3, none⟩ = some (.slice oa n oc)) (go_keep)
    (first
      | (go_at_call 12; refine (q1.out _ _ (by first | exact O.out | exact vaO_drew O.out) (by simp) (by simp)).mono ?_; rintro e w9 ⟨rfl, O, ce0, ce1, ce2, ce3, ce4, ce5, ce6, ce7⟩)
      | (go_at_call 14; refine (q2.out _ _ (by first | exact O.out | exact vaO_drew O.out) (by simp) (by simp)).mono ?_; rintro e w9 ⟨rfl, O, ce0, ce1, ce2, ce3, ce4, ce5, ce6, ce7⟩)
      | (go_at_call 8; refine (q3.out _ _ (by first | exact O.out | exact vaO_drew O.out) (by simp) (by simp)).mono ?_; rintro e w9 ⟨rfl, O, ce0, ce1, ce2, ce3, ce4, ce5, ce6, ce7⟩)
      | (go_at_call 11; refine (q4.out _ _ (by first | exact O.out | exact vaO_drew O.out) (by simp) (by simp)).mono ?_; rintro e w9 ⟨rfl, O, ce0, ce1, ce2, ce3, ce4, ce5, ce6, ce7⟩))
  all_goals
    go_wp2_with fail
    go_ret
    exact ⟨rfl, O.out.1⟩
end Go.Proofs.YtikokjclhpgocaaDoor
