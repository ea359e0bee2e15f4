/- The law's minute, none and alive. -/
import Derived.Test.YtlhhcpbfjjhbfabDoorBt
import Derived.Test.YtlhhcpbfjjhbfabDoorFhD
import Derived.Deep.DeepCutAuto
namespace Go.Proofs.YtlhhcpbfjjhbfabDoor
open Go.RowKit
def mfs : FL := [(ccb, [109, 97, 120, 45, 97, 103, 101, 61, 54, 48])]
theorem dt_nil : DtP [] (-1) := by
  have nf : ∀ t, ¬ IsForm [] t := by
    rintro t ⟨-, -, y, m, d, -, -, h | ⟨-, h⟩ | h⟩
    · simp [showL] at h
    · simp [dashL] at h
    · simp [blankL] at h
  refine ⟨by omega, by omega, 0, 20, .inl ⟨by omega, rfl, rfl⟩, ?_⟩
  rcases parse_any ⟨[].toArray⟩ (by decide) with c | ⟨t, ht, _⟩
  · exact c
  · exact absurd ht (nf t)
theorem mfs_vals (nm : List UInt8) (h : lows nm ≠ lows ccb) : valsOf mfs nm = [] := by
  unfold valsOf mfs
  simp
  exact fun e => h e.symm
theorem mfs_join (nm : List UInt8) (h : lows nm ≠ lows ccb) : joinOf (valsOf mfs nm) = [] := by rw [mfs_vals nm h]; rfl
theorem mfs_has : hasN mfs exb = false := by unfold hasN; rw [mfs_vals exb (by decide)]; rfl
theorem mfs_told : Told mfs false false false false false false 60 (-1) (-1) (-1) := by
  refine ⟨?_, by omega, by omega, by omega, by omega⟩
  have e : parOf mfs = ctlV (dirsOf [[109, 97, 120, 45, 97, 103, 101, 61, 54, 48]]) false := by
    unfold parOf
    rw [show valsOf mfs ccb = [[109, 97, 120, 45, 97, 103, 101, 61, 54, 48]] by simp [valsOf, mfs]]
    rfl
  rw [e, show dirsOf [[109, 97, 120, 45, 97, 103, 101, 61, 54, 48]] = [(mab, [54, 48], true)] by decide +kernel]
  rfl
theorem noneC (w : World) :
    Calls Tryd.prog 29 #[] w fun e w' => e = .returned (.agg #[.bool false, .bool false, .bool false, .bool false, .bool false, .bool false, .int .i64 (-1), .int .i64 (-1), .int .i64 (-1), .int .i64 (-1)]) ∧ Below w.heap.size w w' := by
  go_enter Tryd.func29, Tryd.ntmps29
  go_wp2_with fail
  exact bodyPost_ret (v := .agg #[.bool false, .bool false, .bool false, .bool false, .bool false, .bool false, .int .i64 (-1), .int .i64 (-1), .int .i64 (-1), .int .i64 (-1)]) (by simp [results, Tryd.results29, go_sem]) rfl ⟨rfl, below_alloc' w _⟩
theorem minuteC (w : World) :
    Calls Tryd.prog 11 #[] w fun e w' => ∃ fa : Addr, e = .returned (.agg #[.string ⟨#[]⟩, .string ⟨#[]⟩, .int .i64 200, .string ⟨#[]⟩, .int .i64 0, .slice (some fa) 1 1, .slice none 0 0, .int .i64 1000, .int .i64 1000]) ∧ HoldsF w' (.slice (some fa) 1 1) mfs ∧ Below w.heap.size w w' := by
  go_enter Tryd.func11, Tryd.ntmps11
  go_wp2_with fail
  have z : (w.alloc (.cells #[.string ⟨#[]⟩, .string ⟨#[]⟩, .int .i64 200, .string ⟨#[]⟩, .int .i64 0, .slice (some ⟨w.heap.size + 1, 0, none⟩) 1 1, .slice none 0 0, .int .i64 1000, .int .i64 1000] 39)).heap.size = w.heap.size + 1 := by simp
  have H := holdsF_lit1 (w.alloc (.cells #[.string ⟨#[]⟩, .string ⟨#[]⟩, .int .i64 200, .string ⟨#[]⟩, .int .i64 0, .slice (some ⟨w.heap.size + 1, 0, none⟩) 1 1, .slice none 0 0, .int .i64 1000, .int .i64 1000] 39)) ccb [109, 97, 120, 45, 97, 103, 101, 61, 54, 48]
  rw [z] at H
  exact bodyPost_ret (v := .agg #[.string ⟨#[]⟩, .string ⟨#[]⟩, .int .i64 200, .string ⟨#[]⟩, .int .i64 0, .slice (some ⟨w.heap.size + 1, 0, none⟩) 1 1, .slice none 0 0, .int .i64 1000, .int .i64 1000]) (by simp [results, Tryd.results11, go_sem]) rfl ⟨_, rfl, H, bt' (below_alloc' w _) (below_alloc' _ _)⟩
set_option maxRecDepth 20000 in
set_option maxHeartbeats 4000000 in
theorem aliveF (w : World) (E : EvD w) :
    Calls Tryd.prog 10 #[] w fun e w' => e = .returned (.bool true) ∧ Below w.heap.size w w' := by
  have cM := hide' (minuteC w)
  go_enter Tryd.func10, Tryd.ntmps10
  go_wp2_with fail
  refine cM.out.mono ?_
  rintro e w1 ⟨fa, rfl, hF, b1⟩
  have eE := evD_below E b1
  have B1 := hide' b1
  clear b1 cM E
  have bl : bulkF mfs ≤ 1048576 := by decide
  have Dd : DtP (joinOf (valsOf mfs dab)) (-1) := by rw [mfs_join dab (by decide)]; exact dt_nil
  have Dx : DtP (joinOf (valsOf mfs exb)) (-1) := by rw [mfs_join exb (by decide)]; exact dt_nil
  have Dl : DtP (joinOf (valsOf mfs lmb)) (-1) := by rw [mfs_join lmb (by decide)]; exact dt_nil
  have Dg : secs (joinOf (valsOf mfs agb)) = -1 := by rw [mfs_join agb (by decide)]; rfl
  have k1 := (fun W (h : Below w1.heap.size w1 W) => ageFC ⟨#[]⟩ ⟨#[]⟩ ⟨#[]⟩ 200 0 1000 1000 (some fa) none 1 0 1 0 1030 mfs (-1) W (holdsF_mono hF h) bl (evD_below eE h) Dd)
  have k2 := (fun W (h : Below w1.heap.size w1 W) => lifeFC ⟨#[]⟩ ⟨#[]⟩ ⟨#[]⟩ 200 0 1000 1000 (some fa) none 1 0 1 0 0 0 0 0 mfs false false false false false false 60 (-1) (-1) (-1) (-1) (-1) (-1) W (holdsF_mono hF h) bl (evD_below eE h) mfs_told Dd Dx Dl)
  have k3 := (fun now W (h : Below w1.heap.size w1 W) => judgeFC ⟨#[]⟩ ⟨#[]⟩ ⟨#[]⟩ 200 0 1000 1000 (some fa) none 1 0 1 0 0 0 0 0 false false false false false false (-1) (-1) (-1) (-1) now mfs false false false false false false 60 (-1) (-1) (-1) (-1) (-1) (-1) W (holdsF_mono hF h) bl (evD_below eE h) mfs_told Dd Dx Dl)
  rw [Dg] at k1 k3
  rw [mfs_has] at k2 k3
  have v1 : ageN (-1) (-1) 1000 1000 1030 = 30 := by decide
  have v2 : lifeN (-1) 60 false (-1) (-1) (-1) 200 1000 0 0 0 0 = 60 := by decide
  have v3 : judN false false (-1) (-1) (-1) false (-1) 60 30 = 0 := by decide
  have v4 : ageN (-1) (-1) 1000 1000 1060 = 60 := by decide
  have v5 : judN false false (-1) (-1) (-1) false (-1) 60 60 = 2 := by decide
  rw [v1] at k1
  rw [v2] at k2 k3
  have k4 := k3 1030
  have k5 := k3 1060
  rw [v1, v3] at k4
  rw [v4, v5] at k5
  clear k3 v1 v2 v3 v4 v5 Dd Dx Dl Dg bl hF eE
  obtain ⟨W, hW⟩ : ∃ W, W = w1.alloc (.cells #[.string ⟨#[]⟩, .string ⟨#[]⟩, .int .i64 200, .string ⟨#[]⟩, .int .i64 0, .slice (some fa) 1 1, .slice none 0 0, .int .i64 1000, .int .i64 1000] 39) := ⟨_, rfl⟩
  obtain ⟨q, hq⟩ : ∃ q, q = w1.heap.size := ⟨_, rfl⟩
  have O := hide' (show AgO w1 q W ⟨#[]⟩ ⟨#[]⟩ ⟨#[]⟩ 200 0 1000 1000 (some fa) none 1 0 1 0 from by rw [hW, hq]; exact ⟨below_alloc' w1 _, enC_lit w1 ⟨#[]⟩ ⟨#[]⟩ ⟨#[]⟩ 200 0 1000 1000 (some fa) none 1 0 1 0⟩)
  have kN := fun W => noneC W
  have kA : Hid (∀ W, AgO w1 q W ⟨#[]⟩ ⟨#[]⟩ ⟨#[]⟩ 200 0 1000 1000 (some fa) none 1 0 1 0 → Calls Tryd.prog 27 #[.agg #[.string ⟨#[]⟩, .string ⟨#[]⟩, .int .i64 200, .string ⟨#[]⟩, .int .i64 0, .slice (some fa) 1 1, .slice none 0 0, .int .i64 1000, .int .i64 1000], .int .i64 1030] W fun e w' => e = .returned (.int .i64 30) ∧ Hid (AgO w1 q w' ⟨#[]⟩ ⟨#[]⟩ ⟨#[]⟩ 200 0 1000 1000 (some fa) none 1 0 1 0) ∧ w'.cell? ⟨q, 0, none⟩ = some (.string ⟨#[]⟩) ∧ w'.cell? ⟨q, 1, none⟩ = some (.string ⟨#[]⟩) ∧ w'.cell? ⟨q, 2, none⟩ = some (.int .i64 200) ∧ w'.cell? ⟨q, 3, none⟩ = some (.string ⟨#[]⟩) ∧ w'.cell? ⟨q, 4, none⟩ = some (.int .i64 0) ∧ w'.cell? ⟨q, 5, none⟩ = some (.slice (some fa) 1 1) ∧ w'.cell? ⟨q, 6, none⟩ = some (.slice none 0 0) ∧ w'.cell? ⟨q, 7, none⟩ = some (.int .i64 1000) ∧ w'.cell? ⟨q, 8, none⟩ = some (.int .i64 1000)) := fun W h => (k1 W h.1).mono (fun e w' ⟨h1, h2⟩ => ⟨h1, agO_below h h2, (enC_open (agO_below h h2).2).2⟩)
  have kL : Hid (∀ W, AgO w1 q W ⟨#[]⟩ ⟨#[]⟩ ⟨#[]⟩ 200 0 1000 1000 (some fa) none 1 0 1 0 → Calls Tryd.prog 13 #[.agg #[.string ⟨#[]⟩, .string ⟨#[]⟩, .int .i64 200, .string ⟨#[]⟩, .int .i64 0, .slice (some fa) 1 1, .slice none 0 0, .int .i64 1000, .int .i64 1000], .agg #[.int .i64 0, .int .i64 0, .int .i64 0, .int .i64 0]] W fun e w' => e = .returned (.int .i64 60) ∧ Hid (AgO w1 q w' ⟨#[]⟩ ⟨#[]⟩ ⟨#[]⟩ 200 0 1000 1000 (some fa) none 1 0 1 0) ∧ w'.cell? ⟨q, 0, none⟩ = some (.string ⟨#[]⟩) ∧ w'.cell? ⟨q, 1, none⟩ = some (.string ⟨#[]⟩) ∧ w'.cell? ⟨q, 2, none⟩ = some (.int .i64 200) ∧ w'.cell? ⟨q, 3, none⟩ = some (.string ⟨#[]⟩) ∧ w'.cell? ⟨q, 4, none⟩ = some (.int .i64 0) ∧ w'.cell? ⟨q, 5, none⟩ = some (.slice (some fa) 1 1) ∧ w'.cell? ⟨q, 6, none⟩ = some (.slice none 0 0) ∧ w'.cell? ⟨q, 7, none⟩ = some (.int .i64 1000) ∧ w'.cell? ⟨q, 8, none⟩ = some (.int .i64 1000)) := fun W h => (k2 W h.1).mono (fun e w' ⟨h1, h2⟩ => ⟨h1, agO_below h h2, (enC_open (agO_below h h2).2).2⟩)
  have kJ : Hid (∀ W, AgO w1 q W ⟨#[]⟩ ⟨#[]⟩ ⟨#[]⟩ 200 0 1000 1000 (some fa) none 1 0 1 0 → Calls Tryd.prog 28 #[.agg #[.bool false, .bool false, .bool false, .bool false, .bool false, .bool false, .int .i64 (-1), .int .i64 (-1), .int .i64 (-1), .int .i64 (-1)], .agg #[.string ⟨#[]⟩, .string ⟨#[]⟩, .int .i64 200, .string ⟨#[]⟩, .int .i64 0, .slice (some fa) 1 1, .slice none 0 0, .int .i64 1000, .int .i64 1000], .agg #[.int .i64 0, .int .i64 0, .int .i64 0, .int .i64 0], .int .i64 1030] W fun e w' => e = .returned (.int .i64 0) ∧ Hid (AgO w1 q w' ⟨#[]⟩ ⟨#[]⟩ ⟨#[]⟩ 200 0 1000 1000 (some fa) none 1 0 1 0) ∧ w'.cell? ⟨q, 0, none⟩ = some (.string ⟨#[]⟩) ∧ w'.cell? ⟨q, 1, none⟩ = some (.string ⟨#[]⟩) ∧ w'.cell? ⟨q, 2, none⟩ = some (.int .i64 200) ∧ w'.cell? ⟨q, 3, none⟩ = some (.string ⟨#[]⟩) ∧ w'.cell? ⟨q, 4, none⟩ = some (.int .i64 0) ∧ w'.cell? ⟨q, 5, none⟩ = some (.slice (some fa) 1 1) ∧ w'.cell? ⟨q, 6, none⟩ = some (.slice none 0 0) ∧ w'.cell? ⟨q, 7, none⟩ = some (.int .i64 1000) ∧ w'.cell? ⟨q, 8, none⟩ = some (.int .i64 1000)) := fun W h => (k4 W h.1).mono (fun e w' ⟨h1, h2⟩ => ⟨h1, agO_below h h2, (enC_open (agO_below h h2).2).2⟩)
  have kK : Hid (∀ W, AgO w1 q W ⟨#[]⟩ ⟨#[]⟩ ⟨#[]⟩ 200 0 1000 1000 (some fa) none 1 0 1 0 → Calls Tryd.prog 28 #[.agg #[.bool false, .bool false, .bool false, .bool false, .bool false, .bool false, .int .i64 (-1), .int .i64 (-1), .int .i64 (-1), .int .i64 (-1)], .agg #[.string ⟨#[]⟩, .string ⟨#[]⟩, .int .i64 200, .string ⟨#[]⟩, .int .i64 0, .slice (some fa) 1 1, .slice none 0 0, .int .i64 1000, .int .i64 1000], .agg #[.int .i64 0, .int .i64 0, .int .i64 0, .int .i64 0], .int .i64 1060] W fun e w' => e = .returned (.int .i64 2) ∧ Hid (AgO w1 q w' ⟨#[]⟩ ⟨#[]⟩ ⟨#[]⟩ 200 0 1000 1000 (some fa) none 1 0 1 0) ∧ w'.cell? ⟨q, 0, none⟩ = some (.string ⟨#[]⟩) ∧ w'.cell? ⟨q, 1, none⟩ = some (.string ⟨#[]⟩) ∧ w'.cell? ⟨q, 2, none⟩ = some (.int .i64 200) ∧ w'.cell? ⟨q, 3, none⟩ = some (.string ⟨#[]⟩) ∧ w'.cell? ⟨q, 4, none⟩ = some (.int .i64 0) ∧ w'.cell? ⟨q, 5, none⟩ = some (.slice (some fa) 1 1) ∧ w'.cell? ⟨q, 6, none⟩ = some (.slice none 0 0) ∧ w'.cell? ⟨q, 7, none⟩ = some (.int .i64 1000) ∧ w'.cell? ⟨q, 8, none⟩ = some (.int .i64 1000)) := fun W h => (k5 W h.1).mono (fun e w' ⟨h1, h2⟩ => ⟨h1, agO_below h h2, (enC_open (agO_below h h2).2).2⟩)
  have kO : Hid (∀ W, AgO w1 q W ⟨#[]⟩ ⟨#[]⟩ ⟨#[]⟩ 200 0 1000 1000 (some fa) none 1 0 1 0 → Calls Tryd.prog 29 #[] W fun e w' => e = .returned (.agg #[.bool false, .bool false, .bool false, .bool false, .bool false, .bool false, .int .i64 (-1), .int .i64 (-1), .int .i64 (-1), .int .i64 (-1)]) ∧ Hid (AgO w1 q w' ⟨#[]⟩ ⟨#[]⟩ ⟨#[]⟩ 200 0 1000 1000 (some fa) none 1 0 1 0) ∧ w'.cell? ⟨q, 0, none⟩ = some (.string ⟨#[]⟩) ∧ w'.cell? ⟨q, 1, none⟩ = some (.string ⟨#[]⟩) ∧ w'.cell? ⟨q, 2, none⟩ = some (.int .i64 200) ∧ w'.cell? ⟨q, 3, none⟩ = some (.string ⟨#[]⟩) ∧ w'.cell? ⟨q, 4, none⟩ = some (.int .i64 0) ∧ w'.cell? ⟨q, 5, none⟩ = some (.slice (some fa) 1 1) ∧ w'.cell? ⟨q, 6, none⟩ = some (.slice none 0 0) ∧ w'.cell? ⟨q, 7, none⟩ = some (.int .i64 1000) ∧ w'.cell? ⟨q, 8, none⟩ = some (.int .i64 1000)) := fun W h => (kN W).mono (fun e w' ⟨h1, h2⟩ => ⟨h1, agO_below h h2, (enC_open (agO_below h h2).2).2⟩)
  clear k1 k2 k4 k5 kN
  have hqW : q < W.heap.size := by have := (enC_open O.out.2).1; exact this
  obtain ⟨ce0, ce1, ce2, ce3, ce4, ce5, ce6, ce7, ce8⟩ := (enC_open O.out.2).2
  go_upto_region 2 with fail
  rw [← hq, ← hW]
  clear hq hW
  go_region_held3 (fun w' => w'.cell? ⟨q, 0, none⟩ = some (.string ⟨#[]⟩) ∧ w'.cell? ⟨q, 1, none⟩ = some (.string ⟨#[]⟩) ∧ w'.cell? ⟨q, 2, none⟩ = some (.int .i64 200) ∧ w'.cell? ⟨q, 3, none⟩ = some (.string ⟨#[]⟩) ∧ w'.cell? ⟨q, 4, none⟩ = some (.int .i64 0) ∧ w'.cell? ⟨q, 5, none⟩ = some (.slice (some fa) 1 1) ∧ w'.cell? ⟨q, 6, none⟩ = some (.slice none 0 0) ∧ w'.cell? ⟨q, 7, none⟩ = some (.int .i64 1000) ∧ w'.cell? ⟨q, 8, none⟩ = some (.int .i64 1000)) (go_keep)
    (first
      | (go_at_call 29; refine (kO.out _ ?_).mono ?_; (first | exact O.out | exact agO_drew O.out); rintro e w3 ⟨rfl, O, ce0, ce1, ce2, ce3, ce4, ce5, ce6, ce7, ce8⟩)
      | (go_at_call 27; refine (kA.out _ ?_).mono ?_; (first | exact O.out | exact agO_drew O.out); rintro e w3 ⟨rfl, O, ce0, ce1, ce2, ce3, ce4, ce5, ce6, ce7, ce8⟩)
      | (go_at_call 13; refine (kL.out _ ?_).mono ?_; (first | exact O.out | exact agO_drew O.out); rintro e w3 ⟨rfl, O, ce0, ce1, ce2, ce3, ce4, ce5, ce6, ce7, ce8⟩)
      | (go_at_call_of 28 (1030 : Int); refine (kJ.out _ ?_).mono ?_; (first | exact O.out | exact agO_drew O.out); rintro e w3 ⟨rfl, O, ce0, ce1, ce2, ce3, ce4, ce5, ce6, ce7, ce8⟩)
      | (go_at_call_of 28 (1060 : Int); refine (kK.out _ ?_).mono ?_; (first | exact O.out | exact agO_drew O.out); rintro e w3 ⟨rfl, O, ce0, ce1, ce2, ce3, ce4, ce5, ce6, ce7, ce8⟩))
  all_goals
    go_wp2_with fail
    go_ret
    exact ⟨rfl, bt' B1.out O.out.1⟩
end Go.Proofs.YtlhhcpbfjjhbfabDoor
