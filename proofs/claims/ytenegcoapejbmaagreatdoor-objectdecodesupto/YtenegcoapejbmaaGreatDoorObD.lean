/- An entry: nine values, a block of nine cells; the contract of object.withinLimits. -/
import Derived.Test.YtenegcoapejbmaaGreatDoorObC
import Derived.Test.YtenegcoapejbmaaGreatDoorBf
import Derived.Test.YtenegcoapejbmaaGreatDoorBa
namespace Go.Proofs.YtenegcoapejbmaaGreatDoor
open Go.RowKit
theorem cells_nine {b : Nat} {W : World} {v0 v1 v2 v3 v4 v5 v6 v7 v8 : Value} (h : Blk b W [v0, v1, v2, v3, v4, v5, v6, v7, v8]) : (W.cell? ⟨b, 0, none⟩ = some v0 ∧ W.cell? ⟨b, 1, none⟩ = some v1 ∧ W.cell? ⟨b, 2, none⟩ = some v2 ∧ W.cell? ⟨b, 3, none⟩ = some v3 ∧ W.cell? ⟨b, 4, none⟩ = some v4 ∧ W.cell? ⟨b, 5, none⟩ = some v5 ∧ W.cell? ⟨b, 6, none⟩ = some v6 ∧ W.cell? ⟨b, 7, none⟩ = some v7 ∧ W.cell? ⟨b, 8, none⟩ = some v8) ∧ (W.frozen? ⟨b, 0, none⟩ = false ∧ W.frozen? ⟨b, 1, none⟩ = false ∧ W.frozen? ⟨b, 2, none⟩ = false ∧ W.frozen? ⟨b, 3, none⟩ = false ∧ W.frozen? ⟨b, 4, none⟩ = false ∧ W.frozen? ⟨b, 5, none⟩ = false ∧ W.frozen? ⟨b, 6, none⟩ = false ∧ W.frozen? ⟨b, 7, none⟩ = false ∧ W.frozen? ⟨b, 8, none⟩ = false) :=
  ⟨⟨(h.1 0 (by simp)).1, (h.1 1 (by simp)).1, (h.1 2 (by simp)).1, (h.1 3 (by simp)).1, (h.1 4 (by simp)).1, (h.1 5 (by simp)).1, (h.1 6 (by simp)).1, (h.1 7 (by simp)).1, (h.1 8 (by simp)).1⟩, ⟨(h.1 0 (by simp)).2, (h.1 1 (by simp)).2, (h.1 2 (by simp)).2, (h.1 3 (by simp)).2, (h.1 4 (by simp)).2, (h.1 5 (by simp)).2, (h.1 6 (by simp)).2, (h.1 7 (by simp)).2, (h.1 8 (by simp)).2⟩⟩
theorem put_nine (b : Nat) (W : World) (v0 v1 v2 v3 v4 v5 v6 v7 v8 : Value) : putFrom b 0 W [v0, v1, v2, v3, v4, v5, v6, v7, v8] = (((((((((W.setCell ⟨b, 0, none⟩ v0).setCell ⟨b, 1, none⟩ v1).setCell ⟨b, 2, none⟩ v2).setCell ⟨b, 3, none⟩ v3).setCell ⟨b, 4, none⟩ v4).setCell ⟨b, 5, none⟩ v5).setCell ⟨b, 6, none⟩ v6).setCell ⟨b, 7, none⟩ v7).setCell ⟨b, 8, none⟩ v8) := rfl
/-- an entry as a value -/
def entV (e : En) (lv bv : Value) : Value := .agg #[.string ⟨e.key.toArray⟩, .string ⟨e.vary.toArray⟩, .int .i64 e.r.s, .string ⟨e.r.r.toArray⟩, .int .i64 e.r.k, lv, bv, .int .i64 e.a, .int .i64 e.g]
def entL (e : En) (lv bv : Value) : List Value := [.string ⟨e.key.toArray⟩, .string ⟨e.vary.toArray⟩, .int .i64 e.r.s, .string ⟨e.r.r.toArray⟩, .int .i64 e.r.k, lv, bv, .int .i64 e.a, .int .i64 e.g]
theorem within_1 {e : En} (h : decide (1 ≤ e.key.length) = false) : withinL e = false := by unfold withinL; rw [h]; rfl
theorem within_2 {e : En} (h : decide (e.key.length ≤ 4096) = false) : withinL e = false := by unfold withinL; rw [h]; simp
theorem within_3 {e : En} (h : decide (e.vary.length ≤ 4096) = false) : withinL e = false := by unfold withinL; rw [h]; simp
theorem within_4 {e : En} (h : decide (e.body.length ≤ 65536) = false) : withinL e = false := by unfold withinL; rw [h]; simp
theorem within_5 {e : En} (h : goodTm e.a = false) : withinL e = false := by unfold withinL; rw [h]; simp
theorem within_6 {e : En} (h : goodTm e.g = false) : withinL e = false := by unfold withinL; rw [h]; simp
theorem within_7 {e : En} (h1 : decide (1 ≤ e.key.length) = true) (h2 : decide (e.key.length ≤ 4096) = true) (h3 : decide (e.vary.length ≤ 4096) = true) (h4 : decide (e.body.length ≤ 65536) = true) (h5 : goodTm e.a = true) (h6 : goodTm e.g = true) : withinL e = true := by
  unfold withinL; rw [h1, h2, h3, h4, h5, h6]; rfl
set_option maxRecDepth 20000 in
set_option maxHeartbeats 4000000 in
theorem withinC (e : En) (lv bv : Value) (w : World) (hF : HoldsF w lv e.r.fs) (hB : HoldsB w bv e.body) (hk : e.key.length ≤ 1000000000000) (hv : e.vary.length ≤ 1000000000000) (hb : e.body.length ≤ 1000000000000) :
    Calls Tryz.prog 18 #[entV e lv bv] w fun x w' => x = .returned (.bool (withinL e)) ∧ Below w.heap.size w w' := by
  obtain ⟨la, lc, _, _, e1, _⟩ := holdsF_parts hF
  obtain ⟨ba, bc, e2, _⟩ := holdsB_parts hB
  subst e1 e2
  obtain ⟨R, hR⟩ : ∃ R, R = withinL e := ⟨_, rfl⟩
  rw [← hR]
  have f1 := hide' (fun h => hR.trans (within_1 (e := e) h))
  have f2 := hide' (fun h => hR.trans (within_2 (e := e) h))
  have f3 := hide' (fun h => hR.trans (within_3 (e := e) h))
  have f4 := hide' (fun h => hR.trans (within_4 (e := e) h))
  have f5 := hide' (fun h => hR.trans (within_5 (e := e) h))
  have f6 := hide' (fun h => hR.trans (within_6 (e := e) h))
  have f7 := hide' (fun h1 h2 h3 h4 h5 h6 => hR.trans (within_7 (e := e) h1 h2 h3 h4 h5 h6))
  have c1 := hide' (fun W => isTimeC e.a W)
  have c2 := hide' (fun W => isTimeC e.g W)
  unfold entV
  obtain ⟨key, vary, ⟨s, r, k, fs⟩, body, a, g⟩ := e
  dsimp only at *
  have sk : (⟨key.toArray⟩ : ByteArray).size = key.length := size_l key
  have sv : (⟨vary.toArray⟩ : ByteArray).size = vary.length := size_l vary
  clear hR hF hB
  have BB := hide' (below_alloc' w (.cells #[.string ⟨key.toArray⟩, .string ⟨vary.toArray⟩, .int .i64 s, .string ⟨r.toArray⟩, .int .i64 k, .slice la fs.length lc, .slice ba body.length bc, .int .i64 a, .int .i64 g] 29))
  by_cases q1 : key = []
  · have EQ : Hid (R = false) := f1.out (by rw [q1]; rfl)
    have ke : key.isEmpty = true := by rw [q1]; rfl
    clear q1
    go_enter Tryz.func18, Tryz.ntmps18
    go_wp2_with fail
    go_ret
    rw [EQ.out]
    exact ⟨rfl, BB.out⟩
  have ke : key.isEmpty = false := by cases key with | nil => exact absurd rfl q1 | cons _ _ => rfl
  have d1 : Hid (decide (1 ≤ key.length) = true) := by unfold Hid; simp; cases key with | nil => exact absurd rfl q1 | cons _ _ => simp
  clear q1
  by_cases q2 : ¬ key.length ≤ 4096
  · have EQ : Hid (R = false) := f2.out (by simpa using q2)
    have q2d : decide ((key.length : Int) ≤ 4096) = false := by simp; omega
    clear q2
    go_enter Tryz.func18, Tryz.ntmps18
    go_wp2_with fail
    go_ret
    rw [EQ.out]
    exact ⟨rfl, BB.out⟩
  have q2d : decide ((key.length : Int) ≤ 4096) = true := by simp; omega
  have d2 : Hid (decide (key.length ≤ 4096) = true) := by unfold Hid; simp; omega
  clear q2
  by_cases q3 : ¬ vary.length ≤ 4096
  · have EQ : Hid (R = false) := f3.out (by simpa using q3)
    have q3d : decide ((vary.length : Int) ≤ 4096) = false := by simp; omega
    clear q3
    go_enter Tryz.func18, Tryz.ntmps18
    go_wp2_with fail
    go_ret
    rw [EQ.out]
    exact ⟨rfl, BB.out⟩
  have q3d : decide ((vary.length : Int) ≤ 4096) = true := by simp; omega
  have d3 : Hid (decide (vary.length ≤ 4096) = true) := by unfold Hid; simp; omega
  clear q3
  by_cases q4 : ¬ body.length ≤ 65536
  · have EQ : Hid (R = false) := f4.out (by simpa using q4)
    have q4d : decide ((body.length : Int) ≤ 65536) = false := by simp; omega
    clear q4
    go_enter Tryz.func18, Tryz.ntmps18
    go_wp2_with fail
    go_ret
    rw [EQ.out]
    exact ⟨rfl, BB.out⟩
  have q4d : decide ((body.length : Int) ≤ 65536) = true := by simp; omega
  have d4 : Hid (decide (body.length ≤ 65536) = true) := by unfold Hid; simp; omega
  clear q4
  go_enter Tryz.func18, Tryz.ntmps18
  go_wp2_with fail
  refine (c1.out _).mono ?_
  rintro x w9 ⟨rfl, ew⟩
  rw [ew]
  clear ew w9
  cases h5 : goodTm a with
  | false =>
    have EQ : Hid (R = false) := f5.out h5
    clear h5
    go_wp2_with fail
    go_ret
    rw [EQ.out]
    exact ⟨rfl, BB.out⟩
  | true =>
    have H5 := hide' h5
    clear h5
    go_wp2_with fail
    refine (c2.out _).mono ?_
    rintro x w9 ⟨rfl, ew⟩
    rw [ew]
    clear ew w9
    cases h6 : goodTm g with
    | false =>
      have EQ : Hid (R = false) := f6.out h6
      clear h6
      go_wp2_with fail
      go_ret
      rw [EQ.out]
      exact ⟨rfl, BB.out⟩
    | true =>
      have EQ : Hid (R = true) := f7.out d1.out d2.out d3.out d4.out H5.out h6
      clear h6
      go_wp2_with fail
      go_ret
      rw [EQ.out]
      exact ⟨rfl, BB.out⟩
end Go.Proofs.YtenegcoapejbmaaGreatDoor
