/- The contracts of PrintResponse, CopyRequest and CopyResponse. -/
import Derived.Test.YtenegcoapejbmaaGreatDoorBg
import Derived.Test.YtenegcoapejbmaaGreatDoorBa
namespace Go.Proofs.YtenegcoapejbmaaGreatDoor
open Go.RowKit
theorem statusAny (n : Int) (w : World) :
    Calls Tryz.prog 43 #[.int .i64 n] w fun e w' => e = .returned (.bool (goodS n)) ∧ w' = w := by
  by_cases a1 : 100 ≤ n
  · by_cases a2 : n ≤ 599
    · have H : Hid (goodS n = true) := by unfold Hid goodS; simp; omega
      have b2 : decide (n ≤ 599) = true := by simpa using a2
      have b1 : decide (100 ≤ n) = true := by simpa using a1
      go_enter Tryz.func43, Tryz.ntmps43
      go_wp2
      go_ret
      rw [H.out]
      exact ⟨rfl, rfl⟩
    · have b2 : decide (n ≤ 599) = false := by simpa using a2
      have b1 : decide (100 ≤ n) = true := by simpa using a1
      have H : Hid (goodS n = false) := by unfold Hid goodS; simp; omega
      go_enter Tryz.func43, Tryz.ntmps43
      go_wp2
      go_ret
      rw [H.out]
      exact ⟨rfl, rfl⟩
  · have b2 : decide (100 ≤ n) = false := by simpa using a1
    have H : Hid (goodS n = false) := by unfold Hid goodS; simp; omega
    go_enter Tryz.func43, Tryz.ntmps43
    go_wp2
    go_ret
    rw [H.out]
    exact ⟨rfl, rfl⟩
set_option maxRecDepth 20000 in
set_option maxHeartbeats 8000000 in
theorem printRsTok (s k : Int) (r : List UInt8) (fs : FL) (lv : Value) (w : World) (hv : HoldsF w lv fs) (T : Tab w) (hfit : Fit fs) (hl : fs.length ≤ 2000000) (hP : (printOf fs).length ≤ 10000000) (hr : r.length ≤ 10000000) :
    Calls Tryz.prog 19 #[.agg #[.int .i64 s, .string ⟨r.toArray⟩, .int .i64 k, lv]] w fun e w' => ∃ u, e = .returned (.tuple #[u, .int .i64 (prR ⟨s, r, k, fs⟩).2]) ∧ Own w u (prR ⟨s, r, k, fs⟩).1 w' := by
  obtain ⟨la, lc, lb, lo, hlv, _⟩ := holdsF_parts hv
  subst hlv
  have b0 := below_alloc' w (.cells #[.int .i64 s, .string ⟨r.toArray⟩, .int .i64 k, .slice la fs.length lc] 27)
  have hF : Four w.heap.size (w.alloc (.cells #[.int .i64 s, .string ⟨r.toArray⟩, .int .i64 k, .slice la fs.length lc] 27)) (.int .i64 s) (.string ⟨r.toArray⟩) (.int .i64 k) (.slice la fs.length lc) := ⟨by simp, by simp, by simp, by simp⟩
  have hg : w.heap.size < (w.alloc (.cells #[.int .i64 s, .string ⟨r.toArray⟩, .int .i64 k, .slice la fs.length lc] 27)).heap.size := by simp
  have hv0 := holdsF_mono hv b0
  have T0 := tab_below T b0
  have K1 := hide' (fun W => goodMinorTok k W)
  have K2 : Hid (∀ W, Calls Tryz.prog 41 #[.string ⟨r.toArray⟩, .func (.func 42) #[] #[]] W fun e w' => e = .returned (.bool (r.all txt)) ∧ w' = W) := fun W => everyTxt ⟨r.toArray⟩ W (by rw [size_l]; omega)
  have K3 := hide' (fun W => statusAny s W)
  obtain ⟨W0, hW0⟩ : ∃ W0, W0 = w.alloc (.cells #[.int .i64 s, .string ⟨r.toArray⟩, .int .i64 k, .slice la fs.length lc] 27) := ⟨_, rfl⟩
  have HW0 := hide' hW0
  rw [← hW0] at b0 hF hg hv0 T0
  have B0 := hide' b0
  have HV0 := hide' hv0
  have F0 := hide' hF
  have HT0 := hide' T0
  have HFIT := hide' hfit
  obtain ⟨g, hgg⟩ : ∃ g, g = w.heap.size := ⟨_, rfl⟩
  have HGG := hide' hgg
  rw [← hgg] at hF hg F0
  obtain ⟨c0, c1, c2, c3⟩ := hF
  have HG := hide' hg
  have HPP := hide' hP
  clear hv hW0 b0 hv0 T0 T hfit hgg hP
  go_enter Tryz.func19, Tryz.ntmps19
  go_wp2_with fail
  rw [← HW0.out, ← HGG.out]
  refine (K1.out _).mono ?_
  rintro e w9 ⟨rfl, ew⟩
  rw [ew]
  clear ew w9
  cases h1 : goodK k with
  | false =>
    have R' : Hid (prR ⟨s, r, k, fs⟩ = ([], 50)) := by unfold Hid prR; simp only [h1]; rfl
    clear h1
    go_wp2_with fail
    go_ret2
    exact ⟨.slice none 0 0, by rw [R'.out]; rfl, by rw [R'.out]; exact own_nil _ _ B0.out⟩
  | true =>
    have H1 := hide' h1
    clear h1
    go_wp2_with fail
    refine (K2.out _).mono ?_
    rintro e w9 ⟨rfl, ew⟩
    rw [ew]
    clear ew w9
    cases h2 : r.all txt with
    | false =>
      have R' : Hid (prR ⟨s, r, k, fs⟩ = ([], 50)) := by unfold Hid prR; simp only [h2, Bool.and_false]; rfl
      clear h2
      go_wp2_with fail
      go_ret2
      exact ⟨.slice none 0 0, by rw [R'.out]; rfl, by rw [R'.out]; exact own_nil _ _ B0.out⟩
    | true =>
      have H2 := hide' h2
      clear h2
      go_wp2_with fail
      refine (K3.out _).mono ?_
      rintro e w9 ⟨rfl, ew⟩
      rw [ew]
      clear ew w9
      cases h3 : goodS s with
      | false =>
        have R' : Hid (prR ⟨s, r, k, fs⟩ = ([], 53)) := by unfold Hid prR; simp only [H1.out, H2.out, h3]; rfl
        clear h3
        go_wp2_with fail
        go_ret2
        exact ⟨.slice none 0 0, by rw [R'.out]; rfl, by rw [R'.out]; exact own_nil _ _ B0.out⟩
      | true =>
        have R' : Hid (prR ⟨s, r, k, fs⟩ = wholeP (lineS ⟨s, r, k, fs⟩) fs) := by unfold Hid prR; simp only [H1.out, H2.out, h3]; rfl
        have hIk := itoa_minor k H1.out
        have hIs := itoa_status s h3
        have kb : 0 ≤ k ∧ k ≤ 1 := by have := H1.out; unfold goodK at this; simp at this; omega
        have sb : 100 ≤ s ∧ s ≤ 599 := by have := h3; unfold goodS at this; simpa using this
        have z1 : (⟨r.toArray⟩ : ByteArray).size = r.length := size_l r
        have z3 : (⟨#[32]⟩ : ByteArray).size = 1 := rfl
        have z4 : (⟨#[72, 84, 84, 80, 47, 49, 46]⟩ : ByteArray).size = 7 := rfl
        obtain ⟨I, hI⟩ : ∃ I : ByteArray, I = ⟨(Lib.itoa k).toArray⟩ := ⟨_, rfl⟩
        have hIl : I.data.toList = minD k := by rw [hI, hIk]
        have zI : I.size = 1 := by
          have : I.size = I.data.toList.length := by simp
          rw [this, hIl]; unfold minD; split <;> rfl
        obtain ⟨J, hJ⟩ : ∃ J : ByteArray, J = ⟨(Lib.itoa s).toArray⟩ := ⟨_, rfl⟩
        have hJl : J.data.toList = stD s := by rw [hJ, hIs]
        have zJ : J.size = 3 := by
          have : J.size = J.data.toList.length := by simp
          rw [this, hJl]; rfl
        obtain ⟨X1, a1, l1, s1⟩ := add_str ⟨#[72, 84, 84, 80, 47, 49, 46]⟩ I (by omega)
        obtain ⟨X2, a2, l2, s2⟩ := add_str X1 ⟨#[32]⟩ (by omega)
        obtain ⟨X3, a3, l3, s3⟩ := add_str X2 J (by omega)
        obtain ⟨X4, a4, l4, s4⟩ := add_str X3 ⟨#[32]⟩ (by omega)
        obtain ⟨X5, a5, l5, s5⟩ := add_str X4 ⟨r.toArray⟩ (by omega)
        have hX5 : X5.data.toList = lineS ⟨s, r, k, fs⟩ := by
          rw [l5, l4, l3, l2, l1, hIl, hJl]
          unfold lineS M7
          simp
        rw [← hX5] at R'
        have kI := hide' (fun W (hb : Below W0.heap.size W0 W) => (itoaTab k (by omega) (by omega) W (tab_below HT0.out hb)).mono (R' := fun e w' => e = .returned (.string I) ∧ Hid (Below W0.heap.size W0 w') ∧ Four g w' (.int .i64 s) (.string ⟨r.toArray⟩) (.int .i64 k) (.slice la fs.length lc)) (by
          rintro e w' ⟨rfl, b⟩
          exact ⟨by rw [hI], bt' hb b, four_below F0.out HG.out (bt' hb b)⟩))
        have kJ := hide' (fun W (hb : Below W0.heap.size W0 W) => (itoaTab s (by omega) (by omega) W (tab_below HT0.out hb)).mono (R' := fun e w' => e = .returned (.string J) ∧ Hid (Below W0.heap.size W0 w') ∧ Four g w' (.int .i64 s) (.string ⟨r.toArray⟩) (.int .i64 k) (.slice la fs.length lc)) (by
          rintro e w' ⟨rfl, b⟩
          exact ⟨by rw [hJ], bt' hb b, four_below F0.out HG.out (bt' hb b)⟩))
        have kP := hide' (fun W (hb : Below W0.heap.size W0 W) => (printedTok X5 (.slice la fs.length lc) fs W (holdsF_mono HV0.out hb) HFIT.out (by omega) (by have := HPP.out; omega) (by omega)).mono (R' := fun e w' => ∃ u, e = .returned (.tuple #[u, .int .i64 (wholeP X5.data.toList fs).2]) ∧ Hid (Own w u (wholeP X5.data.toList fs).1 w') ∧ Four g w' (.int .i64 s) (.string ⟨r.toArray⟩) (.int .i64 k) (.slice la fs.length lc)) (by
          rintro e w' ⟨u, rfl, ho⟩
          exact ⟨u, rfl, own_base ho (bt' B0.out hb), four_below F0.out HG.out (bt' hb ho.2)⟩))
        unfold Four at kI kJ kP
        clear l1 l2 l3 l4 l5 hX5 hIl hIk hI hJ hJl hIs h3 z1 kb sb
        generalize wholeP X5.data.toList fs = wp at kP R'
        generalize hM : (⟨r.toArray⟩ : ByteArray) = rr at kI kJ kP c1 a5 s5 ⊢
        have n1 : (rr.size : Int) ≤ 10000000 := by rw [← hM, size_l]; omega
        clear hM F0
        go_wp2_with fail
        go_region_held3 (fun w' => w'.cell? ⟨g, 0, none⟩ = some (.int .i64 s) ∧ w'.cell? ⟨g, 1, none⟩ = some (.string rr) ∧ w'.cell? ⟨g, 2, none⟩ = some (.int .i64 k) ∧ w'.cell? ⟨g, 3, none⟩ = some (.slice la fs.length lc)) (go_keep)
          (first
            | (go_at_call_of 45 (k); refine (kI.out _ ?_).mono ?_; (first | exact O2.out | exact (Below.refl _ _).drew | exact Below.refl _ _); rintro e w2 ⟨rfl, O2, k0, k1, k2, k3⟩)
            | (go_at_call_of 45 (s); refine (kJ.out _ ?_).mono ?_; (first | exact O2.out | exact (Below.refl _ _).drew | exact Below.refl _ _); rintro e w2 ⟨rfl, O2, k0, k1, k2, k3⟩)
            | (go_at_call 44; refine (kP.out _ O2.out).mono ?_; rintro e w3 ⟨u, rfl, O3, k4, k5, k6, k7⟩))
        all_goals
          go_wp2_with fail
          go_ret2
          exact ⟨u, by rw [R'.out]; rfl, by rw [R'.out]; exact O3.out⟩
end Go.Proofs.YtenegcoapejbmaaGreatDoor
