/- The document's whole, PrintRequest and PrintResponse. -/
import Derived.Test.YtenegcoapejbmaaGreatDoorBg
import Derived.Test.YtenegcoapejbmaaGreatDoorBm
import Derived.Test.YtenegcoapejbmaaGreatDoorBn
namespace Go.Proofs.YtenegcoapejbmaaGreatDoor
open Go.RowKit
set_option maxRecDepth 20000 in
set_option maxHeartbeats 4000000 in
theorem wholeRef (s : ByteArray) (v : Value) (fs : FL) (w : World) (hv : HoldsF w v fs) (hfit : Fit fs) (hl : fs.length ≤ 1000000000) (hP : (printOf fs).length ≤ 8000000) (hs : s.size ≤ 100000000) :
    Calls Tryz.prog 52 #[.string s, v] w fun e w' => ∃ u, e = .returned (.tuple #[u, .int .i64 (wholeP s.data.toList fs).2]) ∧ HoldsB w' u (wholeP s.data.toList fs).1 ∧ Below w.heap.size w w' := by
  have cP := hide' (printRef v fs w hv hfit (by omega) (by omega))
  have hpl := printP_len fs
  have hsl : s.data.toList.length = s.size := by simp
  have f1 := hide' (whole_err s.data.toList fs)
  have f2 := hide' (whole_long s.data.toList fs)
  have f3 := hide' (whole_good s.data.toList fs)
  rw [hsl] at f2 f3
  generalize printP fs = pp at cP hpl f1 f2 f3
  obtain ⟨pb, pe⟩ := pp
  simp only at cP hpl f1 f2 f3
  obtain ⟨ao, cap, b, off, e, _⟩ := holdsF_parts hv
  subst e
  have hpb : pb.length ≤ 100000000 := by omega
  have z2 : (⟨#[13, 10]⟩ : ByteArray).size = 2 := rfl
  obtain ⟨X, a1, l1, s1⟩ := add_str s ⟨#[13, 10]⟩ (by omega)
  have HSL := hide' hsl
  have L1 := hide' l1
  have n1 : (s.size : Int) ≤ 100000000 := by omega
  clear hv hfit hP hpl hsl l1
  go_enter Tryz.func52, Tryz.ntmps52
  go_wp2_with fail
  refine cP.out.mono ?_
  rintro e w1 ⟨u1, rfl, ho1⟩
  have B1 := hide' ho1.2
  have H1 := hide' (holdsB_own ho1)
  obtain ⟨a1', c1, hu1, _⟩ := holdsB_parts H1.out
  subst hu1
  clear ho1 cP
  by_cases g1 : pe = 0
  · subst g1
    obtain ⟨v2, w2, k2, o2⟩ := ownM_conv X w1
    have N2 := (show Below w1.heap.size w1 w2 from by obtain ⟨_, _, _, _, _, _, _, _, h⟩ := o2; exact h)
    obtain ⟨v3, w3, k3, o3⟩ := appM w2 w1 v2 _ X.data.toList pb 22 o2 (holdsB_mono H1.out N2) (by
      have h1 : X.data.toList.length = X.size := by simp
      omega)
    have b4 := below_alloc' w3 (.cells #[.int .u8 13, .int .u8 10] 5)
    have h4 : HoldsB (w3.alloc (.cells #[.int .u8 13, .int .u8 10] 5)) (.slice (some ⟨w3.heap.size, 0, none⟩) 2 2) [13, 10] := by
      refine ⟨_, 2, rfl, (fun e => by cases e), Nat.le_refl _, fun _ => ⟨w3.heap.size, 0, rfl, by simp, fun j hj => ?_⟩⟩
      match j, hj with
      | 0, _ => simp [B]
      | 1, _ => simp [B]
    have hXl : X.data.toList.length = s.size + 2 := by
      have h1 : X.data.toList.length = X.size := by simp
      omega
    obtain ⟨v5, w5, k5, o5⟩ := appM _ w1 v3 _ (X.data.toList ++ pb) [13, 10] 22 (ownM_mono o3 b4) h4 (by
      rw [List.length_append]
      simp only [List.length_cons, List.length_nil]
      omega)
    have E5 : X.data.toList ++ pb ++ [13, 10] = s.data.toList ++ 13 :: 10 :: (pb ++ [13, 10]) := by
      rw [L1.out]
      simp
    rw [E5] at o5
    obtain ⟨g5, c5, hv5, _⟩ := (show ∃ g c, v5 = .slice (some ⟨g, 0, none⟩) (s.data.toList ++ 13 :: 10 :: (pb ++ [13, 10])).length c ∧ True from by obtain ⟨g, c, e, _⟩ := o5; exact ⟨g, c, e, trivial⟩)
    have hlen : (s.data.toList ++ 13 :: 10 :: (pb ++ [13, 10])).length = s.size + pb.length + 4 := by
      have := HSL.out
      simp only [List.length_append, List.length_cons, List.length_nil]
      omega
    rw [hlen] at hv5
    subst hv5
    have HR3 := hide' k3
    have HR5 := hide' k5
    have O5 := hide' (ownM_holds (ownM_base o5 B1.out))
    have B5 := hide' (show Below w.heap.size w w5 from by obtain ⟨_, _, _, _, _, _, _, _, h⟩ := ownM_base o5 B1.out; exact h)
    have hp : s.size + pb.length + 4 ≤ 1000000000 := by omega
    clear o2 o3 o5 b4 h4 hXl E5 N2 k3 k5
    by_cases g2 : 8192 < s.size + pb.length + 4
    · have R' := hide' (f2.out (by first | rfl | trivial) g2)
      have t2 : decide ((8192 : Int) < ((s.size + pb.length + 4 : Nat) : Int)) = true := decide_eq_true (by omega)
      clear hlen
      generalize s.size + pb.length + 4 = M at g2 t2 hp O5 HR5
      go_wp2_with (at_builtin; first | (refine Lib.wpList_append_run _ rfl (.tmp 23) (.tmp 24) _ _ rfl _ _ rfl rfl _ w5 HR5.out ?_) | (refine Lib.wpList_append_run _ rfl (.tmp 20) (.tmp 21) _ _ rfl _ _ rfl rfl v3 w3 HR3.out ?_))
      go_ret2
      exact ⟨.slice none 0 0, by rw [R'.out]; rfl, by rw [R'.out]; exact holdsB_own (own_nil w5 w5 (Below.refl _ _)), B5.out⟩
    · have R' := hide' (f3.out (by first | rfl | trivial) g2)
      have t2 : decide ((8192 : Int) < ((s.size + pb.length + 4 : Nat) : Int)) = false := decide_eq_false (by omega)
      clear hlen
      generalize s.size + pb.length + 4 = M at g2 t2 hp O5 HR5
      go_wp2_with (at_builtin; first | (refine Lib.wpList_append_run _ rfl (.tmp 23) (.tmp 24) _ _ rfl _ _ rfl rfl _ w5 HR5.out ?_) | (refine Lib.wpList_append_run _ rfl (.tmp 20) (.tmp 21) _ _ rfl _ _ rfl rfl v3 w3 HR3.out ?_))
      go_ret2
      exact ⟨.slice (some ⟨g5, 0, none⟩) M c5, by rw [R'.out]; rfl, by rw [R'.out]; exact O5.out, B5.out⟩
  · have t1 : (pe != 0) = true := by simpa using g1
    have R' := hide' (f1.out g1)
    clear g1
    go_wp2_with fail
    go_ret2
    exact ⟨.slice none 0 0, by rw [R'.out]; rfl, by rw [R'.out]; exact holdsB_own (own_nil w1 w1 (Below.refl _ _)), B1.out⟩
set_option maxRecDepth 20000 in
set_option maxHeartbeats 8000000 in
theorem printRsRef (s k : Int) (r : List UInt8) (fs : FL) (lv : Value) (w : World) (hv : HoldsF w lv fs) (hfit : Fit fs) (hl : fs.length ≤ 2000000) (hP : (printOf fs).length ≤ 8000000) (hr : r.length ≤ 10000000) :
    Calls Tryz.prog 33 #[.agg #[.int .i64 s, .string ⟨r.toArray⟩, .int .i64 k, lv]] w fun e w' => ∃ u, e = .returned (.tuple #[u, .int .i64 (prR ⟨s, r, k, fs⟩).2]) ∧ HoldsB w' u (prR ⟨s, r, k, fs⟩).1 ∧ Below w.heap.size w w' := by
  obtain ⟨la, lc, lb, lo, hlv, _⟩ := holdsF_parts hv
  subst hlv
  have b0 := below_alloc' w (.cells #[.int .i64 s, .string ⟨r.toArray⟩, .int .i64 k, .slice la fs.length lc] 27)
  have hF : Four w.heap.size (w.alloc (.cells #[.int .i64 s, .string ⟨r.toArray⟩, .int .i64 k, .slice la fs.length lc] 27)) (.int .i64 s) (.string ⟨r.toArray⟩) (.int .i64 k) (.slice la fs.length lc) := ⟨by simp, by simp, by simp, by simp⟩
  have hg : w.heap.size < (w.alloc (.cells #[.int .i64 s, .string ⟨r.toArray⟩, .int .i64 k, .slice la fs.length lc] 27)).heap.size := by simp
  have hv0 := holdsF_mono hv b0
  have K2 : Hid (∀ W, Calls Tryz.prog 30 #[.string ⟨r.toArray⟩] W fun e w' => e = .returned (.bool (r.all txt)) ∧ w' = W) := fun W => textsRef ⟨r.toArray⟩ (by rw [size_l]; omega) W
  obtain ⟨W0, hW0⟩ : ∃ W0, W0 = w.alloc (.cells #[.int .i64 s, .string ⟨r.toArray⟩, .int .i64 k, .slice la fs.length lc] 27) := ⟨_, rfl⟩
  have HW0 := hide' hW0
  rw [← hW0] at b0 hF hg hv0
  have B0 := hide' b0
  have HV0 := hide' hv0
  have F0 := hide' hF
  have HFIT := hide' hfit
  obtain ⟨g, hgg⟩ : ∃ g, g = w.heap.size := ⟨_, rfl⟩
  have HGG := hide' hgg
  rw [← hgg] at hF hg F0
  obtain ⟨c0, c1, c2, c3⟩ := hF
  have HG := hide' hg
  have HPP := hide' hP
  clear hv hW0 b0 hv0 hfit hgg hP
  cases h1 : goodK k with
  | false =>
    have R' : Hid (prR ⟨s, r, k, fs⟩ = ([], 50)) := by unfold Hid prR; simp only [h1]; rfl
    have t0 : (k != 0) = true := by unfold goodK at h1; simp at h1 ⊢; omega
    have t1 : (k != 1) = true := by unfold goodK at h1; simp at h1 ⊢; omega
    clear h1
    go_enter Tryz.func33, Tryz.ntmps33
    go_wp2_with fail
    rw [← HW0.out]
    go_ret2
    exact ⟨.slice none 0 0, by rw [R'.out]; rfl, by rw [R'.out]; exact ⟨holdsB_own (own_nil _ _ (Below.refl _ W0)), B0.out⟩⟩
  | true =>
    have H1 := hide' h1
    have key : ((k != 0) = false) ∨ ((k != 0) = true ∧ (k != 1) = false) := by
      unfold goodK at h1
      simp at h1 ⊢
      omega
    clear h1
    go_enter Tryz.func33, Tryz.ntmps33
    rcases key with t0 | ⟨t0, t1⟩
    · go_wp2_with fail
      rw [← HW0.out, ← HGG.out]
      refine (K2.out _).mono ?_
      rintro e w9 ⟨rfl, ew⟩
      rw [ew]
      clear ew w9
      cases h2 : r.all txt with
      | false =>
        have R' : Hid (prR ⟨s, r, k, fs⟩ = ([], 50)) := by unfold Hid prR; simp only [h2, Bool.and_false]; rfl
        clear h2
        go_wp2_with fail
        go_ret2
        exact ⟨.slice none 0 0, by rw [R'.out]; rfl, by rw [R'.out]; exact ⟨holdsB_own (own_nil _ _ (Below.refl _ W0)), B0.out⟩⟩
      | true =>
        have H2 := hide' h2
        clear h2
        cases h3 : goodS s with
        | false =>
          have R' : Hid (prR ⟨s, r, k, fs⟩ = ([], 53)) := by unfold Hid prR; simp only [H1.out, H2.out, h3]; rfl
          by_cases q1 : s < 100
          · have t5 : decide (s < 100) = true := by simpa using q1
            clear h3 q1
            go_wp2_with fail
            go_ret2
            exact ⟨.slice none 0 0, by rw [R'.out]; rfl, by rw [R'.out]; exact ⟨holdsB_own (own_nil _ _ (Below.refl _ W0)), B0.out⟩⟩
          · have t5 : decide (s < 100) = false := by simpa using q1
            have t6 : decide (599 < s) = true := by unfold goodS at h3; simp at h3 ⊢; omega
            clear h3 q1
            go_wp2_with fail
            go_ret2
            exact ⟨.slice none 0 0, by rw [R'.out]; rfl, by rw [R'.out]; exact ⟨holdsB_own (own_nil _ _ (Below.refl _ W0)), B0.out⟩⟩
        | true =>
          have R' : Hid (prR ⟨s, r, k, fs⟩ = wholeP (lineS ⟨s, r, k, fs⟩) fs) := by unfold Hid prR; simp only [H1.out, H2.out, h3]; rfl
          have hIk := itoa_minor k H1.out
          have hIs := itoa_status s h3
          have kb : 0 ≤ k ∧ k ≤ 1 := by have := H1.out; unfold goodK at this; simp at this; omega
          have sb : 100 ≤ s ∧ s ≤ 599 := by have := h3; unfold goodS at this; simpa using this
          have z1 : (⟨r.toArray⟩ : ByteArray).size = r.length := size_l r
          have z3 : (⟨#[32]⟩ : ByteArray).size = 1 := rfl
          have z4 : (⟨#[72, 84, 84, 80, 47, 49, 46]⟩ : ByteArray).size = 7 := rfl
          obtain ⟨I, hI⟩ : ∃ I : ByteArray, I = ⟨(Lib.itoa k).toArray⟩ := ⟨_, rfl⟩
          have hIl : I.data.toList = minD k := by rw [hI, hIk]
          have zI : I.size = 1 := by
            have : I.size = I.data.toList.length := by simp
            rw [this, hIl]; unfold minD; split <;> rfl
          obtain ⟨J, hJ⟩ : ∃ J : ByteArray, J = ⟨(Lib.itoa s).toArray⟩ := ⟨_, rfl⟩
          have hJl : J.data.toList = stD s := by rw [hJ, hIs]
          have zJ : J.size = 3 := by
            have : J.size = J.data.toList.length := by simp
            rw [this, hJl]; rfl
          obtain ⟨X1, a1, l1, s1⟩ := add_str ⟨#[72, 84, 84, 80, 47, 49, 46]⟩ I (by omega)
          obtain ⟨X2, a2, l2, s2⟩ := add_str X1 ⟨#[32]⟩ (by omega)
          obtain ⟨X3, a3, l3, s3⟩ := add_str X2 J (by omega)
          obtain ⟨X4, a4, l4, s4⟩ := add_str X3 ⟨#[32]⟩ (by omega)
          obtain ⟨X5, a5, l5, s5⟩ := add_str X4 ⟨r.toArray⟩ (by omega)
          have hX5 : X5.data.toList = lineS ⟨s, r, k, fs⟩ := by
            rw [l5, l4, l3, l2, l1, hIl, hJl]
            unfold lineS M7
            simp
          rw [← hX5] at R'
          have kI := hide' (fun W (hb : Below W0.heap.size W0 W) => (showInt k (by omega) (by omega) W).mono (R' := fun e w' => e = .returned (.string I) ∧ Hid (Below W0.heap.size W0 w') ∧ Four g w' (.int .i64 s) (.string ⟨r.toArray⟩) (.int .i64 k) (.slice la fs.length lc)) (by
            rintro e w' ⟨rfl, b⟩
            exact ⟨by rw [hI], bt' hb b, four_below F0.out HG.out (bt' hb b)⟩))
          have kJ := hide' (fun W (hb : Below W0.heap.size W0 W) => (showInt s (by omega) (by omega) W).mono (R' := fun e w' => e = .returned (.string J) ∧ Hid (Below W0.heap.size W0 w') ∧ Four g w' (.int .i64 s) (.string ⟨r.toArray⟩) (.int .i64 k) (.slice la fs.length lc)) (by
            rintro e w' ⟨rfl, b⟩
            exact ⟨by rw [hJ], bt' hb b, four_below F0.out HG.out (bt' hb b)⟩))
          have kP := hide' (fun W (hb : Below W0.heap.size W0 W) => (wholeRef X5 (.slice la fs.length lc) fs W (holdsF_mono HV0.out hb) HFIT.out (by omega) (by have := HPP.out; omega) (by omega)).mono (R' := fun e w' => ∃ u, e = .returned (.tuple #[u, .int .i64 (wholeP X5.data.toList fs).2]) ∧ Hid (HoldsB w' u (wholeP X5.data.toList fs).1 ∧ Below w.heap.size w w') ∧ Four g w' (.int .i64 s) (.string ⟨r.toArray⟩) (.int .i64 k) (.slice la fs.length lc)) (by
            rintro e w' ⟨u, rfl, ho, b⟩
            exact ⟨u, rfl, ⟨ho, bt' B0.out (bt' hb b)⟩, four_below F0.out HG.out (bt' hb b)⟩))
          unfold Four at kI kJ kP
          clear l1 l2 l3 l4 l5 hX5 hIl hIk hI hJ hJl hIs h3 z1 kb
          generalize wholeP X5.data.toList fs = wp at kP R'
          generalize hM : (⟨r.toArray⟩ : ByteArray) = rr at kI kJ kP c1 a5 s5 ⊢
          have n1 : (rr.size : Int) ≤ 10000000 := by rw [← hM, size_l]; omega
          clear hM F0
          have t5 : decide (s < 100) = false := by simp; omega
          have t6 : decide (599 < s) = false := by simp; omega
          clear sb
          go_wp2_with fail
          go_region_held3 (fun w' => w'.cell? ⟨g, 0, none⟩ = some (.int .i64 s) ∧ w'.cell? ⟨g, 1, none⟩ = some (.string rr) ∧ w'.cell? ⟨g, 2, none⟩ = some (.int .i64 k) ∧ w'.cell? ⟨g, 3, none⟩ = some (.slice la fs.length lc)) (go_keep)
            (first
              | (go_at_call_of 53 (k); refine (kI.out _ ?_).mono ?_; (first | exact O2.out | exact (Below.refl _ _).drew | exact Below.refl _ _); rintro e w2 ⟨rfl, O2, k0, k1, k2, k3⟩)
              | (go_at_call_of 53 (s); refine (kJ.out _ ?_).mono ?_; (first | exact O2.out | exact (Below.refl _ _).drew | exact Below.refl _ _); rintro e w2 ⟨rfl, O2, k0, k1, k2, k3⟩)
              | (go_at_call 52; refine (kP.out _ O2.out).mono ?_; rintro e w3 ⟨u, rfl, O3, k4, k5, k6, k7⟩))
          all_goals
            go_wp2_with fail
            go_ret2
            exact ⟨u, by rw [R'.out]; rfl, by rw [R'.out]; exact O3.out⟩
    · go_wp2_with fail
      rw [← HW0.out, ← HGG.out]
      refine (K2.out _).mono ?_
      rintro e w9 ⟨rfl, ew⟩
      rw [ew]
      clear ew w9
      cases h2 : r.all txt with
      | false =>
        have R' : Hid (prR ⟨s, r, k, fs⟩ = ([], 50)) := by unfold Hid prR; simp only [h2, Bool.and_false]; rfl
        clear h2
        go_wp2_with fail
        go_ret2
        exact ⟨.slice none 0 0, by rw [R'.out]; rfl, by rw [R'.out]; exact ⟨holdsB_own (own_nil _ _ (Below.refl _ W0)), B0.out⟩⟩
      | true =>
        have H2 := hide' h2
        clear h2
        cases h3 : goodS s with
        | false =>
          have R' : Hid (prR ⟨s, r, k, fs⟩ = ([], 53)) := by unfold Hid prR; simp only [H1.out, H2.out, h3]; rfl
          by_cases q1 : s < 100
          · have t5 : decide (s < 100) = true := by simpa using q1
            clear h3 q1
            go_wp2_with fail
            go_ret2
            exact ⟨.slice none 0 0, by rw [R'.out]; rfl, by rw [R'.out]; exact ⟨holdsB_own (own_nil _ _ (Below.refl _ W0)), B0.out⟩⟩
          · have t5 : decide (s < 100) = false := by simpa using q1
            have t6 : decide (599 < s) = true := by unfold goodS at h3; simp at h3 ⊢; omega
            clear h3 q1
            go_wp2_with fail
            go_ret2
            exact ⟨.slice none 0 0, by rw [R'.out]; rfl, by rw [R'.out]; exact ⟨holdsB_own (own_nil _ _ (Below.refl _ W0)), B0.out⟩⟩
        | true =>
          have R' : Hid (prR ⟨s, r, k, fs⟩ = wholeP (lineS ⟨s, r, k, fs⟩) fs) := by unfold Hid prR; simp only [H1.out, H2.out, h3]; rfl
          have hIk := itoa_minor k H1.out
          have hIs := itoa_status s h3
          have kb : 0 ≤ k ∧ k ≤ 1 := by have := H1.out; unfold goodK at this; simp at this; omega
          have sb : 100 ≤ s ∧ s ≤ 599 := by have := h3; unfold goodS at this; simpa using this
          have z1 : (⟨r.toArray⟩ : ByteArray).size = r.length := size_l r
          have z3 : (⟨#[32]⟩ : ByteArray).size = 1 := rfl
          have z4 : (⟨#[72, 84, 84, 80, 47, 49, 46]⟩ : ByteArray).size = 7 := rfl
          obtain ⟨I, hI⟩ : ∃ I : ByteArray, I = ⟨(Lib.itoa k).toArray⟩ := ⟨_, rfl⟩
          have hIl : I.data.toList = minD k := by rw [hI, hIk]
          have zI : I.size = 1 := by
            have : I.size = I.data.toList.length := by simp
            rw [this, hIl]; unfold minD; split <;> rfl
          obtain ⟨J, hJ⟩ : ∃ J : ByteArray, J = ⟨(Lib.itoa s).toArray⟩ := ⟨_, rfl⟩
          have hJl : J.data.toList = stD s := by rw [hJ, hIs]
          have zJ : J.size = 3 := by
            have : J.size = J.data.toList.length := by simp
            rw [this, hJl]; rfl
          obtain ⟨X1, a1, l1, s1⟩ := add_str ⟨#[72, 84, 84, 80, 47, 49, 46]⟩ I (by omega)
          obtain ⟨X2, a2, l2, s2⟩ := add_str X1 ⟨#[32]⟩ (by omega)
          obtain ⟨X3, a3, l3, s3⟩ := add_str X2 J (by omega)
          obtain ⟨X4, a4, l4, s4⟩ := add_str X3 ⟨#[32]⟩ (by omega)
          obtain ⟨X5, a5, l5, s5⟩ := add_str X4 ⟨r.toArray⟩ (by omega)
          have hX5 : X5.data.toList = lineS ⟨s, r, k, fs⟩ := by
            rw [l5, l4, l3, l2, l1, hIl, hJl]
            unfold lineS M7
            simp
          rw [← hX5] at R'
          have kI := hide' (fun W (hb : Below W0.heap.size W0 W) => (showInt k (by omega) (by omega) W).mono (R' := fun e w' => e = .returned (.string I) ∧ Hid (Below W0.heap.size W0 w') ∧ Four g w' (.int .i64 s) (.string ⟨r.toArray⟩) (.int .i64 k) (.slice la fs.length lc)) (by
            rintro e w' ⟨rfl, b⟩
            exact ⟨by rw [hI], bt' hb b, four_below F0.out HG.out (bt' hb b)⟩))
          have kJ := hide' (fun W (hb : Below W0.heap.size W0 W) => (showInt s (by omega) (by omega) W).mono (R' := fun e w' => e = .returned (.string J) ∧ Hid (Below W0.heap.size W0 w') ∧ Four g w' (.int .i64 s) (.string ⟨r.toArray⟩) (.int .i64 k) (.slice la fs.length lc)) (by
            rintro e w' ⟨rfl, b⟩
            exact ⟨by rw [hJ], bt' hb b, four_below F0.out HG.out (bt' hb b)⟩))
          have kP := hide' (fun W (hb : Below W0.heap.size W0 W) => (wholeRef X5 (.slice la fs.length lc) fs W (holdsF_mono HV0.out hb) HFIT.out (by omega) (by have := HPP.out; omega) (by omega)).mono (R' := fun e w' => ∃ u, e = .returned (.tuple #[u, .int .i64 (wholeP X5.data.toList fs).2]) ∧ Hid (HoldsB w' u (wholeP X5.data.toList fs).1 ∧ Below w.heap.size w w') ∧ Four g w' (.int .i64 s) (.string ⟨r.toArray⟩) (.int .i64 k) (.slice la fs.length lc)) (by
            rintro e w' ⟨u, rfl, ho, b⟩
            exact ⟨u, rfl, ⟨ho, bt' B0.out (bt' hb b)⟩, four_below F0.out HG.out (bt' hb b)⟩))
          unfold Four at kI kJ kP
          clear l1 l2 l3 l4 l5 hX5 hIl hIk hI hJ hJl hIs h3 z1 kb
          generalize wholeP X5.data.toList fs = wp at kP R'
          generalize hM : (⟨r.toArray⟩ : ByteArray) = rr at kI kJ kP c1 a5 s5 ⊢
          have n1 : (rr.size : Int) ≤ 10000000 := by rw [← hM, size_l]; omega
          clear hM F0
          have t5 : decide (s < 100) = false := by simp; omega
          have t6 : decide (599 < s) = false := by simp; omega
          clear sb
          go_wp2_with fail
          go_region_held3 (fun w' => w'.cell? ⟨g, 0, none⟩ = some (.int .i64 s) ∧ w'.cell? ⟨g, 1, none⟩ = some (.string rr) ∧ w'.cell? ⟨g, 2, none⟩ = some (.int .i64 k) ∧ w'.cell? ⟨g, 3, none⟩ = some (.slice la fs.length lc)) (go_keep)
            (first
              | (go_at_call_of 53 (k); refine (kI.out _ ?_).mono ?_; (first | exact O2.out | exact (Below.refl _ _).drew | exact Below.refl _ _); rintro e w2 ⟨rfl, O2, k0, k1, k2, k3⟩)
              | (go_at_call_of 53 (s); refine (kJ.out _ ?_).mono ?_; (first | exact O2.out | exact (Below.refl _ _).drew | exact Below.refl _ _); rintro e w2 ⟨rfl, O2, k0, k1, k2, k3⟩)
              | (go_at_call 52; refine (kP.out _ O2.out).mono ?_; rintro e w3 ⟨u, rfl, O3, k4, k5, k6, k7⟩))
          all_goals
            go_wp2_with fail
            go_ret2
            exact ⟨u, by rw [R'.out]; rfl, by rw [R'.out]; exact O3.out⟩
end Go.Proofs.YtenegcoapejbmaaGreatDoor
