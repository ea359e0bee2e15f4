/- The contract of object.timesOf. The contracts of PrintResponse, CopyRequest and CopyResponse. The contract of object.Encode. -/
import Derived.Deep.RegionHeld3
import Derived.Lib.SlBytesConst
import Derived.Test.YtibjcofbhldenaaGreatDoorZ12
import Derived.Test.YtibjcofbhldenaaGreatDoorZ24
import Derived.Test.YtibjcofbhldenaaGreatDoorZ03
import Derived.Test.YtibjcofbhldenaaGreatDoorZ18
namespace Go.Proofs.YtibjcofbhldenaaGreatDoor
open Go.RowKit
set_option maxRecDepth 20000 in
set_option maxHeartbeats 4000000 in
theorem timesC (e : En) (a g : Nat) (lv bv : Value) (w : World) (hF : HoldsF w lv e.r.fs) (hB : HoldsB w bv e.body) (ha : (a : Int) = e.a) (hg : (g : Int) = e.g) :
    Calls Tryz.prog 112 #[entV e lv bv] w fun x w' => ∃ u, x = .returned u ∧ Own w u (beN 8 a ++ beN 8 g) w' := by
  obtain ⟨la, lc, _, _, e1, _⟩ := holdsF_parts hF
  obtain ⟨ba, bc, e2, _⟩ := holdsB_parts hB
  subst e1 e2
  unfold entV
  obtain ⟨key, vary, ⟨s, r, k, fs⟩, body, a', g'⟩ := e
  dsimp only at *
  subst ha hg
  obtain ⟨W0, hW0⟩ : ∃ W0, W0 = w.alloc (.cells #[.string ⟨key.toArray⟩, .string ⟨vary.toArray⟩, .int .i64 s, .string ⟨r.toArray⟩, .int .i64 k, .slice la fs.length lc, .slice ba body.length bc, .int .i64 (a : Int), .int .i64 (g : Int)] 59) := ⟨_, rfl⟩
  have HW0 := hide' hW0
  have BB := below_alloc' w (.cells #[.string ⟨key.toArray⟩, .string ⟨vary.toArray⟩, .int .i64 s, .string ⟨r.toArray⟩, .int .i64 k, .slice la fs.length lc, .slice ba body.length bc, .int .i64 (a : Int), .int .i64 (g : Int)] 59)
  have QQ := cells_lit w #[.string ⟨key.toArray⟩, .string ⟨vary.toArray⟩, .int .i64 s, .string ⟨r.toArray⟩, .int .i64 k, .slice la fs.length lc, .slice ba body.length bc, .int .i64 (a : Int), .int .i64 (g : Int)] 59
  rw [← hW0] at BB QQ
  obtain ⟨q, hq⟩ : ∃ q, q = w.heap.size := ⟨_, rfl⟩
  have HQ := hide' hq
  have B0 := hide' BB
  rw [← hq] at QQ
  have hlt : Hid (q < W0.heap.size) := by unfold Hid; rw [hq, hW0]; simp
  have C0 : Hid (∀ W, Below W0.heap.size W0 W → W.cell? ⟨q, 7, none⟩ = some (.int .i64 (a : Int)) ∧ W.cell? ⟨q, 8, none⟩ = some (.int .i64 (g : Int))) := fun W hb => by
    have h := (cells_nine (cells_below QQ hb)).1
    exact ⟨h.2.2.2.2.2.2.2.1, h.2.2.2.2.2.2.2.2⟩
  have N1 : Hid (∀ W, Below W0.heap.size W0 W → Calls Tryz.prog 113 #[.slice none 0 0, .int .i64 (a : Int), .int .i64 8] W fun x w' => ∃ u, x = .returned u ∧ Hid (Own W0 u (beN 8 a) w') ∧ w'.cell? ⟨q, 7, none⟩ = some (.int .i64 (a : Int)) ∧ w'.cell? ⟨q, 8, none⟩ = some (.int .i64 (g : Int))) := fun W hb => by
    refine (appNumC (.slice none 0 0) [] W a 8 (rw_nil W) (by decide) (by decide)).mono ?_
    rintro x w' ⟨u, rfl, hr, hA⟩
    have hb2 : Below W.heap.size W w' := below_far hA.1 _ (Nat.le_refl _) (fun k e => by cases e)
    have hO : Own W0 u (beN 8 a) w' := own_rw hr (bt' hb hb2) (fun k e => by
      rcases hA.2 k e with h | h
      · cases h
      · have := hb.size; omega)
    exact ⟨u, rfl, hO, C0.out _ hO.2⟩
  have N2 : Hid (∀ W u, Hid (Own W0 u (beN 8 a) W) → Calls Tryz.prog 113 #[u, .int .i64 (g : Int), .int .i64 8] W fun x w' => ∃ u', x = .returned u' ∧ Hid (Own W0 u' (beN 8 a ++ beN 8 g) w') ∧ w'.cell? ⟨q, 7, none⟩ = some (.int .i64 (a : Int)) ∧ w'.cell? ⟨q, 8, none⟩ = some (.int .i64 (g : Int))) := fun W u ho => by
    refine (appNumC u (beN 8 a) W g 8 (rw_own ho.out) (by decide) (by rw [beN_len]; decide)).mono ?_
    rintro x w' ⟨u', rfl, hr, hA⟩
    have hlo := ho.out.1.lt
    have hb2 : Below W0.heap.size W0 w' := (ho.out.2).trans (below_far hA.1 _ ho.out.2.size (fun k e => (hlo k e).1))
    have hO : Own W0 u' (beN 8 a ++ beN 8 g) w' := own_rw hr hb2 (fun k e => by
      rcases hA.2 k e with h | h
      · exact (hlo k h).1
      · have := ho.out.2.size; omega)
    exact ⟨u', rfl, hO, C0.out _ hO.2⟩
  obtain ⟨c7, c8⟩ := C0.out W0 (Below.refl _ _)
  clear hW0 BB QQ hq hF hB C0
  go_enter Tryz.func112, Tryz.ntmps112
  go_wp2_with fail
  rw [← HW0.out, ← HQ.out]
  go_region_held3 (fun w' => w'.cell? ⟨q, 7, none⟩ = some (.int .i64 (a : Int)) ∧ w'.cell? ⟨q, 8, none⟩ = some (.int .i64 (g : Int))) (go_keep)
    (first
      | (go_at_call_of 113 (Value.slice none 0 0); refine (N1.out _ ?_).mono ?_; (first | exact (Below.refl _ _).drew | exact Below.refl _ _); rintro x w2 ⟨u1, rfl, O2, k0, k1⟩)
      | (go_at_call 113; refine (N2.out _ _ O2).mono ?_; rintro x w3 ⟨u2, rfl, O3, k2, k3⟩))
  all_goals
    go_wp2_with fail
    go_ret
    exact ⟨u2, rfl, own_base O3.out B0.out⟩
end Go.Proofs.YtibjcofbhldenaaGreatDoor
namespace Go.Proofs.YtibjcofbhldenaaGreatDoor
open Go.RowKit
theorem statusAny (n : Int) (w : World) :
    Calls Tryz.prog 152 #[.int .i64 n] w fun e w' => e = .returned (.bool (goodS n)) ∧ w' = w := by
  by_cases a1 : 100 ≤ n
  · by_cases a2 : n ≤ 599
    · have H : Hid (goodS n = true) := by unfold Hid goodS; simp; omega
      have b2 : decide (n ≤ 599) = true := by simpa using a2
      have b1 : decide (100 ≤ n) = true := by simpa using a1
      go_enter Tryz.func152, Tryz.ntmps152
      go_wp2
      go_ret
      rw [H.out]
      exact ⟨rfl, rfl⟩
    · have b2 : decide (n ≤ 599) = false := by simpa using a2
      have b1 : decide (100 ≤ n) = true := by simpa using a1
      have H : Hid (goodS n = false) := by unfold Hid goodS; simp; omega
      go_enter Tryz.func152, Tryz.ntmps152
      go_wp2
      go_ret
      rw [H.out]
      exact ⟨rfl, rfl⟩
  · have b2 : decide (100 ≤ n) = false := by simpa using a1
    have H : Hid (goodS n = false) := by unfold Hid goodS; simp; omega
    go_enter Tryz.func152, Tryz.ntmps152
    go_wp2
    go_ret
    rw [H.out]
    exact ⟨rfl, rfl⟩
set_option maxRecDepth 20000 in
set_option maxHeartbeats 8000000 in
theorem printRsTok (s k : Int) (r : List UInt8) (fs : FL) (lv : Value) (w : World) (hv : HoldsF w lv fs) (T : Tab w) (hfit : Fit fs) (hl : fs.length ≤ 2000000) (hP : (printOf fs).length ≤ 10000000) (hr : r.length ≤ 10000000) :
    Calls Tryz.prog 110 #[.agg #[.int .i64 s, .string ⟨r.toArray⟩, .int .i64 k, lv]] w fun e w' => ∃ u, e = .returned (.tuple #[u, .int .i64 (prR ⟨s, r, k, fs⟩).2]) ∧ Own w u (prR ⟨s, r, k, fs⟩).1 w' := by
  obtain ⟨la, lc, lb, lo, hlv, _⟩ := holdsF_parts hv
  subst hlv
  have b0 := below_alloc' w (.cells #[.int .i64 s, .string ⟨r.toArray⟩, .int .i64 k, .slice la fs.length lc] 56)
  have hF : Four w.heap.size (w.alloc (.cells #[.int .i64 s, .string ⟨r.toArray⟩, .int .i64 k, .slice la fs.length lc] 56)) (.int .i64 s) (.string ⟨r.toArray⟩) (.int .i64 k) (.slice la fs.length lc) := ⟨by simp, by simp, by simp, by simp⟩
  have hg : w.heap.size < (w.alloc (.cells #[.int .i64 s, .string ⟨r.toArray⟩, .int .i64 k, .slice la fs.length lc] 56)).heap.size := by simp
  have hv0 := holdsF_mono hv b0
  have T0 := tab_below T b0
  have K1 := hide' (fun W => goodMinorTok k W)
  have K2 : Hid (∀ W, Calls Tryz.prog 150 #[.string ⟨r.toArray⟩, .func (.func 151) #[] #[]] W fun e w' => e = .returned (.bool (r.all txt)) ∧ w' = W) := fun W => everyTxt ⟨r.toArray⟩ W (by rw [size_l]; omega)
  have K3 := hide' (fun W => statusAny s W)
  obtain ⟨W0, hW0⟩ : ∃ W0, W0 = w.alloc (.cells #[.int .i64 s, .string ⟨r.toArray⟩, .int .i64 k, .slice la fs.length lc] 56) := ⟨_, rfl⟩
  have HW0 := hide' hW0
  rw [← hW0] at b0 hF hg hv0 T0
  have B0 := hide' b0
  have HV0 := hide' hv0
  have F0 := hide' hF
  have HT0 := hide' T0
  have HFIT := hide' hfit
  obtain ⟨g, hgg⟩ : ∃ g, g = w.heap.size := ⟨_, rfl⟩
  have HGG := hide' hgg
  rw [← hgg] at hF hg F0
  obtain ⟨c0, c1, c2, c3⟩ := hF
  have HG := hide' hg
  have HPP := hide' hP
  clear hv hW0 b0 hv0 T0 T hfit hgg hP
  go_enter Tryz.func110, Tryz.ntmps110
  go_wp2_with fail
  rw [← HW0.out, ← HGG.out]
  refine (K1.out _).mono ?_
  rintro e w9 ⟨rfl, ew⟩
  rw [ew]
  clear ew w9
  cases h1 : goodK k with
  | false =>
    have R' : Hid (prR ⟨s, r, k, fs⟩ = ([], 50)) := by unfold Hid prR; simp only [h1]; rfl
    clear h1
    go_wp2_with fail
    go_ret2
    exact ⟨.slice none 0 0, by rw [R'.out]; rfl, by rw [R'.out]; exact own_nil _ _ B0.out⟩
  | true =>
    have H1 := hide' h1
    clear h1
    go_wp2_with fail
    refine (K2.out _).mono ?_
    rintro e w9 ⟨rfl, ew⟩
    rw [ew]
    clear ew w9
    cases h2 : r.all txt with
    | false =>
      have R' : Hid (prR ⟨s, r, k, fs⟩ = ([], 50)) := by unfold Hid prR; simp only [h2, Bool.and_false]; rfl
      clear h2
      go_wp2_with fail
      go_ret2
      exact ⟨.slice none 0 0, by rw [R'.out]; rfl, by rw [R'.out]; exact own_nil _ _ B0.out⟩
    | true =>
      have H2 := hide' h2
      clear h2
      go_wp2_with fail
      refine (K3.out _).mono ?_
      rintro e w9 ⟨rfl, ew⟩
      rw [ew]
      clear ew w9
      cases h3 : goodS s with
      | false =>
        have R' : Hid (prR ⟨s, r, k, fs⟩ = ([], 53)) := by unfold Hid prR; simp only [H1.out, H2.out, h3]; rfl
        clear h3
        go_wp2_with fail
        go_ret2
        exact ⟨.slice none 0 0, by rw [R'.out]; rfl, by rw [R'.out]; exact own_nil _ _ B0.out⟩
      | true =>
        have R' : Hid (prR ⟨s, r, k, fs⟩ = wholeP (lineS ⟨s, r, k, fs⟩) fs) := by unfold Hid prR; simp only [H1.out, H2.out, h3]; rfl
        have hIk := itoa_minor k H1.out
        have hIs := itoa_status s h3
        have kb : 0 ≤ k ∧ k ≤ 1 := by have := H1.out; unfold goodK at this; simp at this; omega
        have sb : 100 ≤ s ∧ s ≤ 599 := by have := h3; unfold goodS at this; simpa using this
        have z1 : (⟨r.toArray⟩ : ByteArray).size = r.length := size_l r
        have z3 : (⟨#[32]⟩ : ByteArray).size = 1 := rfl
        have z4 : (⟨#[72, 84, 84, 80, 47, 49, 46]⟩ : ByteArray).size = 7 := rfl
        obtain ⟨I, hI⟩ : ∃ I : ByteArray, I = ⟨(Lib.itoa k).toArray⟩ := ⟨_, rfl⟩
        have hIl : I.data.toList = minD k := by rw [hI, hIk]
        have zI : I.size = 1 := by
          have : I.size = I.data.toList.length := by simp
          rw [this, hIl]; unfold minD; split <;> rfl
        obtain ⟨J, hJ⟩ : ∃ J : ByteArray, J = ⟨(Lib.itoa s).toArray⟩ := ⟨_, rfl⟩
        have hJl : J.data.toList = stD s := by rw [hJ, hIs]
        have zJ : J.size = 3 := by
          have : J.size = J.data.toList.length := by simp
          rw [this, hJl]; rfl
        obtain ⟨X1, a1, l1, s1⟩ := add_str ⟨#[72, 84, 84, 80, 47, 49, 46]⟩ I (by omega)
        obtain ⟨X2, a2, l2, s2⟩ := add_str X1 ⟨#[32]⟩ (by omega)
        obtain ⟨X3, a3, l3, s3⟩ := add_str X2 J (by omega)
        obtain ⟨X4, a4, l4, s4⟩ := add_str X3 ⟨#[32]⟩ (by omega)
        obtain ⟨X5, a5, l5, s5⟩ := add_str X4 ⟨r.toArray⟩ (by omega)
        have hX5 : X5.data.toList = lineS ⟨s, r, k, fs⟩ := by
          rw [l5, l4, l3, l2, l1, hIl, hJl]
          unfold lineS M7
          simp
        rw [← hX5] at R'
        have kI := hide' (fun W (hb : Below W0.heap.size W0 W) => (itoaTab k (by omega) (by omega) W (tab_below HT0.out hb)).mono (R' := fun e w' => e = .returned (.string I) ∧ Hid (Below W0.heap.size W0 w') ∧ Four g w' (.int .i64 s) (.string ⟨r.toArray⟩) (.int .i64 k) (.slice la fs.length lc)) (by
          rintro e w' ⟨rfl, b⟩
          exact ⟨by rw [hI], bt' hb b, four_below F0.out HG.out (bt' hb b)⟩))
        have kJ := hide' (fun W (hb : Below W0.heap.size W0 W) => (itoaTab s (by omega) (by omega) W (tab_below HT0.out hb)).mono (R' := fun e w' => e = .returned (.string J) ∧ Hid (Below W0.heap.size W0 w') ∧ Four g w' (.int .i64 s) (.string ⟨r.toArray⟩) (.int .i64 k) (.slice la fs.length lc)) (by
          rintro e w' ⟨rfl, b⟩
          exact ⟨by rw [hJ], bt' hb b, four_below F0.out HG.out (bt' hb b)⟩))
        have kP := hide' (fun W (hb : Below W0.heap.size W0 W) => (printedTok X5 (.slice la fs.length lc) fs W (holdsF_mono HV0.out hb) HFIT.out (by omega) (by have := HPP.out; omega) (by omega)).mono (R' := fun e w' => ∃ u, e = .returned (.tuple #[u, .int .i64 (wholeP X5.data.toList fs).2]) ∧ Hid (Own w u (wholeP X5.data.toList fs).1 w') ∧ Four g w' (.int .i64 s) (.string ⟨r.toArray⟩) (.int .i64 k) (.slice la fs.length lc)) (by
          rintro e w' ⟨u, rfl, ho⟩
          exact ⟨u, rfl, own_base ho (bt' B0.out hb), four_below F0.out HG.out (bt' hb ho.2)⟩))
        unfold Four at kI kJ kP
        clear l1 l2 l3 l4 l5 hX5 hIl hIk hI hJ hJl hIs h3 z1 kb sb
        generalize wholeP X5.data.toList fs = wp at kP R'
        generalize hM : (⟨r.toArray⟩ : ByteArray) = rr at kI kJ kP c1 a5 s5 ⊢
        have n1 : (rr.size : Int) ≤ 10000000 := by rw [← hM, size_l]; omega
        clear hM F0
        go_wp2_with fail
        go_region_held3 (fun w' => w'.cell? ⟨g, 0, none⟩ = some (.int .i64 s) ∧ w'.cell? ⟨g, 1, none⟩ = some (.string rr) ∧ w'.cell? ⟨g, 2, none⟩ = some (.int .i64 k) ∧ w'.cell? ⟨g, 3, none⟩ = some (.slice la fs.length lc)) (go_keep)
          (first
            | (go_at_call_of 154 (k); refine (kI.out _ ?_).mono ?_; (first | exact O2.out | exact (Below.refl _ _).drew | exact Below.refl _ _); rintro e w2 ⟨rfl, O2, k0, k1, k2, k3⟩)
            | (go_at_call_of 154 (s); refine (kJ.out _ ?_).mono ?_; (first | exact O2.out | exact (Below.refl _ _).drew | exact Below.refl _ _); rintro e w2 ⟨rfl, O2, k0, k1, k2, k3⟩)
            | (go_at_call 153; refine (kP.out _ O2.out).mono ?_; rintro e w3 ⟨u, rfl, O3, k4, k5, k6, k7⟩))
        all_goals
          go_wp2_with fail
          go_ret2
          exact ⟨u, by rw [R'.out]; rfl, by rw [R'.out]; exact O3.out⟩
end Go.Proofs.YtibjcofbhldenaaGreatDoor
namespace Go.Proofs.YtibjcofbhldenaaGreatDoor
open Go.RowKit
theorem mark3 (W : World) : Sem.run Tryz.prog (convert 57 57 (.slice (some ⟨W.heap.size, 0, none⟩) 3 3)) (W.alloc (.cells #[.int .u8 67, .int .u8 79, .int .u8 49] 5)) = .ok (.slice (some ⟨W.heap.size, 0, none⟩) 3 3) (W.alloc (.cells #[.int .u8 67, .int .u8 79, .int .u8 49] 5 (3, 4))) :=
  Lib.run_convert_bytes_const W 57 5 #[.int .u8 67, .int .u8 79, .int .u8 49] 3 3 Tryz.underlying57 Tryz.underlying5
theorem mark3_cells (W : World) : ∀ j (h : j < ([67, 79, 49] : List UInt8).length), (W.alloc (.cells #[.int .u8 67, .int .u8 79, .int .u8 49] 5 (3, 4))).cell? ⟨W.heap.size, j, none⟩ = some (B ([67, 79, 49] : List UInt8)[j]) := by
  intro j hj
  rw [World.cell?_alloc_mark]
  match j, hj with
  | 0, _ => rfl
  | 1, _ => rfl
  | 2, _ => rfl
/-- the mark, as it is converted -/
theorem mark3_ext (W W' : World) (hb : Below (W.heap.size + 1) (W.alloc (.cells #[.int .u8 67, .int .u8 79, .int .u8 49] 5 (3, 4))) W') : Ext (.slice (some ⟨W.heap.size, 0, none⟩) 3 3) [67, 79, 49] W' := by
  have hs := hb.size
  have h3 : (W.alloc (.cells #[.int .u8 67, .int .u8 79, .int .u8 49] 5 (3, 4))).heap.size = W.heap.size + 1 := by simp
  exact ext_full (bs := [67, 79, 49]) (fun j hj => by rw [hb.cell (p := ⟨W.heap.size, j, none⟩) (by show W.heap.size < W.heap.size + 1; omega)]; exact mark3_cells W j hj) (by omega) (by decide)
theorem obj_no {e : En} (h : withinL e = false) : objOf e = ([], 120) := by unfold objOf; rw [if_neg (fun g => by rw [h] at g; cases g.1)]
theorem obj_no2 {e : En} (h : (prR e.r).2 ≠ 0) : objOf e = ([], 120) := by unfold objOf; rw [if_neg (fun g => h g.2)]
theorem obj_yes {e : En} (h : withinL e = true) (h2 : (prR e.r).2 = 0) : objOf e = (objL e (prR e.r).1, 0) := by unfold objOf; rw [if_pos ⟨h, h2⟩]
theorem obj_body (e : En) (h : List UInt8) (a g : Nat) (ha : (a : Int) = e.a) (hg : (g : Int) = e.g) : objB e h = [67, 79, 49] ++ secL 1 e.key ++ secL 2 e.vary ++ secL 3 h ++ secL 4 e.body ++ secL 5 (beN 8 a ++ beN 8 g) := by
  unfold objB
  rw [show e.a.toNat = a by omega, show e.g.toNat = g by omega]
  simp [List.append_assoc]
set_option maxRecDepth 20000 in
set_option maxHeartbeats 8000000 in
theorem encOC (e : En) (lv bv : Value) (w : World) (hF : HoldsF w lv e.r.fs) (hB : HoldsB w bv e.body) (T : Tab w) (hfit : Fit e.r.fs) (hl : e.r.fs.length ≤ 2000000) (hP : (printOf e.r.fs).length ≤ 10000000) (hr : e.r.r.length ≤ 10000000) (hk : e.key.length ≤ 1000000000000) (hv : e.vary.length ≤ 1000000000000) (hb : e.body.length ≤ 1000000000000) :
    Calls Tryz.prog 64 #[entV e lv bv] w fun x w' => ∃ u, x = .returned (.tuple #[u, .int .i64 (objOf e).2]) ∧ Own w u (objOf e).1 w' := by
  obtain ⟨la, lc, _, _, e1, _⟩ := holdsF_parts hF
  obtain ⟨ba, bc, e2, _⟩ := holdsB_parts hB
  subst e1 e2
  have cW := hide' (fun W (hb' : Below w.heap.size w W) => withinC e _ _ W (holdsF_mono hF hb') (holdsB_mono hB hb') hk hv hb)
  have cP := hide' (fun W (hb' : Below w.heap.size w W) => printRsTok e.r.s e.r.k e.r.r e.r.fs _ W (holdsF_mono hF hb') (tab_below T hb') hfit hl hP hr)
  have cT := hide' (fun W (hb' : Below w.heap.size w W) (a g : Nat) (ha : (a : Int) = e.a) (hg : (g : Int) = e.g) => timesC e a g _ _ W (holdsF_mono hF hb') (holdsB_mono hB hb') ha hg)
  have HB := hide' hB
  obtain ⟨R, hR⟩ : ∃ R, R = objOf e := ⟨_, rfl⟩
  rw [← hR]
  have f1 := hide' (fun h => hR.trans (obj_no (e := e) h))
  have f2 := hide' (fun h => hR.trans (obj_no2 (e := e) h))
  have f3 := hide' (fun h h2 => hR.trans (obj_yes (e := e) h h2))
  have fw := hide' (fun h => within_facts (e := e) h)
  have fb := hide' (fun h a g ha hg => obj_body e h a g ha hg)
  have fp := hide' (fun w h => prR_pos e.r w h)
  clear hR hF hB T hfit hP hr hl
  have EL : Hid (∀ h, objL e h = objB e h ++ beN 4 (sumOf (objB e h))) := fun _ => rfl
  unfold entV at cW cT ⊢
  generalize hPR : prR e.r = PR at *
  generalize hWL : withinL e = wl at *
  generalize hOB : objB e = OB at *
  generalize hOL : objL e = OL at *
  clear hPR hWL hOB hOL
  obtain ⟨key, vary, ⟨s, r, k, fs⟩, body, a0, g0⟩ := e
  dsimp only at *
  obtain ⟨ph, pe⟩ := PR
  dsimp only at *
  have b0 := below_alloc' w (.cells #[.string ⟨key.toArray⟩, .string ⟨vary.toArray⟩, .int .i64 s, .string ⟨r.toArray⟩, .int .i64 k, .slice la fs.length lc, .slice ba body.length bc, .int .i64 a0, .int .i64 g0] 59)
  have q0 := cells_lit w #[.string ⟨key.toArray⟩, .string ⟨vary.toArray⟩, .int .i64 s, .string ⟨r.toArray⟩, .int .i64 k, .slice la fs.length lc, .slice ba body.length bc, .int .i64 a0, .int .i64 g0] 59
  obtain ⟨W0, hW0⟩ : ∃ W0, W0 = w.alloc (.cells #[.string ⟨key.toArray⟩, .string ⟨vary.toArray⟩, .int .i64 s, .string ⟨r.toArray⟩, .int .i64 k, .slice la fs.length lc, .slice ba body.length bc, .int .i64 a0, .int .i64 g0] 59) := ⟨_, rfl⟩
  have HW0 := hide' hW0
  rw [← hW0] at b0 q0
  obtain ⟨q, hq⟩ : ∃ q, q = w.heap.size := ⟨_, rfl⟩
  have HQ := hide' hq
  rw [← hq] at q0
  have B0 := hide' b0
  have HD := hide' (holdsB_mono HB.out b0)
  have CC : Hid (∀ W, Below W0.heap.size W0 W → Blk q W [.string ⟨key.toArray⟩, .string ⟨vary.toArray⟩, .int .i64 s, .string ⟨r.toArray⟩, .int .i64 k, .slice la fs.length lc, .slice ba body.length bc, .int .i64 a0, .int .i64 g0]) := fun W hb => cells_below q0 hb
  clear hW0 hq b0 HB
  obtain ⟨⟨c0, c1, c2, c3, c4, c5, c6, c7, c8⟩, -⟩ := cells_nine (CC.out W0 (Below.refl _ _))
  go_enter Tryz.func64, Tryz.ntmps64
  go_wp2_with fail
  rw [← HW0.out, ← HQ.out]
  refine (cW.out _ B0.out).mono ?_
  rintro x w1 ⟨rfl, hb1⟩
  have B1 := hide' hb1
  obtain ⟨⟨d0, d1, d2, d3, d4, d5, d6, d7, d8⟩, -⟩ := cells_nine (CC.out w1 hb1)
  clear c0 c1 c2 c3 c4 c5 c6 c7 c8 hb1 cW
  cases wl with
  | false =>
    have EQ : Hid (R = ([], 120)) := f1.out (by trivial)
    go_wp2_with fail
    exact bodyPost_ret (v := .tuple #[.slice none 0 0, .int .i64 120]) (by simp [results, Tryz.results64, go_sem]) rfl ⟨.slice none 0 0, by rw [EQ.out], by rw [EQ.out]; exact own_nil w _ (bt' B0.out B1.out)⟩
  | true =>
  go_wp2_with fail
  refine (cP.out _ (bt' B0.out B1.out)).mono ?_
  rintro x w2 ⟨hvv, rfl, ho2⟩
  have B2 := hide' (bt' B1.out ho2.2)
  have OH := hide' (own_base ho2 B1.out)
  obtain ⟨⟨c0, c1, c2, c3, c4, c5, c6, c7, c8⟩, -⟩ := cells_nine (CC.out w2 B2.out)
  clear d0 d1 d2 d3 d4 d5 d6 d7 d8 ho2 cP
  by_cases hpe : pe = 0
  · subst hpe
    have EQ : Hid (R = (OL ph, 0)) := f3.out (by trivial) (by trivial)
    obtain ⟨k1, k2, k3, k4, k5, k6⟩ := fw.out (by trivial)
    obtain ⟨p1, p2⟩ := fp.out ph (by first | trivial | rfl)
    obtain ⟨a, ha⟩ : ∃ a : Nat, (a : Int) = a0 := ⟨a0.toNat, by omega⟩
    obtain ⟨g, hg⟩ : ∃ g : Nat, (g : Int) = g0 := ⟨g0.toNat, by omega⟩
    have EB := hide' (fb.out ph a g ha hg)
    replace EL := hide' (EL.out ph)
    replace cT := hide' (fun W hb' => cT.out W hb' a g ha hg)
    have LK : Hid (ph ≠ []) := by unfold Hid; intro h; rw [h] at p1; exact absurd p1 (by decide)
    have m1 := secL_len 1 key
    have m2 := secL_len 2 vary
    have m3 := secL_len 3 ph
    have m4 := secL_len 4 body
    have m5 := secL_len 5 (beN 8 a ++ beN 8 g)
    have m6 : (beN 8 a ++ beN 8 g).length = 16 := by rw [List.length_append, beN_len, beN_len]
    have l1 : Hid (([67, 79, 49] ++ secL 1 key).length ≤ 5000) := by unfold Hid; rw [List.length_append, m1]; simp; omega
    have l2 : Hid (([67, 79, 49] ++ secL 1 key ++ secL 2 vary).length ≤ 10000) := by unfold Hid; have := l1.out; rw [List.length_append, m2]; omega
    have l3 : Hid (([67, 79, 49] ++ secL 1 key ++ secL 2 vary ++ secL 3 ph).length ≤ 19000) := by unfold Hid; have := l2.out; rw [List.length_append, m3]; omega
    have l4 : Hid (([67, 79, 49] ++ secL 1 key ++ secL 2 vary ++ secL 3 ph ++ secL 4 body).length ≤ 85000) := by unfold Hid; have := l3.out; rw [List.length_append, m4]; omega
    have l5 : Hid (([67, 79, 49] ++ secL 1 key ++ secL 2 vary ++ secL 3 ph ++ secL 4 body ++ secL 5 (beN 8 a ++ beN 8 g)).length ≤ 86000) := by unfold Hid; have := l4.out; rw [List.length_append, m5, m6]; omega
    have M6 := hide' m6
    have K1 := hide' k2
    have K2 := hide' k3
    have K4 := hide' k4
    have P2 := hide' p2
    clear m1 m2 m3 m4 m5 m6 ha hg k1 k2 k3 k4 k5 k6 p1 p2 f1 f2 f3 fw fb fp hk hv hb
    have hm := mark3 w2
    have X2 := hide' (fun W' hb => mark3_ext w2 W' hb)
    have bm := below_alloc' w2 (.cells #[.int .u8 67, .int .u8 79, .int .u8 49] 5 (3, 4))
    have hsz : (w2.alloc (.cells #[.int .u8 67, .int .u8 79, .int .u8 49] 5 (3, 4))).heap.size = w2.heap.size + 1 := by simp
    obtain ⟨w3, hw3⟩ : ∃ w3, w3 = w2.alloc (.cells #[.int .u8 67, .int .u8 79, .int .u8 49] 5 (3, 4)) := ⟨_, rfl⟩
    rw [← hw3] at hm bm hsz X2
    have HZ := hide' hsz
    have B3 := hide' (bt' B2.out bm)
    have OH3 := hide' (own_mono OH.out bm)
    have LT2 : Hid (W0.heap.size ≤ w2.heap.size) := B2.out.size
    obtain ⟨kv, w4, hk4, ok4⟩ := ownM_conv ⟨key.toArray⟩ w3
    replace ok4 : OwnM w3 kv key w4 := ok4
    have N4 := (show Below w3.heap.size w3 w4 from by obtain ⟨_, _, _, _, _, _, _, _, h⟩ := ok4; exact h)
    have B4 := hide' (bt' B3.out N4)
    have X4 := hide' (X2.out w4 (by rw [← HZ.out]; exact N4))
    have D4 := hide' (ownM_holds ok4)
    have T4 : Hid (Oth kv (.slice (some ⟨w2.heap.size, 0, none⟩) 3 3)) := by
      obtain ⟨gk, ck, ek, hgk, _⟩ := ok4
      unfold Hid
      refine oth_new (n := w2.heap.size + 1) (fun k e => ?_) (fun k e => ?_)
      · rw [ek] at e; obtain rfl := Option.some.inj e; rw [← HZ.out]; exact hgk
      · obtain rfl := Option.some.inj e; exact Nat.lt_succ_self _
    have OH4 := hide' (own_mono OH3.out N4)
    have TH4 : Hid (Oth hvv (.slice (some ⟨w2.heap.size, 0, none⟩) 3 3)) := by
      unfold Hid
      intro k e f
      obtain rfl := Option.some.inj f
      exact absurd ((OH.out.1.lt _ e).2 : w2.heap.size < w2.heap.size) (Nat.lt_irrefl _)
    obtain ⟨⟨x0, x1, x2, x3, x4, x5, x6, x7, x8⟩, -⟩ := cells_nine (CC.out w3 B3.out)
    clear hw3 hsz bm ok4 N4 OH OH3 X2
    go_wp2_with fail
    clear x0 x1 x2 x3 x4 x5 x6 x7 x8 c0 c1 c2 c3 c4 c5 c6 c7 c8 hm hk4
    refine (appSecC _ kv [67, 79, 49] key 0 1 rfl w4 X4.out D4.out (fun _ => T4.out) (by decide) (by decide) (by have := K1.out; omega)).mono ?_
    rintro x w5 ⟨v5, rfl, hr5, ha5⟩
    have hlo : ∀ k, (Value.slice (some ⟨w2.heap.size, 0, none⟩) 3 3).ownBlock = some k → W0.heap.size ≤ k := fun k e => by
      obtain rfl := Option.some.inj e; exact LT2.out
    have O5 := hide' (own_app B4.out hlo ha5 hr5)
    have H5 := hide' (holdsB_app (holdsB_own OH4.out) (fun _ => TH4.out) ha5)
    clear hr5 ha5 hlo X4 D4 T4 OH4 TH4
    obtain ⟨⟨x0, x1, x2, x3, x4, x5, x6, x7, x8⟩, -⟩ := cells_nine (CC.out w5 O5.out.2)
    obtain ⟨vv, w6, hk6, ok6⟩ := ownM_conv ⟨vary.toArray⟩ w5
    replace ok6 : OwnM w5 vv vary w6 := ok6
    have N6 := (show Below w5.heap.size w5 w6 from by obtain ⟨_, _, _, _, _, _, _, _, h⟩ := ok6; exact h)
    have O6 := hide' (own_mono O5.out N6)
    have D6 := hide' (ownM_holds ok6)
    have T6 : Hid (Oth vv v5) := by
      obtain ⟨gk, ck, ek, hgk, _⟩ := ok6
      unfold Hid
      refine oth_new (n := w5.heap.size) (fun k e => ?_) (fun k e => (O5.out.1.lt k e).2)
      rw [ek] at e; obtain rfl := Option.some.inj e; exact hgk
    have H6 : Hid (HoldsB w6 hvv ph ∧ (ph ≠ [] → Oth hvv v5)) := ⟨holdsB_mono H5.out.1 N6, H5.out.2⟩
    clear ok6 N6 O5 H5
    go_wp2_with fail
    clear x0 x1 x2 x3 x4 x5 x6 x7 x8 hk6
    refine (appSecC v5 vv _ vary 1 2 rfl w6 (ext_row (rw_own O6.out) (by have := l1.out; omega)) D6.out (fun _ => T6.out) (by decide) (by have := l1.out; omega) (by have := K2.out; omega)).mono ?_
    rintro x w7 ⟨v7, rfl, hr7, ha7⟩
    have O7 := hide' (own_app O6.out.2 (fun k e => (O6.out.1.lt k e).1) ha7 hr7)
    have H7 := hide' (holdsB_app H6.out.1 H6.out.2 ha7)
    clear hr7 ha7 O6 D6 T6 H6
    go_wp2_with fail
    refine (appSecC v7 hvv _ ph 2 3 rfl w7 (ext_row (rw_own O7.out) (by have := l2.out; omega)) H7.out.1 H7.out.2 (by decide) (by have := l2.out; omega) (by have := P2.out; omega)).mono ?_
    rintro x w8 ⟨v8, rfl, hr8, ha8⟩
    have O8 := hide' (own_app O7.out.2 (fun k e => (O7.out.1.lt k e).1) ha8 hr8)
    clear hr8 ha8 O7 H7
    obtain ⟨⟨x0, x1, x2, x3, x4, x5, x6, x7, x8⟩, -⟩ := cells_nine (CC.out w8 O8.out.2)
    go_wp2_with fail
    clear x0 x1 x2 x3 x4 x5 x6 x7 x8
    refine (appSecC v8 (.slice ba body.length bc) _ body 3 4 rfl w8 (ext_row (rw_own O8.out) (by have := l3.out; omega)) (holdsB_mono HD.out O8.out.2) (fun h => oth_old HD.out (fun k e => (O8.out.1.lt k e).1) h) (by decide) (by have := l3.out; omega) (by have := K4.out; omega)).mono ?_
    rintro x w9 ⟨v9, rfl, hr9, ha9⟩
    have O9 := hide' (own_app O8.out.2 (fun k e => (O8.out.1.lt k e).1) ha9 hr9)
    clear hr9 ha9 O8
    obtain ⟨⟨x0, x1, x2, x3, x4, x5, x6, x7, x8⟩, -⟩ := cells_nine (CC.out w9 O9.out.2)
    go_wp2_with fail
    clear x0 x1 x2 x3 x4 x5 x6 x7 x8
    refine (cT.out w9 (bt' B0.out O9.out.2)).mono ?_
    rintro x wa ⟨va, rfl, hoa⟩
    have TA := hide' (oth_new (n := w9.heap.size) (fun k e => (hoa.1.lt k e).1) (fun k e => (O9.out.1.lt k e).2))
    have Oa := hide' (own_mono O9.out hoa.2)
    have DA := hide' (holdsB_own hoa)
    clear hoa O9
    go_wp2_with fail
    refine (appSecC v9 va _ _ 4 5 rfl wa (ext_row (rw_own Oa.out) (by have := l4.out; omega)) DA.out (fun _ => TA.out) (by decide) (by have := l4.out; omega) (by rw [M6.out]; decide)).mono ?_
    rintro x wb ⟨vb, rfl, hrb, hab⟩
    have Ob := hide' (own_app Oa.out.2 (fun k e => (Oa.out.1.lt k e).1) hab hrb)
    clear hrb hab Oa DA TA
    rw [← EB.out] at Ob l5
    generalize OB ph = LL at Ob l5 EL
    have cS := hide' (sumC vb LL wb (holdsB_own Ob.out) (by have := l5.out; omega))
    have SL := sumOf_lt LL
    have cN := hide' (appNumC vb LL wb (sumOf LL) 4 (rw_own Ob.out) (by decide) (by have := l5.out; omega))
    generalize sumOf LL = sm at cS cN SL EL
    go_wp2_with fail
    refine cS.out.mono ?_
    rintro x wz ⟨rfl, ew⟩
    rw [ew]
    clear ew wz
    go_wp2_with fail
    refine cN.out.mono ?_
    rintro x wc ⟨vc, rfl, hrc, hac⟩
    have Oc := hide' (own_app Ob.out.2 (fun k e => (Ob.out.1.lt k e).1) hac hrc)
    clear hrc hac Ob
    go_wp2_with fail
    exact bodyPost_ret (v := .tuple #[vc, .int .i64 0]) (by simp [results, Tryz.results64, go_sem]) rfl ⟨vc, by rw [EQ.out], by rw [EQ.out, EL.out]; exact own_base Oc.out B0.out⟩
  · have EQ : Hid (R = ([], 120)) := f2.out hpe
    have hd : (pe != 0) = true := by simpa using hpe
    clear hpe
    go_wp2_with fail
    exact bodyPost_ret (v := .tuple #[.slice none 0 0, .int .i64 120]) (by simp [results, Tryz.results64, go_sem]) rfl ⟨.slice none 0 0, by rw [EQ.out], by rw [EQ.out]; exact own_nil w _ (bt' B0.out B2.out)⟩
end Go.Proofs.YtibjcofbhldenaaGreatDoor
