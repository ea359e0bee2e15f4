/- The contract of the document's holds: does an If-Range hold for the response? The contract of holds (ranges): does an If-Range hold for the response? -/
import Derived.Test.YtipcmbonhkelbabGreatDoorXq
import Derived.Test.YtipcmbonhkelbabGreatDoorVaT
namespace Go.Proofs.YtipcmbonhkelbabGreatDoor
open Go.RowKit
def irN : List UInt8 := [105, 102, 45, 114, 97, 110, 103, 101]
/-- does an If-Range hold? D: the second that a text says, -1 where none -/
def rgHeld (D : List UInt8 → Int) (ask fs : FL) : Bool :=
  !(decide (0 < (valsOf ask irN).length)) || (sameG (getJ ask irN) (getJ fs etN) true || (decide (0 ≤ D (getJ fs lmN)) && decide (getJ ask irN = getJ fs lmN)))
theorem held_not {D : List UInt8 → Int} {ask fs : FL} (h : decide (0 < (valsOf ask irN).length) = false) : rgHeld D ask fs = true := by unfold rgHeld; rw [h]; rfl
theorem held_is {D : List UInt8 → Int} {ask fs : FL} (h : decide (0 < (valsOf ask irN).length) = true) : rgHeld D ask fs = (sameG (getJ ask irN) (getJ fs etN) true || (decide (0 ≤ D (getJ fs lmN)) && decide (getJ ask irN = getJ fs lmN))) := by unfold rgHeld; rw [h]; rfl
theorem l_eqX (a b : List UInt8) : (a == b) = decide (a = b) := by
  by_cases h : a = b
  · rw [h]; simp
  · rw [decide_eq_false h]
    exact beq_eq_false_iff_ne.2 h
set_option maxHeartbeats 4000000 in
set_option maxRecDepth 20000 in
theorem holdsRG (s k : Int) (r : List UInt8) (av lv : Value) (ask fs : FL) (D : List UInt8 → Int) (w : World) (ha : HoldsF w av ask) (hv : HoldsF w lv fs) (hb : bulkF ask + bulkF fs ≤ 1048576) (hD : DtQ (getJ fs lmN) (D (getJ fs lmN))) :
    Calls Tryz.prog 25 #[av, .agg #[.int .i64 s, .string ⟨r.toArray⟩, .int .i64 k, lv]] w fun e w' => e = .returned (.bool (rgHeld D ask fs)) ∧ Below w.heap.size w w' := by
  have g0 := getJ_len ask irN
  have g1 := getJ_len fs etN
  have HN := hide' (held_not (D := D) (ask := ask) (fs := fs))
  have HI := hide' (held_is (D := D) (ask := ask) (fs := fs))
  have CS := hide' (fun W => sameRC (getJ ask irN) (getJ fs etN) true W (by omega) (by omega))
  have CI := fun W (h : Below w.heap.size w W) => getRef av ask irN W (holdsF_mono ha h) (by omega) (by decide)
  have CG := fun W (h : Below w.heap.size w W) => getRef lv fs etN W (holdsF_mono hv h) (by omega) (by decide)
  have CL := fun W (h : Below w.heap.size w W) => getRef lv fs lmN W (holdsF_mono hv h) (by omega) (by decide)
  simp only [getJ_eq] at CI CG CL
  replace CI := hide' CI
  replace CG := hide' CG
  replace CL := hide' CL
  obtain ⟨la, lc, _, _, el, -⟩ := holdsF_parts hv
  obtain ⟨aa, ac, _, _, ea, -⟩ := holdsF_parts ha
  subst el ea
  clear hv ha hb g0 g1
  generalize rgHeld D ask fs = res at HN HI ⊢
  generalize decide (0 < (valsOf ask irN).length) = p0 at CI HN HI
  generalize decide (0 < (valsOf fs etN).length) = p1 at CG
  generalize decide (0 < (valsOf fs lmN).length) = p2 at CL
  generalize D (getJ fs lmN) = d at hD HI
  have XE := hide' (l_eqX (getJ ask irN) (getJ fs lmN))
  generalize decide (getJ ask irN = getJ fs lmN) = eqb at HI XE
  generalize sameG (getJ ask irN) (getJ fs etN) true = sb at HI CS
  generalize getJ fs etN = je at CG CS
  generalize getJ fs lmN = jm at CL hD XE
  generalize getJ ask irN = ji at CI CS XE
  generalize fs.length = n at CG CL ⊢
  generalize ask.length = m at CI ⊢
  generalize (⟨r.toArray⟩ : ByteArray) = R
  obtain ⟨d0, er, hve, cA⟩ := hD
  have CA := hide' cA
  clear cA
  have P0 := show Blk w.heap.size (w.alloc (.cells #[.int .i64 s, .string R, .int .i64 k, .slice la n lc] 24)) [.int .i64 s, .string R, .int .i64 k, .slice la n lc] from cells_lit w _ _
  have B0 := hide' (show Below w.heap.size w (w.alloc (.cells #[.int .i64 s, .string R, .int .i64 k, .slice la n lc] 24)) from below_alloc' w _)
  replace P0 := hide' P0
  go_enter Tryz.func25, Tryz.ntmps25
  go_wp2_with fail
  refine (CI.out _ B0.out).mono ?_
  rintro e w2 ⟨rfl, b2⟩
  have B2 := hide' (bt' B0.out b2)
  have P2 := hide' (cells_below P0.out b2)
  clear b2 CI B0 P0
  cases p0 with
  | false =>
    have R := hide' (HN.out rfl)
    clear HN HI CS CA CL CG XE hve
    go_wp2_with fail
    go_ret
    exact ⟨by rw [R.out]; rfl, B2.out⟩
  | true =>
    replace HI := hide' (HI.out rfl)
    clear HN
    obtain ⟨i0, i1, i2, i3, iz⟩ := blk4 P2.out
    go_wp2_with fail
    refine (CG.out _ B2.out).mono ?_
    rintro e w3 ⟨rfl, b3⟩
    have B3 := hide' (bt' B2.out b3)
    have P3 := hide' (cells_below P2.out b3)
    clear b3 CG B2 P2 i0 i1 i2 i3 iz
    obtain ⟨i0, i1, i2, i3, iz⟩ := blk4 P3.out
    go_wp2_with fail
    refine (CL.out _ B3.out).mono ?_
    rintro e w4 ⟨rfl, b4⟩
    have B4 := hide' (bt' B3.out b4)
    clear b4 CL B3 P3 i0 i1 i2 i3 iz
    have FIN : ∀ (ok : Bool), decide (0 ≤ d) = ok → Hid (res = (sb || (ok && eqb))) := fun ok h => by unfold Hid; rw [HI.out, h]
    rcases hve with ⟨h1, rfl, rfl⟩ | ⟨h1, rfl, rfl⟩
    · replace FIN := FIN false (decide_eq_false (by omega))
      clear HI h1
      go_wp2_with fail
      refine (CA.out _).mono ?_
      rintro e w5 ⟨rfl, b5⟩
      have B5 := hide' (bt' B4.out b5)
      clear b5 CA B4
      go_wp2_with fail
      refine (CS.out _).mono ?_
      rintro e w6 ⟨rfl, ew⟩
      rw [ew]
      clear ew w6 CS
      cases sb with
      | true =>
        go_wp2_with fail
        go_ret
        exact ⟨by rw [FIN.out]; rfl, B5.out⟩
      | false =>
        go_wp2_with fail
        go_ret
        exact ⟨by rw [FIN.out]; rfl, B5.out⟩
    · replace FIN := FIN true (decide_eq_true h1)
      clear HI h1
      go_wp2_with fail
      refine (CA.out _).mono ?_
      rintro e w5 ⟨rfl, b5⟩
      have B5 := hide' (bt' B4.out b5)
      clear b5 CA B4
      go_wp2_with fail
      refine (CS.out _).mono ?_
      rintro e w6 ⟨rfl, ew⟩
      rw [ew]
      clear ew w6 CS
      have xe := XE.out
      clear XE
      cases sb with
      | true =>
        clear xe
        go_wp2_with fail
        go_ret
        exact ⟨by rw [FIN.out]; rfl, B5.out⟩
      | false =>
        go_wp2_with fail
        go_ret
        refine ⟨?_, B5.out⟩
        rw [FIN.out, ← xe]
        rfl
end Go.Proofs.YtipcmbonhkelbabGreatDoor
namespace Go.Proofs.YtipcmbonhkelbabGreatDoor
open Go.RowKit
def irU : List UInt8 := [73, 102, 45, 82, 97, 110, 103, 101]
set_option maxHeartbeats 4000000 in
set_option maxRecDepth 20000 in
theorem holdsG (s k : Int) (R : ByteArray) (av lv : Value) (ask fs : FL) (D : List UInt8 → Int) (w : World) (ha : HoldsF w av ask) (hv : HoldsF w lv fs) (hb : bulkF ask + bulkF fs ≤ 1500000) (E : EvD w) (hD : DtP (getJ fs lmN) (D (getJ fs lmN))) :
    Calls Tryz.prog 16 #[av, .agg #[.int .i64 s, .string R, .int .i64 k, lv]] w fun e w' => e = .returned (.bool (rgHeld D ask fs)) ∧ Below w.heap.size w w' := by
  have g0 := getJ_len ask irN
  have HN := hide' (held_not (D := D) (ask := ask) (fs := fs))
  have HI := hide' (held_is (D := D) (ask := ask) (fs := fs))
  have CS := hide' (fun W => sameC (getJ ask irN) (getJ fs etN) true W (by omega))
  have CI := fun W (h : Below w.heap.size w W) => getTokB av ask irU W (holdsF_mono ha h) (by omega) (by decide)
  have CG := fun W (h : Below w.heap.size w W) => getTokB lv fs etU W (holdsF_mono hv h) (by omega) (by decide)
  have CL := fun W (h : Below w.heap.size w W) => getTokB lv fs lmU W (holdsF_mono hv h) (by omega) (by decide)
  have e1 := vals_low2 ask (show lows irU = lows irN by decide)
  have e2 := vals_low2 fs (show lows etU = lows etN by decide)
  have e3 := vals_low2 fs (show lows lmU = lows lmN by decide)
  simp only [e1, getJ_eq] at CI
  simp only [e2, getJ_eq] at CG
  simp only [e3, getJ_eq] at CL
  replace CI := hide' CI
  replace CG := hide' CG
  replace CL := hide' CL
  obtain ⟨la, lc, _, _, el, -⟩ := holdsF_parts hv
  obtain ⟨aa, ac, _, _, ea, -⟩ := holdsF_parts ha
  subst el ea
  clear hv ha hb g0 e1 e2 e3
  generalize rgHeld D ask fs = res at HN HI ⊢
  generalize decide (0 < (valsOf ask irN).length) = p0 at CI HN HI
  generalize decide (0 < (valsOf fs etN).length) = p1 at CG
  generalize decide (0 < (valsOf fs lmN).length) = p2 at CL
  generalize D (getJ fs lmN) = d at hD HI
  have XE := hide' (l_eqX (getJ ask irN) (getJ fs lmN))
  generalize decide (getJ ask irN = getJ fs lmN) = eqb at HI XE
  generalize sameG (getJ ask irN) (getJ fs etN) true = sb at HI CS
  generalize getJ fs etN = je at CG CS
  generalize getJ fs lmN = jm at CL hD XE
  generalize getJ ask irN = ji at CI CS XE
  generalize fs.length = n at CG CL ⊢
  generalize ask.length = m at CI ⊢
  obtain ⟨_, _, d0, er, hve, cA⟩ := hD
  have CA := hide' (fun W (h : Below w.heap.size w W) => cA W (E.1.below h) (E.2.below h))
  clear cA E
  have P0 := show Blk w.heap.size (w.alloc (.cells #[.int .i64 s, .string R, .int .i64 k, .slice la n lc] 24)) [.int .i64 s, .string R, .int .i64 k, .slice la n lc] from cells_lit w _ _
  have B0 := hide' (show Below w.heap.size w (w.alloc (.cells #[.int .i64 s, .string R, .int .i64 k, .slice la n lc] 24)) from below_alloc' w _)
  replace P0 := hide' P0
  go_enter Tryz.func16, Tryz.ntmps16
  go_wp2_with fail
  refine (CI.out _ B0.out).mono ?_
  rintro e w2 ⟨rfl, b2⟩
  have B2 := hide' (bt' B0.out b2)
  have P2 := hide' (cells_below P0.out b2)
  clear b2 CI B0 P0
  cases p0 with
  | false =>
    have R := hide' (HN.out rfl)
    clear HN HI CS CA CL CG XE hve
    go_wp2_with fail
    go_ret
    exact ⟨by rw [R.out]; rfl, B2.out⟩
  | true =>
    replace HI := hide' (HI.out rfl)
    clear HN
    obtain ⟨i0, i1, i2, i3, iz⟩ := blk4 P2.out
    go_wp2_with fail
    refine (CG.out _ B2.out).mono ?_
    rintro e w3 ⟨rfl, b3⟩
    have B3 := hide' (bt' B2.out b3)
    have P3 := hide' (cells_below P2.out b3)
    clear b3 CG B2 P2 i0 i1 i2 i3 iz
    obtain ⟨i0, i1, i2, i3, iz⟩ := blk4 P3.out
    go_wp2_with fail
    refine (CS.out _).mono ?_
    rintro e w6 ⟨rfl, ew⟩
    rw [ew]
    clear ew w6 CS
    cases sb with
    | true =>
      have R := hide' (HI.out.trans (Bool.true_or _))
      clear HI CA CL XE hve
      go_wp2_with fail
      go_ret
      exact ⟨by rw [R.out]; rfl, B3.out⟩
    | false =>
      go_wp2_with fail
      refine (CL.out _ B3.out).mono ?_
      rintro e w4 ⟨rfl, b4⟩
      have B4 := hide' (bt' B3.out b4)
      clear b4 CL B3 P3 i0 i1 i2 i3 iz
      have FIN : ∀ (ok : Bool), decide (0 ≤ d) = ok → Hid (res = (ok && eqb)) := fun ok h => by unfold Hid; rw [HI.out, h]; rfl
      rcases hve with ⟨h1, rfl, rfl⟩ | ⟨h1, rfl, rfl⟩
      · replace FIN := FIN false (decide_eq_false (by omega))
        clear HI h1
        go_wp2_with fail
        refine (CA.out _ B4.out).mono ?_
        rintro e w5 ⟨rfl, b5⟩
        have B5 := hide' (bt' B4.out b5)
        clear b5 CA B4
        go_wp2_with fail
        go_ret
        exact ⟨by rw [FIN.out]; rfl, B5.out⟩
      · replace FIN := FIN true (decide_eq_true h1)
        clear HI h1
        go_wp2_with fail
        refine (CA.out _ B4.out).mono ?_
        rintro e w5 ⟨rfl, b5⟩
        have B5 := hide' (bt' B4.out b5)
        clear b5 CA B4
        have xe := XE.out
        clear XE
        go_wp2_with fail
        go_ret
        refine ⟨?_, B5.out⟩
        rw [FIN.out, ← xe]
        rfl
end Go.Proofs.YtipcmbonhkelbabGreatDoor
