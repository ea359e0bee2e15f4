/- The contracts of the document's second and Ask. -/
import Derived.Test.YtikokjclhpgocabDoorVaA
import Derived.Test.YtikokjclhpgocabDoorVaRt
namespace Go.Proofs.YtikokjclhpgocabDoor
open Go.RowKit
set_option maxHeartbeats 1000000 in
theorem secondVR (v : Value) (fs : FL) (nm : List UInt8) (d : Int) (w : World) (hv : HoldsF w v fs) (hb : bulkF fs ≤ 1048576) (hn : nm.length ≤ 1048576) (D : DtB (getJ fs nm) d) :
    Calls Tryd.prog 21 #[v, .string ⟨nm.toArray⟩] w fun e w' => e = .returned (.int .i64 d) ∧ Below w.heap.size w w' := by
  have cG := getRef v fs nm w hv hb hn
  rw [getJ_eq] at cG
  replace cG := hide' cG
  obtain ⟨ao, ca, _, _, rfl, -⟩ := holdsF_parts hv
  clear hv
  generalize decide (0 < (valsOf fs nm).length) = pb at cG
  generalize getJ fs nm = jl at cG D
  obtain ⟨⟨d0, -, -⟩, v, er, hve, cA⟩ := D
  have CA := hide' cA
  clear cA
  rcases hve with ⟨h1, rfl, rfl⟩ | ⟨h1, rfl, rfl⟩
  · obtain rfl : d = -1 := by omega
    clear h1 d0
    go_enter Tryd.func21, Tryd.ntmps21
    go_wp2_with fail
    refine cG.out.mono ?_
    rintro e w1 ⟨rfl, b1⟩
    have B1 := hide' b1
    clear b1 cG
    go_wp2_with fail
    refine (CA.out _).mono ?_
    rintro e w2 ⟨rfl, b2⟩
    have B2 := hide' (bt' B1.out b2)
    clear b2 CA B1
    go_wp2_with fail
    go_ret
    exact ⟨rfl, B2.out⟩
  · clear h1 d0
    go_enter Tryd.func21, Tryd.ntmps21
    go_wp2_with fail
    refine cG.out.mono ?_
    rintro e w1 ⟨rfl, b1⟩
    have B1 := hide' b1
    clear b1 cG
    go_wp2_with fail
    refine (CA.out _).mono ?_
    rintro e w2 ⟨rfl, b2⟩
    have B2 := hide' (bt' B1.out b2)
    clear b2 CA B1
    go_wp2_with fail
    go_ret
    exact ⟨rfl, B2.out⟩
set_option maxHeartbeats 4000000 in
set_option maxRecDepth 20000 in
theorem askRC (s k : Int) (r : List UInt8) (lv : Value) (fs : FL) (D : List UInt8 → Int) (w : World) (hv : HoldsF w lv fs) (hb : bulkF fs ≤ 1048576) (hD : DtB (getJ fs lmN) (D (getJ fs lmN))) :
    Calls Tryd.prog 8 #[.agg #[.int .i64 s, .string ⟨r.toArray⟩, .int .i64 k, lv]] w fun e w' => ∃ u, e = .returned u ∧ OwnF w u (askOf D fs) w' := by
  obtain ⟨res, eres⟩ : ∃ res, res = askOf D fs := ⟨_, rfl⟩
  rw [← eres]
  have RS := hide' (show res = (if tagB (getJ fs etN) = true then [(inN, getJ fs etN)] else []) ++ (if 0 ≤ D (getJ fs lmN) then [(imN, getJ fs lmN)] else []) from by rw [eres]; rfl)
  clear eres
  have g1 := getJ_len fs etN
  have CT := hide' (fun W => tagRC (getJ fs etN) W (by omega))
  have CG := fun W (h : Below w.heap.size w W) => getRef lv fs etN W (holdsF_mono hv h) hb (by decide)
  have CL := fun W (h : Below w.heap.size w W) => getRef lv fs lmN W (holdsF_mono hv h) hb (by decide)
  simp only [getJ_eq] at CG CL
  replace CG := hide' CG
  replace CL := hide' CL
  have CA := hide' (fun W (h : Below w.heap.size w W) => secondVR lv fs lmN (D (getJ fs lmN)) W (holdsF_mono hv h) hb (by decide) hD)
  obtain ⟨la, lc, _, _, el, -⟩ := holdsF_parts hv
  subst el
  clear hv hD
  generalize decide (0 < (valsOf fs etN).length) = p1 at CG
  generalize decide (0 < (valsOf fs lmN).length) = p2 at CL
  generalize D (getJ fs lmN) = d at CA RS
  generalize getJ fs etN = je at CT CG g1 RS
  generalize getJ fs lmN = jm at CL RS
  generalize fs.length = n at CG CL CA ⊢
  generalize (⟨r.toArray⟩ : ByteArray) = R
  obtain ⟨W0, eW⟩ : ∃ W0, W0 = w.alloc (.cells #[.int .i64 s, .string R, .int .i64 k, .slice la n lc] 24) := ⟨_, rfl⟩
  have P0 := show Blk w.heap.size W0 [.int .i64 s, .string R, .int .i64 k, .slice la n lc] from by rw [eW]; exact cells_lit w _ _
  have B0 := show Below w.heap.size w W0 from by rw [eW]; exact below_alloc' w _
  have z0 : W0.heap.size = w.heap.size + 1 := by rw [eW]; simp
  have b1 := below_alloc' W0 (.cells #[] 35)
  have B1 := hide' (show Below w.heap.size w ((w.alloc (.cells #[.int .i64 s, .string R, .int .i64 k, .slice la n lc] 24)).alloc (.cells #[] 35)) from by rw [← eW]; exact bt' B0 b1)
  have P1 := hide' (show Blk w.heap.size ((w.alloc (.cells #[.int .i64 s, .string R, .int .i64 k, .slice la n lc] 24)).alloc (.cells #[] 35)) [.int .i64 s, .string R, .int .i64 k, .slice la n lc] from by rw [← eW]; exact cells_below P0 b1)
  have O1 := hide' (show OwnF W0 (.slice (some ⟨w.heap.size + 1, 0, none⟩) 0 0) [] ((w.alloc (.cells #[.int .i64 s, .string R, .int .i64 k, .slice la n lc] 24)).alloc (.cells #[] 35)) from by have h := ownF_empty W0; rw [z0] at h; rw [← eW]; exact h)
  have BP := hide' (fun (W : World) (h : Below W0.heap.size W0 W) => (show Below w.heap.size w W ∧ Blk w.heap.size W [.int .i64 s, .string R, .int .i64 k, .slice la n lc] from ⟨bt' B0 h, cells_below P0 h⟩))
  replace B0 := hide' B0
  clear eW P0 z0 b1
  obtain ⟨i0, i1, i2, i3, iz⟩ := blk4 P1.out
  go_enter Tryd.func8, Tryd.ntmps8
  go_wp2_with fail
  refine (CG.out _ B1.out).mono ?_
  rintro e w2 ⟨rfl, b2⟩
  have O2 := hide' (ownF_mono O1.out b2)
  clear b2 CG B1 P1 O1 i0 i1 i2 i3 iz
  go_wp2_with fail
  refine (CT.out _).mono ?_
  rintro e w3 ⟨rfl, ew⟩
  rw [ew]
  clear ew w3 CT
  cases ht : tagB je with
  | true =>
    simp only [ht, if_true] at RS
    go_wp2_with (at_builtin; refine appF rfl (.tmp 25) (.tmp 28) rfl W0 _ [] rfl O2.out (inN, je) rfl rfl rfl rfl (by decide) ?_; intro v3 w3 ho3; rw [List.nil_append] at ho3; have O3 := hide' ho3; have B3 := hide' (BP.out _ ho3.2).1; obtain ⟨i0, i1, i2, i3, iz⟩ := blk4 (BP.out _ ho3.2).2; clear O2 ho3)
    refine (CA.out _ B3.out).mono ?_
    rintro e w4 ⟨rfl, b4⟩
    have O4 := hide' (ownF_mono O3.out b4)
    clear b4 CA O3 i0 i1 i2 i3 iz B3
    by_cases hd : 0 ≤ d
    · rw [if_pos hd] at RS
      have B4 := hide' (BP.out _ O4.out.2).1
      obtain ⟨i0, i1, i2, i3, iz⟩ := blk4 (BP.out _ O4.out.2).2
      go_wp2_with fail
      refine (CL.out _ B4.out).mono ?_
      rintro e w5 ⟨rfl, b5⟩
      have O5 := hide' (ownF_mono O4.out b5)
      clear b5 CL O4 B4 i0 i1 i2 i3 iz BP
      go_wp2_with (at_builtin; refine appF rfl (.tmp 40) (.tmp 43) rfl W0 _ _ rfl O5.out (imN, jm) rfl rfl rfl rfl (by simp) ?_; intro v6 w6 ho6; have O6 := hide' ho6; clear O5 ho6)
      go_ret
      exact ⟨_, rfl, by rw [RS.out]; exact ownF_base O6.out B0.out⟩
    · rw [if_neg hd] at RS
      clear CL BP
      go_wp2_with fail
      go_ret
      exact ⟨_, rfl, by rw [RS.out]; first | exact ownF_base O4.out B0.out | (rw [List.append_nil]; exact ownF_base O4.out B0.out)⟩
  | false =>
    simp only [ht, Bool.false_eq_true, if_false, List.nil_append] at RS
    obtain ⟨w3, ew⟩ : ∃ w3, w3 = w2 := ⟨_, rfl⟩
    subst ew
    have O3 := hide' O2.out
    clear O2
    have B3 := hide' (BP.out _ O3.out.2).1
    have P3 := hide' (BP.out _ O3.out.2).2
    obtain ⟨i0, i1, i2, i3, iz⟩ := blk4 P3.out
    clear P3
    go_wp2_with fail
    refine (CA.out _ B3.out).mono ?_
    rintro e w4 ⟨rfl, b4⟩
    have O4 := hide' (ownF_mono O3.out b4)
    clear b4 CA O3 i0 i1 i2 i3 iz B3
    by_cases hd : 0 ≤ d
    · rw [if_pos hd] at RS
      have B4 := hide' (BP.out _ O4.out.2).1
      obtain ⟨i0, i1, i2, i3, iz⟩ := blk4 (BP.out _ O4.out.2).2
      go_wp2_with fail
      refine (CL.out _ B4.out).mono ?_
      rintro e w5 ⟨rfl, b5⟩
      have O5 := hide' (ownF_mono O4.out b5)
      clear b5 CL O4 B4 i0 i1 i2 i3 iz BP
      go_wp2_with (at_builtin; refine appF rfl (.tmp 40) (.tmp 43) rfl W0 _ _ rfl O5.out (imN, jm) rfl rfl rfl rfl (by simp) ?_; intro v6 w6 ho6; have O6 := hide' ho6; clear O5 ho6)
      go_ret
      exact ⟨_, rfl, by rw [RS.out]; exact ownF_base O6.out B0.out⟩
    · rw [if_neg hd] at RS
      clear CL BP
      go_wp2_with fail
      go_ret
      exact ⟨_, rfl, by rw [RS.out]; first | exact ownF_base O4.out B0.out | (rw [List.append_nil]; exact ownF_base O4.out B0.out)⟩
end Go.Proofs.YtikokjclhpgocabDoor
