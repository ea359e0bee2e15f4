/- The walk of FrameResponses. -/
import Derived.Test.YtnjfahidcbglpaaDoorFrV
import Derived.Test.YtnjfahidcbglpaaDoorRq
namespace Go.Proofs.YtnjfahidcbglpaaDoor
open Go.RowKit
namespace frameResponses
set_option maxRecDepth 20000 in
set_option maxHeartbeats 8000000 in
theorem walk0 (s : Int) (r : List UInt8) (k : Int) (lv : Value) (fs : FL) (m : List UInt8) (w : World) (hv : HoldsF w lv fs) (hb : bulkF fs ≤ 1048576) (E : Er w) :
    Calls Tryd.prog 4 #[.agg #[.int .i64 s, .string ⟨r.toArray⟩, .int .i64 k, lv], .string ⟨m.toArray⟩] w fun e w' => e = .returned (.bool true) ∧ Below w.heap.size w w' := by
  have hfl := bulkF_len fs
  obtain ⟨ao, ca, b, o, rfl, _⟩ := holdsF_parts hv
  have b0 := below_alloc' w (.cells #[.int .i64 s, .string ⟨r.toArray⟩, .int .i64 k, .slice ao fs.length ca] 35)
  have Q0 := hide' (quad_lit w (.int .i64 s) (.string ⟨r.toArray⟩) (.int .i64 k) (.slice ao fs.length ca) 35)
  have C0 := hide' (aliveF _ (er_below E b0))
  have B0 := hide' b0
  have HV := hide' hv
  have EV := hide' E
  have cT := hide' (fun W (u : Value) (h : HoldsF W u fs) (hE : Er W) => ofResTok s k r m fs u W h hb hE)
  have cR := hide' (fun W (h : Below w.heap.size w W) => ofResRef s k r m fs _ W (holdsF_mono hv h) hb)
  unfold ansV at cT cR
  generalize respOf s k fs m = Q at cT cR
  obtain ⟨x1, x2, x3⟩ := Q
  simp only at cT cR
  clear hv b0 E
  go_enter Tryd.func4, Tryd.ntmps4
  go_wp2_with fail
  refine C0.out.mono ?_
  rintro e w1 ⟨rfl, b1⟩
  have B1 := hide' (bt' B0.out b1)
  have Q1 := hide' (quad_below Q0.out b1)
  clear b1 C0 Q0 B0
  obtain ⟨i0, i1, i2, i3, _⟩ := Q1.out
  go_wp2_with fail
  refine (copyRs s k r fs _ _ (holdsF_mono HV.out B1.out) (by omega)).mono ?_
  rintro e w2 ⟨u, rfl, ho⟩
  have B2 := hide' (bt' B1.out ho.2)
  have Q2 := hide' (quad_below Q1.out ho.2)
  have F2 := hide' (holdsF_own ho)
  obtain ⟨ua, uc, ub, uo, hu, _⟩ := holdsF_parts F2.out
  subst hu
  clear ho i0 i1 i2 i3 Q1 B1
  have b3 := below_alloc' w2 (.cells #[.int .i64 s, .string ⟨r.toArray⟩, .int .i64 k, .slice ua fs.length uc] 35)
  have P3 := hide' (quad_lit w2 (.int .i64 s) (.string ⟨r.toArray⟩) (.int .i64 k) (.slice ua fs.length uc) 35)
  have B3 := hide' (bt' B2.out b3)
  have Q3 := hide' (quad_below Q2.out b3)
  have F3 := hide' (holdsF_mono F2.out b3)
  clear b3 Q2 F2
  go_wp2_with fail
  refine (cT.out _ _ F3.out (er_below EV.out B3.out)).mono ?_
  rintro e w4 ⟨rfl, b4⟩
  have B4 := hide' (bt' B3.out b4)
  have Q4 := hide' (quad_below Q3.out b4)
  have P4 := hide' (quad_below P3.out b4)
  have F4 := hide' (holdsF_mono F3.out b4)
  clear b4 Q3 P3 F3 B3
  have b5 := below_alloc' w4 (.cells #[.int .i64 x1, .int .i64 x2] 28)
  have D5 := hide' (duo_lit w4 (.int .i64 x1) (.int .i64 x2) 28)
  have B5 := hide' (bt' B4.out b5)
  have Q5 := hide' (quad_below Q4.out b5)
  have P5 := hide' (quad_below P4.out b5)
  have F5 := hide' (holdsF_mono F4.out b5)
  clear b5 Q4 P4 F4
  obtain ⟨i0, i1, i2, i3, _⟩ := Q5.out
  go_wp2_with fail
  refine (cR.out _ B5.out).mono ?_
  rintro e w6 ⟨rfl, b6⟩
  have B6 := hide' (bt' B5.out b6)
  have Q6 := hide' (quad_below Q5.out b6)
  have P6 := hide' (quad_below P5.out b6)
  have D6 := hide' (duo_below D5.out b6)
  have F6 := hide' (holdsF_mono F5.out b6)
  clear b6 Q5 P5 D5 F5 B5 i0 i1 i2 i3
  have b7 := below_alloc' w6 (.cells #[.int .i64 x1, .int .i64 x2] 28)
  have B7 := hide' (bt' B6.out b7)
  have Q7 := hide' (quad_below Q6.out b7)
  have P7 := hide' (quad_below P6.out b7)
  have D7 := hide' (duo_below D6.out b7)
  have F7 := hide' (holdsF_mono F6.out b7)
  clear b7 Q6 P6 D6 F6
  obtain ⟨i0, i1, i2, i3, _⟩ := Q7.out
  obtain ⟨j0, j1, j2, j3, _⟩ := P7.out
  obtain ⟨d0, d1, _⟩ := D7.out
  go_wp2_with fail
  refine (sameRs s k r fs _ _ _ F7.out (holdsF_mono HV.out B7.out) (by omega)).mono ?_
  rintro e w8 ⟨rfl, b8⟩
  have B8 := hide' (bt' B7.out b8)
  clear b8
  go_wp2_with fail
  go_ret
  exact ⟨rfl, B8.out⟩
theorem walk (s : Int) (r : List UInt8) (k : Int) (lv : Value) (fs : FL) (x : ByteArray) (w : World) (hv : HoldsF w lv fs) (hb : bulkF fs ≤ 1048576) (E : Er w) :
    Calls Tryd.prog 4 #[.agg #[.int .i64 s, .string ⟨r.toArray⟩, .int .i64 k, lv], .string x] w fun e w' => e = .returned (.bool true) ∧ Below w.heap.size w w' := by
  have h := walk0 s r k lv fs x.data.toList w hv hb E
  rw [ba_eta] at h
  exact h
end frameResponses
end Go.Proofs.YtnjfahidcbglpaaDoor
