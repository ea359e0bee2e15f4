/- The walk of RecEncodes. -/
import Derived.Test.YtnbidckmekmcfaaRcA
import Derived.Test.YtnbidckmekmcfaaRcH
namespace Go.Proofs.Ytnbidckmekmcfaa
open Go.RowKit
theorem encOf_len (seq op no : Int) (id : List UInt8) : (encOf seq op no id).1.length ≤ 4111 := by
  unfold encOf
  split
  · split
    · show (recL _ _ _ id).length ≤ _
      rw [recL_len]; omega
    · simp
  · simp
set_option maxRecDepth 20000 in
set_option maxHeartbeats 4000000 in
theorem encodesW (seq op no : Int) (id : List UInt8) (W : World) (hl : id.length ≤ 140737488351232) :
    Calls Try.prog 4 #[recV seq op no id] W fun e w' => e = .returned (.bool true) ∧ Below W.heap.size W w' := by
  have cE := hide' (fun w => encC seq op no id w (by omega))
  have cR := hide' (fun w => encRC seq op no id w (by omega))
  have ll := encOf_len seq op no id
  generalize (encOf seq op no id).1 = L at cE cR ll
  generalize (encOf seq op no id).2 = er at cE cR
  unfold recV at cE cR ⊢
  obtain ⟨B0, hB0⟩ : ∃ B0, B0 = W.alloc (.cells #[.int .i64 seq, .int .i64 op, .int .i64 no, .string ⟨id.toArray⟩] 29) := ⟨_, rfl⟩
  have Q0 := quad_lit W (.int .i64 seq) (.int .i64 op) (.int .i64 no) (.string ⟨id.toArray⟩) 29
  have L0 := below_alloc' W (.cells #[.int .i64 seq, .int .i64 op, .int .i64 no, .string ⟨id.toArray⟩] 29)
  have HB0 := hide' hB0
  rw [← hB0] at Q0 L0
  have LB := hide' L0
  have HQ := hide' Q0
  clear hB0 L0 Q0
  go_enter Try.func4, Try.ntmps4
  go_wp2_with fail
  rw [← HB0.out]
  refine (aliveC B0).mono ?_
  rintro e w1 ⟨rfl, b1⟩
  obtain ⟨q0, q1, q2, q3, -, -, -, -, qz⟩ := quad_below HQ.out b1
  have B1 := hide' (LB.out.trans (b1.mono LB.out.size))
  have HQ1 := hide' (quad_below HQ.out b1)
  clear b1
  go_wp2_with fail
  refine (cE.out w1).mono ?_
  rintro e w2 ⟨a, rfl, ho⟩
  obtain ⟨y0, y1, y2, y3, -, -, -, -, yz⟩ := quad_below HQ1.out ho.2
  have B2 := hide' (B1.out.trans (ho.2.mono B1.out.size))
  have H2 := hide' (holdsB_own ho)
  clear ho q0 q1 q2 q3 qz
  go_wp2_with fail
  refine (cR.out w2).mono ?_
  rintro e w3 ⟨b, rfl, ho3⟩
  have B3 := hide' (B2.out.trans (ho3.2.mono B2.out.size))
  have S3 := hide' (sameBe a b L w3 (holdsB_mono H2.out ho3.2) (holdsB_own ho3) (by omega))
  clear ho3 y0 y1 y2 y3 yz
  go_wp2_with fail
  refine S3.out.mono ?_
  rintro e w4 ⟨rfl, b4⟩
  have B4 := hide' (B3.out.trans (b4.mono B3.out.size))
  clear b4
  go_wp2_with fail
  go_ret
  exact ⟨rfl, B4.out⟩
end Go.Proofs.Ytnbidckmekmcfaa
