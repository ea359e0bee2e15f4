/- The walk of RecMemory. -/
import Derived.Test.YtnbidckmekmcfabRcA
import Derived.Test.YtnbidckmekmcfabRcH
import Derived.Test.YtnbidckmekmcfabAp2
namespace Go.Proofs.Ytnbidckmekmcfab
open Go.RowKit
theorem encOf_lenM (seq op no : Int) (id : List UInt8) : (encOf seq op no id).1.length ≤ 4111 := by
  unfold encOf
  split
  · split
    · show (recL _ _ _ id).length ≤ _
      rw [recL_len]; omega
    · simp
  · simp
set_option maxRecDepth 20000 in
set_option maxHeartbeats 4000000 in
theorem memoryW (seq op no : Int) (id : List UInt8) (W : World) (hl : id.length ≤ 140737488351232) :
    Calls Try.prog 3 #[recV seq op no id] W fun e w' => e = .returned (.bool true) ∧ Below W.heap.size W w' := by
  have cE := hide' (fun w => encC seq op no id w (by omega))
  have cR := hide' (fun w => encRC seq op no id w (by omega))
  have ll := encOf_lenM seq op no id
  generalize (encOf seq op no id).1 = L at cE cR ll
  generalize (encOf seq op no id).2 = er at cE cR
  unfold recV at cE cR ⊢
  obtain ⟨B0, hB0⟩ : ∃ B0, B0 = W.alloc (.cells #[.int .i64 seq, .int .i64 op, .int .i64 no, .string ⟨id.toArray⟩] 23) := ⟨_, rfl⟩
  have Q0 := quad_lit W (.int .i64 seq) (.int .i64 op) (.int .i64 no) (.string ⟨id.toArray⟩) 23
  have L0 := below_alloc' W (.cells #[.int .i64 seq, .int .i64 op, .int .i64 no, .string ⟨id.toArray⟩] 23)
  have HB0 := hide' hB0
  rw [← hB0] at Q0 L0
  have LB := hide' L0
  have HQ := hide' Q0
  clear hB0 L0 Q0
  go_enter Try.func3, Try.ntmps3
  go_wp2_with fail
  rw [← HB0.out]
  refine (aliveC B0).mono ?_
  rintro e w1 ⟨rfl, b1⟩
  obtain ⟨q0, q1, q2, q3, -, -, -, -, qz⟩ := quad_below HQ.out b1
  have B1 := hide' (LB.out.trans (b1.mono LB.out.size))
  have HQ1 := hide' (quad_below HQ.out b1)
  clear b1
  go_wp2_with fail
  refine (cE.out w1).mono ?_
  rintro e w2 ⟨a, rfl, ho⟩
  obtain ⟨y0, y1, y2, y3, -, -, -, -, yz⟩ := quad_below HQ1.out ho.2
  have HQ2 := hide' (quad_below HQ1.out ho.2)
  have B2 := hide' (B1.out.trans (ho.2.mono B1.out.size))
  have O2 := hide' ho
  clear ho q0 q1 q2 q3 qz
  go_wp2_with fail
  refine (cE.out w2).mono ?_
  rintro e w3 ⟨b, rfl, ho⟩
  obtain ⟨q0, q1, q2, q3, -, -, -, -, qz⟩ := quad_below HQ2.out ho.2
  have B3 := hide' (B2.out.trans (ho.2.mono B2.out.size))
  have O3 := hide' ho
  have O2b := hide' (own_mono O2.out ho.2)
  clear ho y0 y1 y2 y3 yz
  go_wp2_with fail
  refine (cR.out w3).mono ?_
  rintro e w4 ⟨c, rfl, ho⟩
  have B4 := hide' (B3.out.trans (ho.2.mono B3.out.size))
  have O2c := hide' (own_mono O2b.out ho.2)
  have O3c := hide' (own_mono O3.out ho.2)
  have S4 := hide' (sameBe a c L w4 (holdsB_own O2c.out) (holdsB_own ho) (by omega))
  have H4 := hide' (holdsB_own ho)
  clear ho q0 q1 q2 q3 qz
  go_wp2_with fail
  refine S4.out.mono ?_
  rintro e w5 ⟨rfl, b5⟩
  have B5 := hide' (B4.out.trans (b5.mono B4.out.size))
  have O2d := hide' (own_mono O2c.out b5)
  have O3d := hide' (own_mono O3c.out b5)
  have S5 := hide' (sameBe b c L w5 (holdsB_own O3d.out) (holdsB_mono H4.out b5) (by omega))
  clear b5
  go_wp2_with fail
  refine S5.out.mono ?_
  rintro e w6 ⟨rfl, b6⟩
  have B6 := hide' (B5.out.trans (b6.mono B5.out.size))
  have O2e := hide' (own_mono O2d.out b6)
  have O3e := hide' (own_mono O3d.out b6)
  have la : ∀ k, a.ownBlock = some k → w1.heap.size ≤ k ∧ k < w2.heap.size := fun k e => O2.out.1.lt k e
  have lb : ∀ k, b.ownBlock = some k → w2.heap.size ≤ k ∧ k < w3.heap.size := fun k e => O3.out.1.lt k e
  have AP := hide' (apartT w6 a b L.length (L.map B) (L.map B) (rowB_ofA O2e.out) (rowB_ofA O3e.out) (fun k e1 e2 => by have := la k e1; have := lb k e2; omega) (by omega))
  have FIN : Hid (∀ w7, Far (fun k => a.ownBlock = some k ∨ b.ownBlock = some k) w6 w7 → Below W.heap.size W w7) := fun w7 hf => by
    refine B6.out.trans (below_far hf W.heap.size B6.out.size ?_)
    rintro k (e | e)
    · have := (la k e).1; have := B1.out.size; omega
    · have := (lb k e).1; have := B2.out.size; omega
  clear b6 la lb
  obtain ⟨aa, an, ac, hav⟩ : ∃ aa an ac, a = .slice aa an ac := by obtain ⟨x, y, e, _⟩ := holdsB_own O2e.out; exact ⟨x, _, y, e⟩
  obtain ⟨ba, bn, bc, hbv⟩ : ∃ aa an ac, b = .slice aa an ac := by obtain ⟨x, y, e, _⟩ := holdsB_own O3e.out; exact ⟨x, _, y, e⟩
  subst hav hbv
  go_wp2_with fail
  refine AP.out.mono ?_
  rintro e w7 ⟨rfl, hf⟩
  have B7 := hide' (FIN.out w7 hf)
  clear hf
  go_wp2_with fail
  go_ret
  exact ⟨rfl, B7.out⟩
end Go.Proofs.Ytnbidckmekmcfab
