/- The contract of SameMessage: messages that are alike are told as such. -/
import Derived.Test.YtmikgpmnffdnnaaGreatDoorInV
import Derived.Test.YtmikgpmnffdnnaaGreatDoorBf
namespace Go.Proofs.YtmikgpmnffdnnaaGreatDoor
open Go.RowKit
theorem holdsF_nil (w : World) : HoldsF w (.slice none 0 0) [] := holdsF_own (ownF_nil w w (Below.refl _ _))
theorem holdsB_nil (w : World) : HoldsB w (.slice none 0 0) [] := holdsB_own (own_nil w w (Below.refl _ _))
set_option maxRecDepth 20000 in
set_option maxHeartbeats 4000000 in
theorem sameMg (m t : List UInt8) (k : Int) (fs : FL) (s : Int) (r : List UInt8) (k2 : Int) (gs : FL) (bd : List UInt8) (tl : FL) (lva lvb rva rvb bva bvb tva tvb : Value) (w : World)
    (hla : HoldsF w lva fs) (hlb : HoldsF w lvb fs) (hra : HoldsF w rva gs) (hrb : HoldsF w rvb gs) (hba : HoldsB w bva bd) (hbb : HoldsB w bvb bd) (hta : HoldsF w tva tl) (htb : HoldsF w tvb tl)
    (h1 : fs.length ≤ 2000000) (h2 : gs.length ≤ 2000000) (h3 : bd.length ≤ 1000000000000000) (h4 : tl.length ≤ 2000000) :
    Calls Tryz.prog 13 #[.agg #[.string ⟨m.toArray⟩, .string ⟨t.toArray⟩, .int .i64 k, lva, .int .i64 s, .string ⟨r.toArray⟩, .int .i64 k2, rva, bva, tva], .agg #[.string ⟨m.toArray⟩, .string ⟨t.toArray⟩, .int .i64 k, lvb, .int .i64 s, .string ⟨r.toArray⟩, .int .i64 k2, rvb, bvb, tvb]] w fun e w' => e = .returned (.bool true) ∧ Below w.heap.size w w' := by
  have c1 := hide' (fun W (h : Below w.heap.size w W) => sameRq m t k fs lva lvb W (holdsF_mono hla h) (holdsF_mono hlb h) h1)
  have c2 := hide' (fun W (h : Below w.heap.size w W) => sameRs s k2 r gs rva rvb W (holdsF_mono hra h) (holdsF_mono hrb h) h2)
  have c3 := hide' (fun W (h : Below w.heap.size w W) => sameBe bva bvb bd W (holdsB_mono hba h) (holdsB_mono hbb h) h3)
  have c4 := hide' (fun W (h : Below w.heap.size w W) => sameFe tva tvb tl W (holdsF_mono hta h) (holdsF_mono htb h) (by omega))
  obtain ⟨la, lca, _, _, e1, _⟩ := holdsF_parts hla
  obtain ⟨lb, lcb, _, _, e2, _⟩ := holdsF_parts hlb
  obtain ⟨ra, rca, _, _, e3, _⟩ := holdsF_parts hra
  obtain ⟨rb, rcb, _, _, e4, _⟩ := holdsF_parts hrb
  obtain ⟨ba, bca, e5, _⟩ := holdsB_parts hba
  obtain ⟨bb, bcb, e6, _⟩ := holdsB_parts hbb
  obtain ⟨ta, tca, _, _, e7, _⟩ := holdsF_parts hta
  obtain ⟨tb, tcb, _, _, e8, _⟩ := holdsF_parts htb
  subst e1 e2 e3 e4 e5 e6 e7 e8
  have b1 := below_alloc' w (.cells #[.string ⟨m.toArray⟩, .string ⟨t.toArray⟩, .int .i64 k, .slice la fs.length lca, .int .i64 s, .string ⟨r.toArray⟩, .int .i64 k2, .slice ra gs.length rca, .slice ba bd.length bca, .slice ta tl.length tca] 31)
  have b2 := below_alloc' (w.alloc (.cells #[.string ⟨m.toArray⟩, .string ⟨t.toArray⟩, .int .i64 k, .slice la fs.length lca, .int .i64 s, .string ⟨r.toArray⟩, .int .i64 k2, .slice ra gs.length rca, .slice ba bd.length bca, .slice ta tl.length tca] 31)) (.cells #[.string ⟨m.toArray⟩, .string ⟨t.toArray⟩, .int .i64 k, .slice lb fs.length lcb, .int .i64 s, .string ⟨r.toArray⟩, .int .i64 k2, .slice rb gs.length rcb, .slice bb bd.length bcb, .slice tb tl.length tcb] 31)
  have B2 := hide' (bt' b1 b2)
  have P2 := hide' (cells_below (cells_lit w #[.string ⟨m.toArray⟩, .string ⟨t.toArray⟩, .int .i64 k, .slice la fs.length lca, .int .i64 s, .string ⟨r.toArray⟩, .int .i64 k2, .slice ra gs.length rca, .slice ba bd.length bca, .slice ta tl.length tca] 31) b2)
  have q2 := cells_lit (w.alloc (.cells #[.string ⟨m.toArray⟩, .string ⟨t.toArray⟩, .int .i64 k, .slice la fs.length lca, .int .i64 s, .string ⟨r.toArray⟩, .int .i64 k2, .slice ra gs.length rca, .slice ba bd.length bca, .slice ta tl.length tca] 31)) #[.string ⟨m.toArray⟩, .string ⟨t.toArray⟩, .int .i64 k, .slice lb fs.length lcb, .int .i64 s, .string ⟨r.toArray⟩, .int .i64 k2, .slice rb gs.length rcb, .slice bb bd.length bcb, .slice tb tl.length tcb] 31
  rw [show (w.alloc (.cells #[.string ⟨m.toArray⟩, .string ⟨t.toArray⟩, .int .i64 k, .slice la fs.length lca, .int .i64 s, .string ⟨r.toArray⟩, .int .i64 k2, .slice ra gs.length rca, .slice ba bd.length bca, .slice ta tl.length tca] 31)).heap.size = w.heap.size + 1 by simp] at q2
  have Q2 := hide' q2
  clear hla hlb hra hrb hba hbb hta htb b1 b2 q2 h1 h2 h3 h4
  go_enter Tryz.func13, Tryz.ntmps13
  go_wp2_with fail
  refine (c1.out _ B2.out).mono ?_
  rintro e w3 ⟨rfl, b3⟩
  have B3 := hide' (bt' B2.out b3)
  have P3 := hide' (cells_below P2.out b3)
  have Q3 := hide' (cells_below Q2.out b3)
  clear b3 P2 Q2
  obtain ⟨⟨pc0, pc1, pc2, pc3, pc4, pc5, pc6, pc7, pc8, pc9⟩, _⟩ := cells_ten P3.out
  obtain ⟨⟨qc0, qc1, qc2, qc3, qc4, qc5, qc6, qc7, qc8, qc9⟩, _⟩ := cells_ten Q3.out
  go_wp2_with fail
  refine (c2.out _ B3.out).mono ?_
  rintro e w4 ⟨rfl, b4⟩
  clear pc0 qc0 pc1 qc1 pc2 qc2 pc3 qc3 pc4 qc4 pc5 qc5 pc6 qc6 pc7 qc7 pc8 qc8 pc9 qc9
  have B4 := hide' (bt' B3.out b4)
  have P4 := hide' (cells_below P3.out b4)
  have Q4 := hide' (cells_below Q3.out b4)
  clear b4 P3 Q3
  obtain ⟨⟨pc0, pc1, pc2, pc3, pc4, pc5, pc6, pc7, pc8, pc9⟩, _⟩ := cells_ten P4.out
  obtain ⟨⟨qc0, qc1, qc2, qc3, qc4, qc5, qc6, qc7, qc8, qc9⟩, _⟩ := cells_ten Q4.out
  go_wp2_with fail
  refine (c3.out _ B4.out).mono ?_
  rintro e w5 ⟨rfl, b5⟩
  clear pc0 qc0 pc1 qc1 pc2 qc2 pc3 qc3 pc4 qc4 pc5 qc5 pc6 qc6 pc7 qc7 pc8 qc8 pc9 qc9
  have B5 := hide' (bt' B4.out b5)
  have P5 := hide' (cells_below P4.out b5)
  have Q5 := hide' (cells_below Q4.out b5)
  clear b5 P4 Q4
  obtain ⟨⟨pc0, pc1, pc2, pc3, pc4, pc5, pc6, pc7, pc8, pc9⟩, _⟩ := cells_ten P5.out
  obtain ⟨⟨qc0, qc1, qc2, qc3, qc4, qc5, qc6, qc7, qc8, qc9⟩, _⟩ := cells_ten Q5.out
  go_wp2_with fail
  refine (c4.out _ B5.out).mono ?_
  rintro e w6 ⟨rfl, b6⟩
  have B6 := hide' (bt' B5.out b6)
  clear b6
  go_wp2_with fail
  go_ret
  exact ⟨rfl, B6.out⟩
end Go.Proofs.YtmikgpmnffdnnaaGreatDoor
