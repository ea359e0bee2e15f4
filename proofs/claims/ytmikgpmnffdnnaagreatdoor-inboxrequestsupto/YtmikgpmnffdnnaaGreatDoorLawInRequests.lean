/- The walk of InboxRequests. -/
import Derived.Test.YtmikgpmnffdnnaaGreatDoorInA
import Derived.Test.YtmikgpmnffdnnaaGreatDoorInW
import Derived.Test.YtmikgpmnffdnnaaGreatDoorInL
import Derived.Test.YtmikgpmnffdnnaaGreatDoorFdA
namespace Go.Proofs.YtmikgpmnffdnnaaGreatDoor
open Go.RowKit
namespace inboxRequests
set_option maxRecDepth 20000 in
set_option maxHeartbeats 8000000 in
theorem walk (v : Value) (bs : List UInt8) (w : World) (hv : HoldsB w v bs) (hl : bs.length ≤ 1048576) (E : Env w) (R : Er w) :
    Calls Tryz.prog 3 #[v] w fun e w' => e = .returned (.bool true) ∧ Below w.heap.size w w' := by
  have HV := hide' hv
  have EV := hide' E
  have RV := hide' R
  have c0 := hide' (aliveI w E R)
  obtain ⟨s1, s2, s3⟩ := msgQ_size bs
  have cD := hide' (fun W (u : Value) (hb : HoldsB W u bs) (hE : Env W) (hR : Er W) => msgC u bs W hb hE hR (by omega))
  have cR := hide' (fun W (u : Value) (hb : HoldsB W u bs) => msgRef u bs W hb (by omega))
  generalize msgQ bs = D at cD cR s1 s2 s3
  obtain ⟨⟨m, t, k, fs⟩, bd, tl, n, ee⟩ := D
  simp only at s1 s2 s3
  obtain ⟨ao, cap, rfl, _⟩ := hv
  clear E R
  have ml : mks.length = 8 := rfl
  go_enter Tryz.func3, Tryz.ntmps3
  go_wp2_with fail
  refine c0.out.mono ?_
  rintro e w1 ⟨rfl, b1⟩
  have B1 := hide' b1
  clear c0 b1
  go_wp2_with fail
  refine (spareC _ bs _ (holdsB_mono HV.out B1.out) (by omega)).mono ?_
  rintro e w2 ⟨u2, rfl, ho2⟩
  have B2 := hide' (bt' B1.out ho2.2)
  have F2 := hide' (holdsB_own ho2)
  obtain ⟨fb, fc, rfl, hfc, hF⟩ := own_front ho2 (by decide)
  rw [ml] at hfc F2 ⊢
  have HF := hide' hF
  clear ho2 B1 hF
  go_wp2_with fail
  refine (cD.out _ _ HF.out (env_below EV.out B2.out) (er_below RV.out B2.out)).mono ?_
  intro e w3 h
  obtain ⟨la1, lc1, ba1, bc1, ta1, tc1, rfl, G3, b3, _⟩ := ansQ_open h
  simp only at G3 ⊢
  have b4 := below_alloc' w3 (.cells #[.string ⟨m.toArray⟩, .string ⟨t.toArray⟩, .int .i64 k, .slice la1 fs.length lc1, .int .i64 0, .string ⟨#[]⟩, .int .i64 0, .slice none 0 0, .slice ba1 bd.length bc1, .slice ta1 tl.length tc1] 31)
  have P4 := hide' (cells_lit w3 #[.string ⟨m.toArray⟩, .string ⟨t.toArray⟩, .int .i64 k, .slice la1 fs.length lc1, .int .i64 0, .string ⟨#[]⟩, .int .i64 0, .slice none 0 0, .slice ba1 bd.length bc1, .slice ta1 tl.length tc1] 31)
  have B4 := hide' (bt' (bt' B2.out b3) b4)
  have F4 := hide' (holdsB_mono F2.out (bt' b3 b4))
  have G4 := hide' (msgQ_mono G3 b4)
  clear h G3 b3 b4 B2 F2 HF cD
  go_wp2_with fail
  refine (cR.out _ _ (holdsB_mono HV.out B4.out)).mono ?_
  intro e w5 h
  obtain ⟨la2, lc2, ba2, bc2, ta2, tc2, rfl, K5, b5, _⟩ := ansQ_open h
  simp only at K5 ⊢
  have b6 := below_alloc' w5 (.cells #[.string ⟨m.toArray⟩, .string ⟨t.toArray⟩, .int .i64 k, .slice la2 fs.length lc2, .int .i64 0, .string ⟨#[]⟩, .int .i64 0, .slice none 0 0, .slice ba2 bd.length bc2, .slice ta2 tl.length tc2] 31)
  have Q6 := hide' (cells_lit w5 #[.string ⟨m.toArray⟩, .string ⟨t.toArray⟩, .int .i64 k, .slice la2 fs.length lc2, .int .i64 0, .string ⟨#[]⟩, .int .i64 0, .slice none 0 0, .slice ba2 bd.length bc2, .slice ta2 tl.length tc2] 31)
  have P6 := hide' (cells_below (cells_below P4.out b5) b6)
  have B6 := hide' (bt' (bt' B4.out b5) b6)
  have F6 := hide' (holdsB_mono F4.out (bt' b5 b6))
  have G6 := hide' (msgQ_mono G4.out (bt' b5 b6))
  have K6 := hide' (msgQ_mono K5 b6)
  clear h K5 b5 b6 B4 F4 G4 P4 cR
  obtain ⟨⟨pc0, pc1, pc2, pc3, pc4, pc5, pc6, pc7, pc8, pc9⟩, _⟩ := cells_ten P6.out
  obtain ⟨⟨qc0, qc1, qc2, qc3, qc4, qc5, qc6, qc7, qc8, qc9⟩, _⟩ := cells_ten Q6.out
  go_wp2_with fail
  refine (sameQ G6.out K6.out s1 (by omega) s3).mono ?_
  rintro e w7 ⟨rfl, b7⟩
  have B7 := hide' (bt' B6.out b7)
  have F7 := hide' (holdsB_mono F6.out b7)
  clear b7 B6 F6 G6 K6 pc0 qc0 pc1 qc1 pc2 qc2 pc3 qc3 pc4 qc4 pc5 qc5 pc6 qc6 pc7 qc7 pc8 qc8 pc9 qc9
  go_wp2_with fail
  refine (spareC _ bs _ (holdsB_mono HV.out B7.out) (by omega)).mono ?_
  rintro e w8 ⟨u8, rfl, ho8⟩
  have B8 := hide' (bt' B7.out ho8.2)
  have F8 := hide' (holdsB_mono F7.out ho8.2)
  have G8 := hide' (holdsB_own ho8)
  clear ho8 B7 F7
  go_wp2_with fail
  refine (sameBe _ _ (bs ++ mks) _ F8.out G8.out (by rw [List.length_append]; omega)).mono ?_
  rintro e w9 ⟨rfl, b9⟩
  have B9 := hide' (bt' B8.out b9)
  clear b9
  go_wp2_with fail
  go_ret
  exact ⟨rfl, B9.out⟩
end inboxRequests
end Go.Proofs.YtmikgpmnffdnnaaGreatDoor
