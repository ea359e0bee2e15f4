/- The walk of InboxResponses. -/
import Derived.Test.YtmikgpmnffdnnaaGreatDoorIrT
import Derived.Test.YtmikgpmnffdnnaaGreatDoorIrW
import Derived.Lib.SlBytesConst
import Derived.Test.YtmikgpmnffdnnaaGreatDoorInL
import Derived.Test.YtmikgpmnffdnnaaGreatDoorFdA
namespace Go.Proofs.YtmikgpmnffdnnaaGreatDoor
open Go.RowKit
def aliveR : List UInt8 := [72, 84, 84, 80, 47, 49, 46, 49, 32, 50, 48, 48]
set_option maxRecDepth 20000 in
theorem mark_aliveR (W : World) : Sem.run Tryz.prog (convert 22 22 (.slice (some ⟨W.heap.size, 0, none⟩) 12 12)) (W.alloc (.cells #[.int .u8 72, .int .u8 84, .int .u8 84, .int .u8 80, .int .u8 47, .int .u8 49, .int .u8 46, .int .u8 49, .int .u8 32, .int .u8 50, .int .u8 48, .int .u8 48] 5)) = .ok (.slice (some ⟨W.heap.size, 0, none⟩) 12 12) (W.alloc (.cells #[.int .u8 72, .int .u8 84, .int .u8 84, .int .u8 80, .int .u8 47, .int .u8 49, .int .u8 46, .int .u8 49, .int .u8 32, .int .u8 50, .int .u8 48, .int .u8 48] 5 (12, 13))) :=
  Lib.run_convert_bytes_const W 22 5 #[.int .u8 72, .int .u8 84, .int .u8 84, .int .u8 80, .int .u8 47, .int .u8 49, .int .u8 46, .int .u8 49, .int .u8 32, .int .u8 50, .int .u8 48, .int .u8 48] 12 12 Tryz.underlying22 Tryz.underlying5
set_option maxRecDepth 20000 in
theorem aliveR_at (j : Nat) (hj : j < aliveR.length) : (#[.int .u8 72, .int .u8 84, .int .u8 84, .int .u8 80, .int .u8 47, .int .u8 49, .int .u8 46, .int .u8 49, .int .u8 32, .int .u8 50, .int .u8 48, .int .u8 48] : Array Value)[0 + j]? = some (B aliveR[j]) := by
  rw [show (#[.int .u8 72, .int .u8 84, .int .u8 84, .int .u8 80, .int .u8 47, .int .u8 49, .int .u8 46, .int .u8 49, .int .u8 32, .int .u8 50, .int .u8 48, .int .u8 48] : Array Value) = (aliveR.map B).toArray from rfl]
  simp [hj]
set_option maxRecDepth 20000 in
theorem aliveR_holds (W : World) : HoldsB (W.alloc (.cells #[.int .u8 72, .int .u8 84, .int .u8 84, .int .u8 80, .int .u8 47, .int .u8 49, .int .u8 46, .int .u8 49, .int .u8 32, .int .u8 50, .int .u8 48, .int .u8 48] 5 (12, 13))) (.slice (some ⟨W.heap.size, 0, none⟩) 12 12) aliveR := by
  refine ⟨_, 12, rfl, (fun e => by cases e), Nat.le_refl _, fun _ => ⟨W.heap.size, 0, rfl, by simp, fun j hj => ?_⟩⟩
  rw [World.cell?_alloc_mark]
  exact aliveR_at j hj
theorem aliveR_e : (msgR aliveR [71, 69, 84] true).2.2.2.2 = 80 := by decide +kernel
namespace inboxResponses
set_option maxRecDepth 20000 in
set_option maxHeartbeats 8000000 in
theorem walk0 (v : Value) (bs : List UInt8) (me : List UInt8) (ended : Bool) (w : World) (hv : HoldsB w v bs) (hl : bs.length ≤ 1048576) (E : Env w) (R : Er w) :
    Calls Tryz.prog 4 #[v, .string ⟨me.toArray⟩, .bool ended] w fun e w' => e = .returned (.bool true) ∧ Below w.heap.size w w' := by
  have HV := hide' hv
  have EV := hide' E
  have RV := hide' R
  have kc := mark_aliveR w
  have b0 := below_alloc' w (.cells #[.int .u8 72, .int .u8 84, .int .u8 84, .int .u8 80, .int .u8 47, .int .u8 49, .int .u8 46, .int .u8 49, .int .u8 32, .int .u8 50, .int .u8 48, .int .u8 48] 5 (12, 13))
  have c0 := hide' (msrC _ aliveR [71, 69, 84] true _ (aliveR_holds w) (env_below E b0) (er_below R b0) (by decide))
  have B0 := hide' b0
  have hal := aliveR_e
  generalize msgR aliveR [71, 69, 84] true = D0 at c0 hal
  obtain ⟨⟨as0, ar, ak, afs⟩, abd, atl, an, ae⟩ := D0
  simp only at hal
  subst hal
  obtain ⟨s1, s2, s3⟩ := msgR_size bs me ended
  have cD := hide' (fun W (u : Value) (hb : HoldsB W u bs) (hE : Env W) (hR : Er W) => msrC u bs me ended W hb hE hR (by omega))
  have cR := hide' (fun W (u : Value) (hb : HoldsB W u bs) => msrRef u bs me ended W hb (by omega))
  generalize msgR bs me ended = D at cD cR s1 s2 s3
  obtain ⟨⟨s, r, k, fs⟩, bd, tl, n, ee⟩ := D
  simp only at s1 s2 s3
  obtain ⟨ao, cap, rfl, _⟩ := hv
  clear E R b0
  have ml : mks.length = 8 := rfl
  go_enter Tryz.func4, Tryz.ntmps4
  go_wp2_with fail
  refine c0.out.mono ?_
  intro e w0 h
  obtain ⟨zla, zlc, zba, zbc, zta, ztc, rfl, _, b1, _⟩ := ansR_open h
  simp only
  obtain ⟨w1, hw1⟩ : ∃ w1, w1 = w0.alloc (.cells #[.string ⟨#[]⟩, .string ⟨#[]⟩, .int .i64 0, .slice none 0 0, .int .i64 as0, .string ⟨ar.toArray⟩, .int .i64 ak, .slice zla afs.length zlc, .slice zba abd.length zbc, .slice zta atl.length ztc] 31) := ⟨_, rfl⟩
  have B1 : Hid (Below w.heap.size w w1) := by rw [hw1]; exact bt' (bt' B0.out b1) (below_alloc' _ _)
  clear c0 b1 h kc B0
  go_wp2_with fail
  rw [← hw1]
  clear hw1
  refine (spareC _ bs _ (holdsB_mono HV.out B1.out) (by omega)).mono ?_
  rintro e w2 ⟨u2, rfl, ho2⟩
  have B2 := hide' (bt' B1.out ho2.2)
  have F2 := hide' (holdsB_own ho2)
  obtain ⟨fb, fc, rfl, hfc, hF⟩ := own_front ho2 (by decide)
  rw [ml] at hfc F2 ⊢
  have HF := hide' hF
  clear ho2 B1 hF
  go_wp2_with fail
  refine (cD.out _ _ HF.out (env_below EV.out B2.out) (er_below RV.out B2.out)).mono ?_
  intro e w3 h
  obtain ⟨la1, lc1, ba1, bc1, ta1, tc1, rfl, G3, b3, _⟩ := ansR_open h
  simp only at G3 ⊢
  have b4 := below_alloc' w3 (.cells #[.string ⟨#[]⟩, .string ⟨#[]⟩, .int .i64 0, .slice none 0 0, .int .i64 s, .string ⟨r.toArray⟩, .int .i64 k, .slice la1 fs.length lc1, .slice ba1 bd.length bc1, .slice ta1 tl.length tc1] 31)
  have P4 := hide' (cells_lit w3 #[.string ⟨#[]⟩, .string ⟨#[]⟩, .int .i64 0, .slice none 0 0, .int .i64 s, .string ⟨r.toArray⟩, .int .i64 k, .slice la1 fs.length lc1, .slice ba1 bd.length bc1, .slice ta1 tl.length tc1] 31)
  have B4 := hide' (bt' (bt' B2.out b3) b4)
  have F4 := hide' (holdsB_mono F2.out (bt' b3 b4))
  have G4 := hide' (msgR_mono G3 b4)
  clear h G3 b3 b4 B2 F2 HF cD
  go_wp2_with fail
  refine (cR.out _ _ (holdsB_mono HV.out B4.out)).mono ?_
  intro e w5 h
  obtain ⟨la2, lc2, ba2, bc2, ta2, tc2, rfl, K5, b5, _⟩ := ansR_open h
  simp only at K5 ⊢
  have b6 := below_alloc' w5 (.cells #[.string ⟨#[]⟩, .string ⟨#[]⟩, .int .i64 0, .slice none 0 0, .int .i64 s, .string ⟨r.toArray⟩, .int .i64 k, .slice la2 fs.length lc2, .slice ba2 bd.length bc2, .slice ta2 tl.length tc2] 31)
  have Q6 := hide' (cells_lit w5 #[.string ⟨#[]⟩, .string ⟨#[]⟩, .int .i64 0, .slice none 0 0, .int .i64 s, .string ⟨r.toArray⟩, .int .i64 k, .slice la2 fs.length lc2, .slice ba2 bd.length bc2, .slice ta2 tl.length tc2] 31)
  have P6 := hide' (cells_below (cells_below P4.out b5) b6)
  have B6 := hide' (bt' (bt' B4.out b5) b6)
  have F6 := hide' (holdsB_mono F4.out (bt' b5 b6))
  have G6 := hide' (msgR_mono G4.out (bt' b5 b6))
  have K6 := hide' (msgR_mono K5 b6)
  clear h K5 b5 b6 B4 F4 G4 P4 cR
  obtain ⟨⟨pc0, pc1, pc2, pc3, pc4, pc5, pc6, pc7, pc8, pc9⟩, _⟩ := cells_ten P6.out
  obtain ⟨⟨qc0, qc1, qc2, qc3, qc4, qc5, qc6, qc7, qc8, qc9⟩, _⟩ := cells_ten Q6.out
  go_wp2_with fail
  refine (sameR G6.out K6.out s1 (by omega) s3).mono ?_
  rintro e w7 ⟨rfl, b7⟩
  have B7 := hide' (bt' B6.out b7)
  have F7 := hide' (holdsB_mono F6.out b7)
  clear b7 B6 F6 G6 K6 pc0 qc0 pc1 qc1 pc2 qc2 pc3 qc3 pc4 qc4 pc5 qc5 pc6 qc6 pc7 qc7 pc8 qc8 pc9 qc9
  go_wp2_with fail
  refine (spareC _ bs _ (holdsB_mono HV.out B7.out) (by omega)).mono ?_
  rintro e w8 ⟨u8, rfl, ho8⟩
  have B8 := hide' (bt' B7.out ho8.2)
  have F8 := hide' (holdsB_mono F7.out ho8.2)
  have G8 := hide' (holdsB_own ho8)
  clear ho8 B7 F7
  go_wp2_with fail
  refine (sameBe _ _ (bs ++ mks) _ F8.out G8.out (by rw [List.length_append]; omega)).mono ?_
  rintro e w9 ⟨rfl, b9⟩
  have B9 := hide' (bt' B8.out b9)
  clear b9
  go_wp2_with fail
  go_ret
  exact ⟨rfl, B9.out⟩
theorem walk (v : Value) (bs : List UInt8) (x : ByteArray) (ended : Bool) (w : World) (hv : HoldsB w v bs) (hl : bs.length ≤ 1048576) (E : Env w) (R : Er w) :
    Calls Tryz.prog 4 #[v, .string x, .bool ended] w fun e w' => e = .returned (.bool true) ∧ Below w.heap.size w w' := by
  have h := walk0 v bs x.data.toList ended w hv hl E R
  rw [ba_eta] at h
  exact h
end inboxResponses
end Go.Proofs.YtmikgpmnffdnnaaGreatDoor
