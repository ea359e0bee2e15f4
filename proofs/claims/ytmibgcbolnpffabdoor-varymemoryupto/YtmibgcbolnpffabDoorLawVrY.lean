/- The walk of VaryMemory. -/
import Derived.Test.YtmibgcbolnpffabDoorVrA
import Derived.Test.YtmibgcbolnpffabDoorVrR
import Derived.Test.YtmibgcbolnpffabDoorRwP
namespace Go.Proofs.YtmibgcbolnpffabDoor
open Go.RowKit
set_option maxHeartbeats 4000000 in
set_option maxRecDepth 20000 in
theorem memoryVW (v : Value) (fs : FL) (w : World) (hv : HoldsF w v fs) (hb : bulkF fs ≤ 1048576) :
    Calls Tryd.prog 3 #[v] w fun e w' => e = .returned (.bool true) ∧ Below w.heap.size w w' := by
  have HV := hide' hv
  have hnl : (namesV fs).length ≤ 1048576 := by have h1 := bulk_names fs; have h2 := bulkT_len (namesV fs); omega
  have CN := hide' (fun W (h : Below w.heap.size w W) => namesC v fs W (holdsF_mono hv h) hb)
  have CR := hide' (fun W (h : Below w.heap.size w W) => namesRC v fs W (holdsF_mono hv h) hb)
  have c0 := hide' (aliveV w)
  obtain ⟨aa, ac, _, _, ev, _⟩ := holdsF_parts hv
  subst ev
  generalize namesB fs = nb at CN CR
  generalize namesV fs = nv at CN CR hnl
  clear hv hb
  go_enter Tryd.func3, Tryd.ntmps3
  go_wp2_with fail
  refine c0.out.mono ?_
  rintro e w1 ⟨rfl, b1⟩
  have B1 := hide' b1
  clear c0 b1
  go_wp2_with fail
  refine (CN.out w1 B1.out).mono ?_
  rintro e w2 ⟨ua, rfl, hoa⟩
  have B2 := hide' (bt' B1.out hoa.2)
  have OA := hide' hoa
  obtain ⟨a2, c2, _, _, e2, _⟩ := holds_parts (holds_own hoa)
  have EA := hide' e2
  rw [e2]
  clear hoa e2
  go_wp2_with fail
  refine (CN.out w2 B2.out).mono ?_
  rintro e w3 ⟨ub, rfl, hob⟩
  have B3 := hide' (bt' B2.out hob.2)
  have OB := hide' hob
  obtain ⟨a3, c3, _, _, e3, _⟩ := holds_parts (holds_own hob)
  have EB := hide' e3
  rw [e3]
  have OA3 := hide' (ownS_mono OA.out hob.2)
  have z23 := hide' hob.2.size
  clear hob e3 CN
  go_wp2_with fail
  refine (CR.out w3 B3.out).mono ?_
  rintro e w4 ⟨uc, rfl, hoc⟩
  have B4 := hide' (bt' B3.out hoc.2)
  have OC := hide' hoc
  obtain ⟨a4, c4, _, _, e4, _⟩ := holds_parts (holds_own hoc)
  have EC := hide' e4
  rw [e4]
  have OA4 := hide' (ownS_mono OA3.out hoc.2)
  have OB4 := hide' (ownS_mono OB.out hoc.2)
  clear hoc e4 CR OA3
  have c5 := hide' (fun W (h : Below w4.heap.size w4 W) => sameTv ua uc nv W (holds_mono (holds_own OA4.out) h) (holds_mono (holds_own OC.out) h) (by omega))
  have c6 := hide' (fun W (h : Below w4.heap.size w4 W) => sameTv ub uc nv W (holds_mono (holds_own OB4.out) h) (holds_mono (holds_own OC.out) h) (by omega))
  have c7 := hide' (fun W (h1 : Holds W ub nv) (h2 : Holds W uc nv) => sameTv ub uc nv W h1 h2 (by omega))
  rw [EA.out, EC.out] at c5
  rw [EB.out, EC.out] at c6 c7
  go_wp2_with fail
  refine (c5.out _ (Below.refl _ _)).mono ?_
  rintro e w5 ⟨rfl, b5⟩
  have G5 := hide' b5
  clear b5 c5
  go_wp2_with fail
  refine (c6.out _ G5.out).mono ?_
  rintro e w6 ⟨rfl, b6⟩
  have G6 := hide' (bt' G5.out b6)
  clear b6 c6 G5
  have OA6 := hide' (ownS_mono OA4.out G6.out)
  have OB6 := hide' (ownS_mono OB4.out G6.out)
  have OC6 := hide' (ownS_mono OC.out G6.out)
  have B6 := hide' (bt' B4.out G6.out)
  clear OA4 OB4 OB OC G6 B4
  by_cases hne : nv = []
  · have HE : Hid (nv.length = 0) := by unfold Hid; rw [hne]; rfl
    have H1 := hide' (holds_own OB6.out)
    have H2 := hide' (holds_own OC6.out)
    rw [EB.out] at H1
    rw [EC.out] at H2
    have c8 := hide' (c7.out w6 H1.out H2.out)
    rw [HE.out] at c8 ⊢
    clear hne
    go_wp2_with fail
    go_loopw [9] (fun i wr => i = .int .i64 0 ∧ wr = w6) (fun _ _ => 0)
    case atStart => exact ⟨rfl, rfl⟩
    case round =>
      obtain ⟨rfl, ew⟩ := hrel
      subst ew
      go_wp2_with fail
      refine c8.out.mono ?_
      rintro e w9 ⟨rfl, b9⟩
      have B9 := hide' (bt' B6.out b9)
      clear b9
      go_wp2_with fail
      go_ret
      exact ⟨rfl, B9.out⟩
  · obtain ⟨g, cap, hva, hg1, hg2, hrow⟩ := ownS_shape OA6.out hne
    have R : Hid (Row w1 g nv.length cap w6) := hrow
    have G2 : Hid (g < w2.heap.size) := by
      obtain ⟨g', cap', hv', _, h2, _⟩ := ownS_shape OA.out hne
      rw [hva] at hv'
      simp at hv'
      unfold Hid
      omega
    have ea : a2 = some ⟨g, 0, none⟩ ∧ c2 = cap := by
      have := EA.out
      rw [hva] at this
      simp at this
      exact ⟨this.1.symm, this.2.symm⟩
    obtain ⟨rfl, rfl⟩ := ea
    have GW : Hid (w.heap.size ≤ g) := by have := B1.out.size; unfold Hid; omega
    have hg3 := G2.out
    have z3 := z23.out
    clear hva hrow hne
    obtain ⟨nn, enn⟩ : ∃ nn, nn = nv.length := ⟨_, rfl⟩
    have NN : Hid (nv.length = nn) := enn.symm
    rw [NN.out] at R hnl
    rw [NN.out]
    clear enn
    go_wp2_with fail
    go_loopw [9] (fun i wr => ∃ k : Nat, k ≤ nn ∧ i = .int .i64 k ∧ Hid (Row w1 g nn c2 wr) ∧ Hid (Part g w6 wr)) (fun i _ => nn - (intOf i).toNat)
    case atStart => exact ⟨0, by omega, rfl, R, part_refl _ _⟩
    case round =>
      clear R
      obtain ⟨k, hk, rfl, R, P⟩ := hrel
      by_cases hlt : k < nn
      · obtain ⟨⟨v0, ck⟩, fk⟩ := row_cell R.out hlt
        go_wp2_with fail
        go_roundw
        case rel => exact ⟨k + 1, by omega, by go_num, row_store R.out k _, part_store P.out k _⟩
        case measure => simp [intOf]; omega
      · have L1 : Hid (Holds wr ub nv) := holds_part OB6.out G2.out P.out
        have L2 : Hid (Holds wr uc nv) := holds_part OC6.out (by have := G2.out; omega) P.out
        have BP : Hid (Below w.heap.size w wr) := B6.out.trans (part_below P.out w.heap.size GW.out B6.out.size)
        rw [EB.out] at L1
        rw [EC.out] at L2
        have c8 := hide' (c7.out wr L1.out L2.out)
        rw [NN.out] at c8
        go_wp2_with fail
        refine c8.out.mono ?_
        rintro e w7 ⟨rfl, b7⟩
        have B7 := hide' (bt' BP.out b7)
        clear b7
        go_wp2_with fail
        go_ret
        exact ⟨rfl, B7.out⟩
end Go.Proofs.YtmibgcbolnpffabDoor
