/- The walk of VaryNames. -/
import Derived.Test.YtmibgcbolnpffaaDoorVrA
import Derived.Test.YtmibgcbolnpffaaDoorVrR
namespace Go.Proofs.YtmibgcbolnpffaaDoor
open Go.RowKit
set_option maxHeartbeats 4000000 in
set_option maxRecDepth 20000 in
theorem namesW (v : Value) (fs : FL) (w : World) (hv : HoldsF w v fs) (hb : bulkF fs ≤ 1048576) :
    Calls Tryd.prog 3 #[v] w fun e w' => e = .returned (.bool true) ∧ Below w.heap.size w w' := by
  have HV := hide' hv
  have hfl := bulkF_len fs
  have hf2 : fs.length ≤ 1048576 := by omega
  have hnl : (namesV fs).length ≤ 1048576 := by have h1 := bulk_names fs; have h2 := bulkT_len (namesV fs); omega
  have CN := hide' (fun u W (h : HoldsF W u fs) => namesC u fs W h hb)
  have CR := hide' (fun u W (h : HoldsF W u fs) => namesRC u fs W h hb)
  have c0 := hide' (aliveV w)
  have CF := hide' (fun W (h : Below w.heap.size w W) => copyF v fs W (holdsF_mono hv h) (by omega))
  obtain ⟨aa, ac, _, _, ev, _⟩ := holdsF_parts hv
  subst ev
  generalize namesB fs = nb at CN CR
  generalize namesV fs = nv at CN CR hnl
  clear hv hb
  go_enter Tryd.func3, Tryd.ntmps3
  go_wp2_with fail
  refine c0.out.mono ?_
  rintro e w1 ⟨rfl, b1⟩
  have B1 := hide' b1
  clear c0 b1
  go_wp2_with fail
  refine (CF.out w1 B1.out).mono ?_
  rintro e w2 ⟨u2, rfl, ho2⟩
  have B2 := hide' (bt' B1.out ho2.2)
  have H2 := hide' (holdsF_own ho2)
  obtain ⟨a2, c2, _, _, e2, _⟩ := holdsF_parts (holdsF_own ho2)
  rw [e2] at H2 ⊢
  clear ho2 B1 e2
  go_wp2_with fail
  refine (CN.out _ w2 H2.out).mono ?_
  rintro e w3 ⟨u3, rfl, ho3⟩
  have B3 := hide' (bt' B2.out ho3.2)
  have H3 := hide' (holdsF_mono H2.out ho3.2)
  have T3 := hide' (holds_own ho3)
  obtain ⟨a3, c3, _, _, e3, _⟩ := holds_parts (holds_own ho3)
  rw [e3] at T3 ⊢
  clear ho3 B2 H2 e3
  go_wp2_with fail
  refine (CR.out _ w3 (holdsF_mono HV.out B3.out)).mono ?_
  rintro e w4 ⟨u4, rfl, ho4⟩
  have B4 := hide' (bt' B3.out ho4.2)
  have H4 := hide' (holdsF_mono H3.out ho4.2)
  have T4 := hide' (holds_mono T3.out ho4.2)
  have R4 := hide' (holds_own ho4)
  obtain ⟨a4, c4, _, _, e4, _⟩ := holds_parts (holds_own ho4)
  rw [e4] at R4 ⊢
  clear ho4 B3 H3 T3 e4
  have c5 := hide' (sameTv _ _ nv w4 T4.out R4.out (by omega))
  go_wp2_with fail
  refine c5.out.mono ?_
  rintro e w5 ⟨rfl, b5⟩
  have B5 := hide' (bt' B4.out b5)
  have H5 := hide' (holdsF_mono H4.out b5)
  have c6 := hide' (sameFe _ _ fs w5 H5.out (holdsF_mono HV.out B5.out) (by omega))
  clear b5 c5 B4 H4 T4 R4
  go_wp2_with fail
  refine c6.out.mono ?_
  rintro e w6 ⟨rfl, b6⟩
  have B6 := hide' (bt' B5.out b6)
  clear b6 c6 B5 H5
  go_wp2_with fail
  go_ret
  exact ⟨rfl, B6.out⟩
end Go.Proofs.YtmibgcbolnpffaaDoor
