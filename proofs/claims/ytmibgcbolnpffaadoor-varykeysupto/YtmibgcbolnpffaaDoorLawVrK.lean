/- The walk of VaryKeys. -/
import Derived.Test.YtmibgcbolnpffaaDoorVrA
import Derived.Test.YtmibgcbolnpffaaDoorVrS
namespace Go.Proofs.YtmibgcbolnpffaaDoor
open Go.RowKit
set_option maxHeartbeats 4000000 in
set_option maxRecDepth 20000 in
theorem keysW (nv av : Value) (ns : List Nm) (fs : FL) (w : World) (hn : Holds w nv ns) (hn0 : ∀ cap, nv = .slice none 0 cap → cap = 0) (ha : HoldsF w av fs) (hb : bulkT ns + bulkF fs ≤ 1048576) :
    Calls Tryd.prog 4 #[nv, av] w fun e w' => e = .returned (.bool true) ∧ Below w.heap.size w w' := by
  have HN := hide' hn
  have HA := hide' ha
  have hfl := bulkF_len fs
  have hnl := bulkT_len ns
  have CK := hide' (fun u x W (hu : Holds W u ns) (hx : HoldsF W x fs) => keyC u x ns fs W hu hx (by omega) (by omega))
  have CR := hide' (fun u x W (hu : Holds W u ns) (hx : HoldsF W x fs) => keyRC u x ns fs W hu hx (by omega) (by omega))
  have c0 := hide' (aliveV w)
  have CT := hide' (fun W (h : Below w.heap.size w W) => copyT nv ns W (holds_mono hn h) hn0 (by omega))
  have CF := hide' (fun W (h : Below w.heap.size w W) => copyF av fs W (holdsF_mono ha h) (by omega))
  obtain ⟨ao, ca, _, _, en, _⟩ := holds_parts hn
  obtain ⟨aa, ac, _, _, ea, _⟩ := holdsF_parts ha
  subst en ea
  generalize (⟨(keyV ns fs).toArray⟩ : ByteArray) = KV at CK CR
  clear hn ha hn0
  go_enter Tryd.func4, Tryd.ntmps4
  go_wp2_with fail
  refine c0.out.mono ?_
  rintro e w1 ⟨rfl, b1⟩
  have B1 := hide' b1
  clear c0 b1
  go_wp2_with fail
  refine (CT.out w1 B1.out).mono ?_
  rintro e w2 ⟨u2, rfl, ho2⟩
  have B2 := hide' (bt' B1.out ho2.2)
  have T2 := hide' (holds_own ho2)
  obtain ⟨a2, c2, _, _, e2, _⟩ := holds_parts (holds_own ho2)
  rw [e2] at T2 ⊢
  clear ho2 B1 e2
  go_wp2_with fail
  refine (CF.out w2 B2.out).mono ?_
  rintro e w3 ⟨u3, rfl, ho3⟩
  have B3 := hide' (bt' B2.out ho3.2)
  have T3 := hide' (holds_mono T2.out ho3.2)
  have H3 := hide' (holdsF_own ho3)
  obtain ⟨a3, c3, _, _, e3, _⟩ := holdsF_parts (holdsF_own ho3)
  rw [e3] at H3 ⊢
  clear ho3 B2 T2 e3
  go_wp2_with fail
  refine (CK.out _ _ w3 T3.out H3.out).mono ?_
  rintro e w4 ⟨rfl, b4⟩
  have B4 := hide' (bt' B3.out b4)
  have T4 := hide' (holds_mono T3.out b4)
  have H4 := hide' (holdsF_mono H3.out b4)
  clear b4 B3 T3 H3
  go_wp2_with fail
  refine (CR.out _ _ w4 (holds_mono HN.out B4.out) (holdsF_mono HA.out B4.out)).mono ?_
  rintro e w5 ⟨rfl, b5⟩
  have B5 := hide' (bt' B4.out b5)
  have T5 := hide' (holds_mono T4.out b5)
  have H5 := hide' (holdsF_mono H4.out b5)
  clear b5 B4 T4 H4
  have c6 := hide' (sameTv _ _ ns w5 T5.out (holds_mono HN.out B5.out) (by omega))
  go_wp2_with fail
  refine c6.out.mono ?_
  rintro e w6 ⟨rfl, b6⟩
  have B6 := hide' (bt' B5.out b6)
  have H6 := hide' (holdsF_mono H5.out b6)
  clear b6 c6 B5 T5 H5
  have c7 := hide' (sameFe _ _ fs w6 H6.out (holdsF_mono HA.out B6.out) (by omega))
  go_wp2_with fail
  refine c7.out.mono ?_
  rintro e w7 ⟨rfl, b7⟩
  have B7 := hide' (bt' B6.out b7)
  clear b7 c7 B6 H6
  go_wp2_with fail
  go_ret
  exact ⟨rfl, B7.out⟩
end Go.Proofs.YtmibgcbolnpffaaDoor
