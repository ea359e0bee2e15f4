/- The walk of RecDecodes. -/
import Derived.Test.YtnbidckmekmcfaaRcA
import Derived.Test.YtnbidckmekmcfaaRcI
import Derived.Test.YtnbidckmekmcfaaRcL
namespace Go.Proofs.Ytnbidckmekmcfaa
open Go.RowKit
set_option maxRecDepth 20000 in
set_option maxHeartbeats 4000000 in
theorem decodesW (v : Value) (bs : List UInt8) (W : World) (hv : HoldsB W v bs) (hl : bs.length ≤ 140737488351232) :
    Calls Try.prog 5 #[v] W fun e w' => e = .returned (.bool true) ∧ Below W.heap.size W w' := by
  have HV := hide' hv
  obtain ⟨ao, cap, rfl, _, hcp, _⟩ := hv
  obtain ⟨n, hn⟩ : ∃ n, n = bs.length := ⟨_, rfl⟩
  have N1 : Hid (bs.length = n) := hn.symm
  have ln : n ≤ 140737488351232 := by omega
  rw [N1.out] at HV hcp ⊢
  clear hl hn
  obtain ⟨D, hD⟩ : ∃ D, D = decOf bs := ⟨_, rfl⟩
  have cP : Hid (∀ (v : Value) (w : World), HoldsB w v bs → Calls Try.prog 16 #[v] w fun e w' => e = .returned (decV D) ∧ Below w.heap.size w w') := fun v w h => by rw [hD]; exact decC v bs w h (by rw [N1.out]; omega)
  have cR : Hid (∀ (v : Value) (w : World), HoldsB w v bs → Calls Try.prog 17 #[v] w fun e w' => e = .returned (decV D) ∧ Below w.heap.size w w') := fun v w h => by rw [hD]; exact decRC v bs w h (by rw [N1.out]; omega)
  clear hD
  unfold decV recV at cP cR
  obtain ⟨ds, dop, dn, did, dl, de⟩ := D
  dsimp only at cP cR
  generalize (ds : Int) = x0 at cP cR
  generalize (dop : Int) = x1 at cP cR
  generalize (dn : Int) = x2 at cP cR
  generalize (dl : Int) = x3 at cP cR
  generalize (⟨did.toArray⟩ : ByteArray) = x4 at cP cR
  go_enter Try.func5, Try.ntmps5
  go_wp2_with fail
  refine (aliveC W).mono ?_
  rintro e w1 ⟨rfl, b1⟩
  have H1 := hide' (holdsB_mono HV.out b1)
  have B1 := hide' b1
  clear b1
  go_wp2_with fail
  refine (spareC _ bs w1 H1.out (by rw [N1.out]; omega)).mono ?_
  rintro e w2 ⟨u, rfl, ho⟩
  have B2 := hide' (B1.out.trans (ho.2.mono B1.out.size))
  have H2 := hide' (holdsB_mono H1.out ho.2)
  have U2 := hide' (holdsB_own ho)
  obtain ⟨pv, hs, hp⟩ := takeB U2.out n (by rw [List.length_append, N1.out]; omega)
  rw [List.take_left' N1.out] at hp
  have P2 := hide' hp
  clear ho hp
  go_wp2_with fail
  refine (cP.out pv w2 P2.out).mono ?_
  rintro e w3 ⟨rfl, b3⟩
  have B3 := hide' (B2.out.trans (b3.mono B2.out.size))
  have H3 := hide' (holdsB_mono H2.out b3)
  have U3 := hide' (holdsB_mono U2.out b3)
  clear b3 hs
  have Z := quad_lit w3 (.int .i64 x0) (.int .i64 x1) (.int .i64 x2) (.string x4) 29
  have ba := below_alloc' w3 (.cells #[.int .i64 x0, .int .i64 x1, .int .i64 x2, .string x4] 29)
  obtain ⟨C3, hC3⟩ : ∃ C3, C3 = w3.alloc (.cells #[.int .i64 x0, .int .i64 x1, .int .i64 x2, .string x4] 29) := ⟨_, rfl⟩
  have HC3 := hide' hC3
  rw [← hC3] at Z ba
  have HZ := hide' Z
  have B3a := hide' (B3.out.trans (ba.mono B3.out.size))
  have H3a := hide' (holdsB_mono H3.out ba)
  have U3a := hide' (holdsB_mono U3.out ba)
  clear Z ba hC3
  go_wp2_with fail
  rw [← HC3.out]
  refine (cR.out _ C3 H3a.out).mono ?_
  rintro e w4 ⟨rfl, b4⟩
  have B4 := hide' (B3a.out.trans (b4.mono B3a.out.size))
  have H4 := hide' (holdsB_mono H3a.out b4)
  have U4 := hide' (holdsB_mono U3a.out b4)
  have Z4 := quad_below HZ.out b4
  have Y := quad_lit w4 (.int .i64 x0) (.int .i64 x1) (.int .i64 x2) (.string x4) 29
  have ba := below_alloc' w4 (.cells #[.int .i64 x0, .int .i64 x1, .int .i64 x2, .string x4] 29)
  have Z5 := quad_below Z4 ba
  have B5 := hide' (B4.out.trans (ba.mono B4.out.size))
  have H5 := hide' (holdsB_mono H4.out ba)
  have U5 := hide' (holdsB_mono U4.out ba)
  obtain ⟨z0, z1, z2, z3, -, -, -, -, zz⟩ := Z5
  clear b4 Y ba Z4
  go_wp2_with fail
  generalize w4.alloc (.cells #[.int .i64 x0, .int .i64 x1, .int .i64 x2, .string x4] 29) = w5 at B5 H5 U5 ⊢
  refine (spareC _ bs w5 H5.out (by rw [N1.out]; omega)).mono ?_
  rintro e w6 ⟨u3, rfl, ho3⟩
  have B6 := hide' (B5.out.trans (ho3.2.mono B5.out.size))
  have S3 := hide' (sameBe u u3 (bs ++ mks) w6 (holdsB_mono U5.out ho3.2) (holdsB_own ho3) (by rw [List.length_append, N1.out]; show n + 8 ≤ _; omega))
  clear ho3
  go_wp2_with fail
  refine S3.out.mono ?_
  rintro e w7 ⟨rfl, b7⟩
  have B7 := hide' (B6.out.trans (b7.mono B6.out.size))
  clear b7
  go_wp2_with fail
  go_ret
  exact ⟨rfl, B7.out⟩
end Go.Proofs.Ytnbidckmekmcfaa
