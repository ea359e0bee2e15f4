/- The walk of RecSums. -/
import Derived.Test.YtnbidckmekmcfaaRcA
import Derived.Test.YtnbidckmekmcfaaMidB
namespace Go.Proofs.Ytnbidckmekmcfaa
open Go.RowKit
set_option maxRecDepth 20000 in
set_option maxHeartbeats 4000000 in
theorem sumsW (v : Value) (bs : List UInt8) (W : World) (hv : HoldsB W v bs) (hl : bs.length ≤ 140737488351232) :
    Calls Try.prog 3 #[v] W fun e w' => e = .returned (.bool true) ∧ Below W.heap.size W w' := by
  have HV := hide' hv
  obtain ⟨ao, cap, rfl, _, hcp, _⟩ := hv
  obtain ⟨n, hn⟩ : ∃ n, n = bs.length := ⟨_, rfl⟩
  have N1 : Hid (bs.length = n) := hn.symm
  have ln : n ≤ 140737488351232 := by omega
  rw [N1.out] at HV hcp ⊢
  clear hl hn
  go_enter Try.func3, Try.ntmps3
  go_wp2_with fail
  refine (aliveC W).mono ?_
  rintro e w1 ⟨rfl, b1⟩
  have H1 := hide' (holdsB_mono HV.out b1)
  have B1 := hide' b1
  clear b1
  go_wp2_with fail
  refine (spareC _ bs w1 H1.out (by rw [N1.out]; omega)).mono ?_
  rintro e w2 ⟨u, rfl, ho⟩
  have B2 := hide' (B1.out.trans (ho.2.mono B1.out.size))
  have H2 := hide' (holdsB_mono H1.out ho.2)
  have U2 := hide' (holdsB_own ho)
  obtain ⟨pv, hs, hp⟩ := takeB U2.out n (by rw [List.length_append, N1.out]; omega)
  rw [List.take_left' N1.out] at hp
  have P2 := hide' hp
  clear ho hp
  go_wp2_with fail
  refine (sumC pv bs w2 P2.out (by rw [N1.out]; omega)).mono ?_
  rintro e w9 ⟨rfl, ew⟩
  rw [ew]; clear ew w9
  go_wp2_with fail
  refine (sumRC _ bs w2 H2.out (by rw [N1.out]; omega)).mono ?_
  rintro e w9 ⟨rfl, ew⟩
  rw [ew]; clear ew w9
  go_wp2_with fail
  refine (spareC _ bs w2 H2.out (by rw [N1.out]; omega)).mono ?_
  rintro e w3 ⟨u3, rfl, ho3⟩
  have B3 := hide' (B2.out.trans (ho3.2.mono B2.out.size))
  have S3 := hide' (sameBe u u3 (bs ++ mks) w3 (holdsB_mono U2.out ho3.2) (holdsB_own ho3) (by rw [List.length_append, N1.out]; show n + 8 ≤ _; omega))
  clear ho3
  go_wp2_with fail
  refine S3.out.mono ?_
  rintro e w4 ⟨rfl, b4⟩
  have B4 := hide' (B3.out.trans (b4.mono B3.out.size))
  clear b4
  go_wp2_with fail
  go_ret
  exact ⟨rfl, B4.out⟩
end Go.Proofs.Ytnbidckmekmcfaa
