/- The walk of RecPlain. -/
import Derived.Test.YtnbidckmekmcfaaRcA
import Derived.Test.YtnbidckmekmcfaaRcI
import Derived.Test.YtnbidckmekmcfaaRcQ
namespace Go.Proofs.Ytnbidckmekmcfaa
open Go.RowKit
set_option maxRecDepth 20000 in
set_option maxHeartbeats 4000000 in
theorem plainW (v : Value) (bs : List UInt8) (W : World) (hv : HoldsB W v bs) (hl : bs.length ≤ 140737488351232) :
    Calls Try.prog 8 #[v] W fun e w' => e = .returned (.bool true) ∧ Below W.heap.size W w' := by
  have HV := hide' hv
  obtain ⟨ao, cap, rfl, _, hcp, _⟩ := hv
  obtain ⟨n, hn⟩ : ∃ n, n = bs.length := ⟨_, rfl⟩
  have N1 : Hid (bs.length = n) := hn.symm
  have ln : n ≤ 140737488351232 := by omega
  rw [N1.out] at HV hcp ⊢
  clear hl hn
  have cP : Hid (∀ (v : Value) (w : World), HoldsB w v bs → Calls Try.prog 16 #[v] w fun e w' => e = .returned (decV (decOf bs)) ∧ Below w.heap.size w w') := fun v w h => decC v bs w h (by rw [N1.out]; omega)
  go_enter Try.func8, Try.ntmps8
  go_wp2_with fail
  refine (aliveC W).mono ?_
  rintro e w1 ⟨rfl, b1⟩
  have H1 := hide' (holdsB_mono HV.out b1)
  have B1 := hide' b1
  clear b1
  go_wp2_with fail
  refine (copyB _ bs w1 H1.out (by rw [N1.out]; omega)).mono ?_
  rintro e w2 ⟨u, rfl, ho⟩
  have B2 := hide' (B1.out.trans (ho.2.mono B1.out.size))
  have H2 := hide' (holdsB_mono H1.out ho.2)
  have U2 := hide' (holdsB_own ho)
  clear ho
  go_wp2_with fail
  refine (cP.out u w2 U2.out).mono ?_
  rintro e w3 ⟨rfl, b3⟩
  have B3 := hide' (B2.out.trans (b3.mono B2.out.size))
  have H3 := hide' (holdsB_mono H2.out b3)
  clear b3 cP
  by_cases hz : (decOf bs).n = 0
  · have e0 := dec_zero bs hz
    generalize (decOf bs).e = er at e0
    rw [e0]
    clear e0 hz
    unfold decV decErr recV
    dsimp only
    have ba := below_alloc' w3 (.cells #[.int .i64 0, .int .i64 0, .int .i64 0, .string ⟨#[]⟩] 29)
    have B4 := hide' (B3.out.trans (ba.mono B3.out.size))
    clear ba
    by_cases he : er = 0
    · subst he
      go_wp2_with fail
      go_ret
      exact ⟨rfl, B4.out⟩
    · have hb : (er != 0) = true := by simpa using he
      go_wp2_with fail
      go_ret
      exact ⟨rfl, B4.out⟩
  · obtain ⟨p1, p2, p3⟩ := dec_plain bs hz
    generalize decOf bs = D at hz p1 p2 p3 ⊢
    obtain ⟨ds, dop, dn, did, dl, de⟩ := D
    dsimp only at hz p1 p2 p3
    subst p3
    have hdid : did.length ≤ 4096 := by
      by_cases hh : did.length ≤ 4096
      · exact hh
      · exfalso
        unfold encOf at p1
        split at p1
        · have p9 := congrArg Prod.snd p1
          simp at p9
        · have p9 := congrArg Prod.snd p1
          simp at p9
    have cE : Hid (∀ w, Calls Try.prog 14 #[recV ds dop dn did] w fun e w' => ∃ u, e = .returned (.tuple #[u, .int .i64 0]) ∧ Own w u (bs.take dl) w') := fun w => by
      have h := encC ds dop dn did w (by omega)
      rw [p1] at h
      exact h
    have P2 : Hid (dl ≤ n) := by unfold Hid; rw [← N1.out]; exact p2
    have hb1 : ((dl : Int) == 0) = false := by simp; omega
    have hd1 : decide ((dl : Int) ≤ (n : Int)) = true := by have := P2.out; simp; omega
    unfold decV
    dsimp only
    unfold recV at cE ⊢
    clear p1 p2 hdid
    generalize (ds : Int) = x0 at cE ⊢
    generalize (dop : Int) = x1 at cE ⊢
    generalize (dn : Int) = x2 at cE ⊢
    generalize (⟨did.toArray⟩ : ByteArray) = x4 at cE ⊢
    have ba := below_alloc' w3 (.cells #[.int .i64 x0, .int .i64 x1, .int .i64 x2, .string x4] 29)
    have B4 := hide' (B3.out.trans (ba.mono B3.out.size))
    have H4 := hide' (holdsB_mono H3.out ba)
    clear ba hz
    go_wp2_with fail
    generalize w3.alloc (.cells #[.int .i64 x0, .int .i64 x1, .int .i64 x2, .string x4] 29) = w4 at B4 H4 ⊢
    refine (cE.out w4).mono ?_
    rintro e w5 ⟨a, rfl, ho5⟩
    have B5 := hide' (B4.out.trans (ho5.2.mono B4.out.size))
    have H5 := hide' (holdsB_mono H4.out ho5.2)
    have A5 := hide' (holdsB_own ho5)
    obtain ⟨pv, hs, hp⟩ := takeB H5.out dl (by rw [N1.out]; exact P2.out)
    have S5 := hide' (sameBe a pv (bs.take dl) w5 A5.out hp (by rw [List.length_take, N1.out]; omega))
    clear ho5 hp
    go_wp2_with fail
    refine S5.out.mono ?_
    rintro e w6 ⟨rfl, b6⟩
    have B6 := hide' (B5.out.trans (b6.mono B5.out.size))
    clear b6
    go_wp2_with fail
    go_ret
    exact ⟨rfl, B6.out⟩
end Go.Proofs.Ytnbidckmekmcfaa
