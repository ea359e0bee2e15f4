/- The walk of SwaplogReplays. -/
import Derived.Test.YtmejbgnaoaiooaaGreatSwR
import Derived.Test.YtmejbgnaoaiooaaGreatSwV
import Derived.Test.YtmejbgnaoaiooaaGreatSpB
namespace Go.Proofs.YtmejbgnaoaiooaaGreat
open Go.RowKit Go.Shelf
set_option maxRecDepth 20000
theorem takeBx {w : World} {ao : Option Addr} {vl vc : Nat} {bs : List UInt8} (h : HoldsB w (.slice ao vl vc) bs) (k : Nat) (hk : k ≤ bs.length) : (∀ W, Sem.run Tryz.prog (Instr.slice 22 (.slice ao vl vc) none (some (.int .i64 (k : Int))) none) W = .ok (.slice ao k vc) W) ∧ HoldsB w (.slice ao k vc) (bs.take k) := by
  have h' := h
  obtain ⟨ao', cap, e, h0, hc, _⟩ := h'
  simp only [Value.slice.injEq] at e
  obtain ⟨rfl, rfl, rfl⟩ := e
  refine ⟨fun W => ?_, holdsB_pre h k hk⟩
  have hel : Tryz.prog.elem 22 = 5 := by kernel_rfl
  have hh := run_slice_h (P := Tryz.prog) W 22 ao bs.length vc (by rw [hel]; exact Tryz.underlying22) .i64 k (by omega) (by omega)
  rw [hel, Tryz.sizeOf5] at hh
  simp only [Result.andThen, Int.toNat_natCast, sliced] at hh
  rw [hh]
  by_cases hz : vc = 0
  · subst hz
    obtain rfl : k = 0 := by omega
    cases ao <;> simp
  · simp [Addr.add]
theorem own_lo {w0 w : World} {ao : Option Addr} {vl vc : Nat} {bs : List UInt8} (ho : Own w0 (.slice ao vl vc) bs w) : ∀ ad, ao = some ad → ad.block < w.heap.size := by
  intro ad e
  subst e
  exact (ho.1.lt ad.block (by
    obtain ⟨hl, h1 | ⟨gg, cap, cur, hv, _⟩⟩ := id ho.1
    · cases h1.1
    · simp only [Value.slice.injEq, Option.some.injEq] at hv; rw [hv.1]; rfl)).2
set_option maxHeartbeats 4000000 in
theorem replaysW (v : Value) (bs : List UInt8) (W : World) (hv : HoldsB W v bs) (hl : bs.length ≤ 1000000000) :
    Calls Tryz.prog 3 #[v] W fun e w' => e = .returned (.bool true) ∧ Below W.heap.size W w' := by
  have HV := hide' hv
  obtain ⟨ao, cap, rfl, _, hcp, _⟩ := hv
  obtain ⟨n, hn⟩ : ∃ n, n = bs.length := ⟨_, rfl⟩
  have N1 : Hid (bs.length = n) := hn.symm
  have ln : n ≤ 1000000000 := by omega
  rw [N1.out] at HV hcp ⊢
  clear hl hn
  go_enter Tryz.func3, Tryz.ntmps3
  go_wp2_with fail
  refine (aliveL W).mono ?_
  rintro e w1 ⟨rfl, b1⟩
  have H1 := hide' (holdsB_mono HV.out b1)
  have B1 := hide' b1
  clear b1
  go_wp2_with fail
  refine (spareC _ bs w1 H1.out (by rw [N1.out]; omega)).mono ?_
  rintro e w2 ⟨u, rfl, ho⟩
  obtain ⟨ua, ul, uc, rfl⟩ := own_sl ho
  have B2 := hide' (B1.out.trans (ho.2.mono B1.out.size))
  have H2 := hide' (holdsB_mono H1.out ho.2)
  have U2 := hide' (holdsB_own ho)
  have LO := hide' (own_lo ho)
  obtain ⟨hs, hp⟩ := takeBx U2.out n (by rw [List.length_append, N1.out]; omega)
  rw [List.take_left' N1.out] at hp
  have P2 := hide' hp
  have hul : n ≤ ul ∧ ul ≤ uc := by
    obtain ⟨_, _, e, _, h2, _⟩ := U2.out
    simp only [Value.slice.injEq] at e
    rw [List.length_append, N1.out] at e h2
    omega
  clear ho hp
  go_wp2_with fail
  refine (replayC ua n uc bs w2 P2.out (by rw [N1.out]; omega) LO.out).mono ?_
  rintro e w3 ⟨K, r, rfl, hK, hr⟩
  have B3 := hide' (B2.out.trans (hr.2.mono B2.out.size))
  have H3 := hide' (holdsB_mono H2.out hr.2)
  have U3 := hide' (holdsB_mono U2.out hr.2)
  have R3 := hide' hr
  have HK := hide' hK
  have KL : Hid (K ≤ n) := by have := stops_le hK; rw [N1.out] at this; exact this
  clear hr hK hs
  go_wp2_with fail
  refine (replayRC _ bs w3 H3.out (by rw [N1.out]; omega)).mono ?_
  rintro e w4 ⟨L, q, rfl, hL, hq⟩
  obtain rfl := stops_one hL HK.out
  have B4 := hide' (B3.out.trans (hq.2.mono B3.out.size))
  have H4 := hide' (holdsB_mono H3.out hq.2)
  have U4 := hide' (holdsB_mono U3.out hq.2)
  have CS := hide' (sameRC r q _ _ w4 (holdsR_mono (holdsR_own R3.out) hq.2) (holdsR_own hq) (by rw [repR_len]; have := KL.out; omega))
  clear hq hL
  generalize (atR bs L : Int) = m
  go_wp2_with fail
  refine CS.out.mono ?_
  rintro e w5 ⟨rfl, nn, ew⟩
  have B5 : Hid (Below W.heap.size W w5) := by rw [ew]; exact B4.out.trans ((below_drewN w4 nn).mono B4.out.size)
  have H5 : Hid (HoldsB w5 (.slice ao n cap) bs) := by rw [ew]; exact holdsB_mono H4.out (below_drewN w4 nn)
  have U5 : Hid (HoldsB w5 (.slice ua ul uc) (bs ++ mks)) := by rw [ew]; exact holdsB_mono U4.out (below_drewN w4 nn)
  clear ew
  go_wp2_with fail
  refine (spareC _ bs w5 H5.out (by rw [N1.out]; omega)).mono ?_
  rintro e w6 ⟨u3, rfl, ho3⟩
  have B6 := hide' (B5.out.trans (ho3.2.mono B5.out.size))
  have S3 := hide' (sameBe _ u3 (bs ++ mks) w6 (holdsB_mono U5.out ho3.2) (holdsB_own ho3) (by rw [List.length_append, N1.out]; show n + 8 ≤ _; omega))
  clear ho3
  go_wp2_with fail
  refine S3.out.mono ?_
  rintro e w7 ⟨rfl, b7⟩
  have B7 := hide' (B6.out.trans (b7.mono B6.out.size))
  clear b7
  go_wp2_with fail
  go_ret
  exact ⟨rfl, B7.out⟩
end Go.Proofs.YtmejbgnaoaiooaaGreat
