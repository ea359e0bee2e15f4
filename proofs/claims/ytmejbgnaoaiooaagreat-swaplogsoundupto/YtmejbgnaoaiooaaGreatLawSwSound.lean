/- The walk of SwaplogSound. -/
import Derived.Test.YtmejbgnaoaiooaaGreatSwR
import Derived.Test.YtmejbgnaoaiooaaGreatSwV
import Derived.Test.YtmejbgnaoaiooaaGreatSwY
import Derived.Test.YtmejbgnaoaiooaaGreatSpB
namespace Go.Proofs.YtmejbgnaoaiooaaGreat
open Go.RowKit Go.Shelf
set_option maxRecDepth 20000
theorem takeBz {w : World} {ao : Option Addr} {vl vc : Nat} {bs : List UInt8} (h : HoldsB w (.slice ao vl vc) bs) (k : Nat) (hk : k ≤ bs.length) : (∀ W, Sem.run Tryz.prog (Instr.slice 22 (.slice ao vl vc) none (some (.int .i64 (k : Int))) none) W = .ok (.slice ao k vc) W) ∧ HoldsB w (.slice ao k vc) (bs.take k) := by
  have h' := h
  obtain ⟨ao', cap, e, h0, hc, _⟩ := h'
  simp only [Value.slice.injEq] at e
  obtain ⟨rfl, rfl, rfl⟩ := e
  refine ⟨fun W => ?_, holdsB_pre h k hk⟩
  have hel : Tryz.prog.elem 22 = 5 := by kernel_rfl
  have hh := run_slice_h (P := Tryz.prog) W 22 ao bs.length vc (by rw [hel]; exact Tryz.underlying22) .i64 k (by omega) (by omega)
  rw [hel, Tryz.sizeOf5] at hh
  simp only [Result.andThen, Int.toNat_natCast, sliced] at hh
  rw [hh]
  by_cases hz : vc = 0
  · subst hz
    obtain rfl : k = 0 := by omega
    cases ao <;> simp
  · simp [Addr.add]
theorem own_loS {w0 w : World} {ao : Option Addr} {vl vc : Nat} {bs : List UInt8} (ho : Own w0 (.slice ao vl vc) bs w) : ∀ ad, ao = some ad → ad.block < w.heap.size := by
  intro ad e
  subst e
  exact (ho.1.lt ad.block (by
    obtain ⟨hl, h1 | ⟨gg, cap, cur, hv, _⟩⟩ := id ho.1
    · cases h1.1
    · simp only [Value.slice.injEq, Option.some.injEq] at hv; rw [hv.1]; rfl)).2
theorem own_vl {w0 w : World} {ao : Option Addr} {vl vc : Nat} {bs : List UInt8} (ho : Own w0 (.slice ao vl vc) bs w) : vl = bs.length := by
  obtain ⟨a, c, e⟩ := row_sl ho.1
  simp only [Value.slice.injEq] at e
  exact e.2.1
theorem replayK {bs : List UInt8} {K : Nat} (hK : Stops bs K) {w0 w : World} {u : Value} (ho : Own w0 u bs w) (hl : bs.length ≤ 1000000000000) :
    Calls Tryz.prog 10 #[u] w fun e w' => ∃ ra rc, e = .returned (.tuple #[.slice ra K rc, .int .i64 (atR bs K : Int)]) ∧ OwnR w (.slice ra K rc) (repR bs K) w' := by
  obtain ⟨ua, ul, uc, rfl⟩ := own_sl ho
  refine (replayC ua ul uc bs w (holdsB_own ho) hl (own_loS ho)).mono ?_
  rintro e w' ⟨L, r, rfl, hL, hr⟩
  obtain rfl := stops_one hL hK
  obtain ⟨ra, rc, e⟩ := ownR_sl hr
  rw [repR_len] at e
  subst e
  exact ⟨ra, rc, rfl, hr⟩
set_option maxHeartbeats 4000000 in
theorem soundW (v : Value) (bs : List UInt8) (op no : Int) (id : List UInt8) (W : World) (hv : HoldsB W v bs) (hl : bs.length ≤ 1000000000) (hi : id.length ≤ 1000000000) :
    Calls Tryz.prog 7 #[v, .int .i64 op, .int .i64 no, .string ⟨id.toArray⟩] W fun e w' => e = .returned (.bool true) ∧ Below W.heap.size W w' := by
  have HV := hide' hv
  obtain ⟨ao, cap, rfl, _, hcp, _⟩ := hv
  obtain ⟨n, hn⟩ : ∃ n, n = bs.length := ⟨_, rfl⟩
  have N1 : Hid (bs.length = n) := hn.symm
  have ln : n ≤ 1000000000 := by omega
  rw [N1.out] at HV hcp ⊢
  clear hl hn
  obtain ⟨K, hK⟩ := stops_ex bs
  obtain ⟨A, hA⟩ : ∃ A, A = atR bs K := ⟨_, rfl⟩
  have HA : Hid (atR bs K = A) := hA.symm
  have hAn : A ≤ n := by rw [hA, ← N1.out]; exact atR_le bs K
  have hKn : K ≤ n := by rw [← N1.out]; exact stops_le hK
  have HK := hide' hK
  have ALO := hide' (stops_alone hK)
  rw [HA.out] at ALO
  have TL : Hid ((bs.take A).length = A) := by unfold Hid; rw [List.length_take, N1.out]; omega
  have q0 : decide ((A : Int) < 0) = false := by rw [decide_eq_false_iff_not]; omega
  have q1 : decide ((n : Int) < (A : Int)) = false := by rw [decide_eq_false_iff_not]; omega
  have q1' : ¬ ((n : Int) < (A : Int)) := by omega
  have qk : IntKind.i64.wrap ((K : Int) + 1) = (K : Int) + 1 := wrap_small _ (by omega) (by omega)
  have hs := fun (W : World) (h : HoldsB W (.slice ao n cap) bs) => takeBz h A (by rw [N1.out]; exact hAn)
  have HS := hide' hs
  have rs : ∀ w, Sem.run Tryz.prog (Instr.slice 22 (.slice ao n cap) none (some (.int .i64 (A : Int))) none) w = .ok (.slice ao A cap) w := (hs W HV.out).1
  clear hK hA hs
  go_enter Tryz.func7, Tryz.ntmps7
  go_wp2_with fail
  refine (aliveL W).mono ?_
  rintro e w1 ⟨rfl, b1⟩
  have H1 := hide' (holdsB_mono HV.out b1)
  have B1 := hide' b1
  clear b1
  go_wp2_with fail
  refine (copyB _ bs w1 H1.out (by rw [N1.out]; omega)).mono ?_
  rintro e w2 ⟨u, rfl, ho⟩
  have B2 := hide' (B1.out.trans (ho.2.mono B1.out.size))
  have H2 := hide' (holdsB_mono H1.out ho.2)
  have C2 := hide' (replayK HK.out ho (by rw [N1.out]; omega))
  rw [HA.out] at C2
  clear ho
  go_wp2_with fail
  refine C2.out.mono ?_
  rintro e w3 ⟨ra, rc, rfl, hr⟩
  have B3 := hide' (B2.out.trans (hr.2.mono B2.out.size))
  have H3 := hide' (holdsB_mono H2.out hr.2)
  have R3 := hide' (holdsR_own hr)
  clear hr C2
  go_wp2_with fail
  refine (copyB _ (bs.take A) w3 (HS.out w3 H3.out).2 (by rw [TL.out]; omega)).mono ?_
  rintro e w4 ⟨u4, rfl, ho4⟩
  have B4 := hide' (B3.out.trans (ho4.2.mono B3.out.size))
  have H4 := hide' (holdsB_mono H3.out ho4.2)
  have R4 := hide' (holdsR_mono R3.out ho4.2)
  have C4 := hide' (replayK ALO.out.1 ho4 (by rw [TL.out]; omega))
  rw [ALO.out.2.1] at C4
  clear ho4
  go_wp2_with fail
  refine C4.out.mono ?_
  rintro e w5 ⟨sa, sc, rfl, hr5⟩
  have B5 := hide' (B4.out.trans (hr5.2.mono B4.out.size))
  have H5 := hide' (holdsB_mono H4.out hr5.2)
  have R5 := hide' (holdsR_mono R4.out hr5.2)
  have hr5' := holdsR_own hr5
  rw [ALO.out.2.2] at hr5'
  have CS := hide' (sameRC _ _ _ _ w5 hr5' R5.out (by rw [repR_len]; omega))
  rw [decide_eq_true (rfl : repR bs K = repR bs K)] at CS
  clear hr5 hr5' C4
  go_wp2_with fail
  refine CS.out.mono ?_
  rintro e w6 ⟨rfl, nn, ew⟩
  have B6 : Hid (Below W.heap.size W w6) := by rw [ew]; exact B5.out.trans ((below_drewN w5 nn).mono B5.out.size)
  have H6 : Hid (HoldsB w6 (.slice ao n cap) bs) := by rw [ew]; exact holdsB_mono H5.out (below_drewN w5 nn)
  have R6 : Hid (HoldsR w6 (.slice ra K rc) (repR bs K)) := by rw [ew]; exact holdsR_mono R5.out (below_drewN w5 nn)
  have CE := hide' (encC (K : Int) op no id w6 (by omega))
  unfold recV at CE
  clear ew CS
  by_cases hz : (encOf (K : Int) op no id).2 = 0
  · obtain ⟨x, hx⟩ : ∃ x, x = (encOf (K : Int) op no id).1 := ⟨_, rfl⟩
    have EX : Hid (encOf (K : Int) op no id = (x, 0)) := by unfold Hid; rw [hx, ← hz]
    rw [EX.out] at CE
    have MOR := hide' (stops_more HK.out EX.out)
    rw [HA.out] at MOR
    obtain ⟨e1, e2, e3, e4, e5⟩ := enc_inv EX.out
    have XL : Hid (x.length ≤ 4111) := by unfold Hid; rw [e5, recL_len]; omega
    have EY : Hid (∃ y, encOf ((K : Int) + 1) op no id = (y, 0) ∧ y.length ≤ 4111) := by
      refine ⟨recL op.toNat ((K : Int) + 1).toNat no.toNat id, ?_, by rw [recL_len]; omega⟩
      unfold encOf
      rw [if_pos ⟨e1, ⟨by omega, by omega⟩, e3⟩, if_pos e4]
    clear hz hx e1 e2 e3 e4 e5
    go_wp2_with fail
    refine CE.out.mono ?_
    rintro e w7 ⟨m7, rfl, ho7⟩
    have B7 := hide' (B6.out.trans (ho7.2.mono B6.out.size))
    have H7 := hide' (holdsB_mono H6.out ho7.2)
    have R7 := hide' (holdsR_mono R6.out ho7.2)
    have M7 := hide' (holdsB_own ho7)
    clear ho7 CE
    go_wp2_with fail
    refine (copyB _ (bs.take A) w7 (HS.out w7 H7.out).2 (by rw [TL.out]; omega)).mono ?_
    rintro e w8 ⟨u8, rfl, ho8⟩
    have O8 := hide' ho8
    have B8 := hide' (B7.out.trans (ho8.2.mono B7.out.size))
    have H8 := hide' (holdsB_mono H7.out ho8.2)
    have R8 := hide' (holdsR_mono R7.out ho8.2)
    have M8 := hide' (holdsB_mono M7.out ho8.2)
    clear ho8
    go_wp2_with (at_builtin; refine appAllB rfl (.tmp 69) (.tmp 70) rfl w7 _ (bs.take A) rfl O8.out m7 x rfl M8.out (by rw [TL.out]; have := XL.out; omega) ?_; intro v9 w9 ho9; have O9 := hide' ho9; clear ho9; obtain ⟨va, vl, vc, hv9⟩ := own_sl O9.out; subst hv9; have VL := hide' (own_vl O9.out))
    have B9 := hide' (B7.out.trans (O9.out.2.mono B7.out.size))
    have H9 := hide' (holdsB_mono H7.out O9.out.2)
    have R9 := hide' (holdsR_mono R7.out O9.out.2)
    have C9 := hide' (replayK MOR.out.1 O9.out (by rw [List.length_append, TL.out]; have := XL.out; omega))
    rw [MOR.out.2.1] at C9
    have VQ : Hid ((vl : Int) = ((A + x.length : Nat) : Int)) := by unfold Hid; rw [VL.out, List.length_append, TL.out]
    obtain ⟨M, hM⟩ : ∃ M, M = A + x.length := ⟨_, rfl⟩
    have HM := hide' hM
    rw [← hM] at C9
    have hvl : vl = M := by have h1 := VQ.out; rw [← hM] at h1; omega
    subst hvl
    clear hM
    obtain ⟨y, hy1, hy2⟩ := EY.out
    have EYo := hide' hy1
    have YL := hide' hy2
    have CF := fun w => encC ((K : Int) + 1) op no id w (by omega)
    rw [hy1] at CF
    have CFH := hide' CF
    unfold recV at CFH
    have WRO := hide' (stops_wrong HK.out hy1 (by omega))
    rw [HA.out] at WRO
    clear hy1 hy2 CF O8 B8 H8 R8 M8
    go_wp2_with fail
    refine C9.out.mono ?_
    rintro e w10 ⟨ta, tc, rfl, hr10⟩
    have B10 := hide' (B9.out.trans (hr10.2.mono B9.out.size))
    have H10 := hide' (holdsB_mono H9.out hr10.2)
    have R10 := hide' (holdsR_mono R9.out hr10.2)
    clear hr10 C9
    go_wp2_with fail
    refine (CFH.out w10).mono ?_
    rintro e w11 ⟨m11, rfl, ho11⟩
    have B11 := hide' (B10.out.trans (ho11.2.mono B10.out.size))
    have H11 := hide' (holdsB_mono H10.out ho11.2)
    have R11 := hide' (holdsR_mono R10.out ho11.2)
    have M11 := hide' (holdsB_own ho11)
    clear ho11
    go_wp2_with fail
    refine (copyB _ (bs.take A) w11 (HS.out w11 H11.out).2 (by rw [TL.out]; omega)).mono ?_
    rintro e w12 ⟨u12, rfl, ho12⟩
    have O12 := hide' ho12
    have M12 := hide' (holdsB_mono M11.out ho12.2)
    clear ho12
    go_wp2_with (at_builtin; refine appAllB rfl (.tmp 104) (.tmp 105) rfl w11 _ (bs.take A) rfl O12.out m11 y rfl M12.out (by rw [TL.out]; have := YL.out; omega) ?_; intro v13 w13 ho13; have O13 := hide' ho13; clear ho13)
    have B13 := hide' (B11.out.trans (O13.out.2.mono B11.out.size))
    have R13 := hide' (holdsR_mono R11.out O13.out.2)
    have C13 := hide' (replayK WRO.out.1 O13.out (by rw [List.length_append, TL.out]; have := YL.out; omega))
    rw [WRO.out.2.1] at C13
    refine C13.out.mono ?_
    rintro e w14 ⟨sa', sc', rfl, hr14⟩
    have B14 := hide' (B13.out.trans (hr14.2.mono B13.out.size))
    have R14 := hide' (holdsR_mono R13.out hr14.2)
    have hr14' := holdsR_own hr14
    rw [WRO.out.2.2] at hr14'
    have CS14 := hide' (sameRC _ _ _ _ w14 hr14' R14.out (by rw [repR_len]; omega))
    rw [decide_eq_true (rfl : repR bs K = repR bs K)] at CS14
    clear hr14 hr14' C13
    go_wp2_with fail
    refine CS14.out.mono ?_
    rintro e w15 ⟨rfl, nn2, ew⟩
    have B15 : Hid (Below W.heap.size W w15) := by rw [ew]; exact B14.out.trans ((below_drewN w14 nn2).mono B14.out.size)
    clear ew
    go_wp2_with fail
    go_ret
    exact ⟨rfl, B15.out⟩
  · obtain ⟨y, hy⟩ : ∃ y, y = (encOf (K : Int) op no id).2 := ⟨_, rfl⟩
    have hy0 : decide (y = 0) = false := by rw [decide_eq_false_iff_not, hy]; exact hz
    have hy2 : ¬ y = 0 := by rw [hy]; exact hz
    rw [← hy] at CE
    clear hz hy
    go_wp2_with fail
    refine CE.out.mono ?_
    rintro e w7 ⟨m7, rfl, ho7⟩
    have B7 := hide' (B6.out.trans (ho7.2.mono B6.out.size))
    clear ho7
    go_wp2_with fail
    go_ret
    exact ⟨rfl, B7.out⟩
end Go.Proofs.YtmejbgnaoaiooaaGreat
