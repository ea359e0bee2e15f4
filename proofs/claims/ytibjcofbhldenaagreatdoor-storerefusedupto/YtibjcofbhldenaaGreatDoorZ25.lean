/- The contract of rec.Decode. -/
import Derived.Deep.QuietTactic
import Derived.BigQuiet
import Derived.Deep.RegionHeld3
import Derived.Deep.RegionHeldLaw
import Derived.Test.YtibjcofbhldenaaGreatDoorZ18
namespace Go.Proofs.YtibjcofbhldenaaGreatDoor
open Go.RowKit
set_option maxRecDepth 20000 in
set_option maxHeartbeats 4000000 in
theorem decC (v : Value) (bs : List UInt8) (w : World) (hv : HoldsB w v bs) (hl : bs.length ≤ 1000000000000000) :
    Calls Tryz.prog 192 #[v] w fun e w' => e = .returned (decV (decOf bs)) ∧ Below w.heap.size w w' := by
  have L0 := below_alloc' w (.cells #[.int .i64 0, .int .i64 0, .int .i64 0, .string ⟨#[]⟩] 107)
  have Q0 := quad_lit w (.int .i64 0) (.int .i64 0) (.int .i64 0) (.string ⟨#[]⟩) 107
  obtain ⟨B0, hB0⟩ : ∃ B0, B0 = w.alloc (.cells #[.int .i64 0, .int .i64 0, .int .i64 0, .string ⟨#[]⟩] 107) := ⟨_, rfl⟩
  rw [← hB0] at L0 Q0
  have HV := hide' (holdsB_mono hv L0)
  have HW := hide' hv
  have HB0 := hide' hB0
  have LB := hide' L0
  have HQ := hide' Q0
  have cF := hide' (findIdC v bs B0 HV.out hl)
  clear hB0 L0 Q0
  obtain ⟨ao, cap, rfl, _, hcp, hc⟩ := hv
  obtain ⟨n, hn⟩ : ∃ n, n = bs.length := ⟨_, rfl⟩
  have N1 : Hid (bs.length = n) := hn.symm
  have ln : n ≤ 1000000000000000 := by omega
  have hcn : n ≤ cap := by omega
  rw [N1.out] at HV HW cF ⊢
  clear hc hl hn hcp
  by_cases hz : (idEnd bs).1 = 0
  · have eD := hide' (dec_none bs hz)
    rw [hz] at cF
    generalize (idEnd bs).2 = er at cF eD
    go_enter Tryz.func192, Tryz.ntmps192
    go_wp2_with fail
    rw [← HB0.out]
    refine cF.out.mono ?_
    rintro e w9 ⟨rfl, ew⟩
    rw [ew]; clear ew w9
    obtain ⟨q0, q1, q2, q3, f0, f1, f2, f3, qz⟩ := HQ.out
    go_wp2_with fail
    obtain ⟨p0, p1, p2, p3⟩ := quad_store HQ.out (.int .i64 0) (.int .i64 0) (.int .i64 0) (.string ⟨#[]⟩)
    have qb := put4_below LB.out (Nat.le_refl _) (.int .i64 0) (.int .i64 0) (.int .i64 0) (.string ⟨#[]⟩)
    unfold put4 at p0 p1 p2 p3 qb
    exact bodyPost_ret (v := .tuple #[.agg #[.int .i64 0, .int .i64 0, .int .i64 0, .string ⟨#[]⟩], .int .i64 0, .int .i64 er]) (by simp [results, Tryz.results192, go_sem, p0, p1, p2, p3]) rfl ⟨by rw [eD.out]; rfl, qb⟩
  · obtain ⟨h3, hop, hk, eI, eD'⟩ := dec_some bs hz
    rw [eI] at cF
    have eD := hide' eD'
    have hkn : valN (midN bs 1 3) = valN (midN bs 1 3) := rfl
    obtain ⟨k, hkk⟩ : ∃ k, k = valN (midN bs 1 3) := ⟨_, rfl⟩
    rw [← hkk] at cF eD hk
    rw [N1.out] at h3 eD
    rw [show ((11 + k : Nat) : Int) = 11 + (k : Int) by omega] at cF
    clear eD' hz hkn eI
    by_cases h4 : n < k + 15
    · have eD4 : Hid (decOf bs = decErr 0) := by unfold Hid; rw [eD.out, if_pos h4]
      have hd4 : decide ((n : Int) < 11 + (k : Int) + 4) = true := by simp; omega
      have hk0 : ((11 + (k : Int)) == 0) = false := by simp; omega
      clear eD hkk
      go_enter Tryz.func192, Tryz.ntmps192
      go_wp2_with fail
      rw [← HB0.out]
      refine cF.out.mono ?_
      rintro e w9 ⟨rfl, ew⟩
      rw [ew]; clear ew w9
      obtain ⟨q0, q1, q2, q3, f0, f1, f2, f3, qz⟩ := HQ.out
      go_wp2_with fail
      obtain ⟨p0, p1, p2, p3⟩ := quad_store HQ.out (.int .i64 0) (.int .i64 0) (.int .i64 0) (.string ⟨#[]⟩)
      have qb := put4_below LB.out (Nat.le_refl _) (.int .i64 0) (.int .i64 0) (.int .i64 0) (.string ⟨#[]⟩)
      unfold put4 at p0 p1 p2 p3 qb
      exact bodyPost_ret (v := .tuple #[.agg #[.int .i64 0, .int .i64 0, .int .i64 0, .string ⟨#[]⟩], .int .i64 0, .int .i64 0]) (by simp [results, Tryz.results192, go_sem, p0, p1, p2, p3]) rfl ⟨by rw [eD4.out]; rfl, qb⟩
    · have e2 : Hid (decOf bs = if valN (midN bs (k + 11) (k + 15)) = sumOf (bs.take (k + 11)) then
          ⟨valN (midN bs 3 7), (bs[0]?.getD 0).toNat - 192, valN (midN bs 7 11), midN bs 11 (k + 11), k + 15, 0⟩ else decErr 100) := by unfold Hid; rw [eD.out, if_neg h4]
      have hd4 : decide ((n : Int) < 11 + (k : Int) + 4) = false := by simp; omega
      have hk0 : ((11 + (k : Int)) == 0) = false := by simp; omega
      obtain ⟨pv, hs1, hp1⟩ := midB HV.out (k + 11) (k + 15) (by omega) (by rw [N1.out]; omega)
      obtain ⟨tv, hs2, hp2⟩ := takeB HV.out (k + 11) (by rw [N1.out]; omega)
      rw [show ((k + 11 : Nat) : Int) = 11 + (k : Int) by omega, show ((k + 15 : Nat) : Int) = 11 + (k : Int) + 4 by omega] at hs1
      rw [show ((k + 11 : Nat) : Int) = 11 + (k : Int) by omega] at hs2
      have cN : ∀ m, Hid (Calls Tryz.prog 220 #[pv] (B0.drewN m) fun e w' => e = .returned (.int .i64 (valN (midN bs (k + 11) (k + 15)) : Int)) ∧ w' = B0.drewN m) :=
        fun m => numberC pv _ _ (holdsB_mono hp1 (below_drewN _ _)) (Nat.le_trans (midN_len _ _ _) (by omega))
      have cS : ∀ m, Hid (Calls Tryz.prog 114 #[tv] (B0.drewN m) fun e w' => e = .returned (.int .i64 (sumOf (bs.take (k + 11)) : Int)) ∧ w' = B0.drewN m) :=
        fun m => sumC tv _ _ (holdsB_mono hp2 (below_drewN _ _)) (by rw [List.length_take]; omega)
      have vl : valN (midN bs (k + 11) (k + 15)) < 4294967296 := Nat.lt_of_lt_of_le (valN_lt _) (Nat.le_trans (Nat.pow_le_pow_right (by decide) (show (midN bs (k + 11) (k + 15)).length ≤ 4 by unfold midN; rw [List.length_take]; omega)) (by decide))
      have sl := sumOf_lt (bs.take (k + 11))
      generalize valN (midN bs (k + 11) (k + 15)) = x at cN e2 vl
      generalize sumOf (bs.take (k + 11)) = y at cS e2 sl
      clear hp1 hp2 eD
      by_cases hxy : x = y
      · subst hxy
        have hsb : 15 ≤ n := by omega
        have e3 : Hid (decOf bs = ⟨valN (midN bs 3 7), (bs[0]?.getD 0).toNat - 192, valN (midN bs 7 11), midN bs 11 (k + 11), k + 15, 0⟩) := by unfold Hid; rw [e2.out, if_pos rfl]
        obtain ⟨ao', cap', ev, h0, hcp, hc⟩ := HV.out
        simp only [Value.slice.injEq] at ev
        obtain ⟨rfl, en, rfl⟩ := ev
        have G0 : Hid (0 < bs.length) := by unfold Hid; omega
        obtain ⟨b, off, ea, hb, hcell⟩ := hc (fun e => by have := G0.out; rw [e] at this; exact absurd this (Nat.not_lt_zero _))
        subst ea
        have hbw : b < w.heap.size := by
          obtain ⟨a9, c9, e9, _, _, h9⟩ := HW.out
          simp only [Value.slice.injEq] at e9
          obtain ⟨b9, o9, e8, hb9, _⟩ := h9 (fun e => by have := G0.out; rw [e] at this; exact absurd this (Nat.not_lt_zero _))
          obtain ⟨e7, _, _⟩ := e9
          rw [e8] at e7
          simp only [Option.some.injEq, Addr.mk.injEq] at e7
          omega
        have hn1 : b ≠ w.heap.size := by omega
        have hn2 : w.heap.size ≠ b := by omega
        have hix : ∀ W, Sem.run Tryz.prog (Instr.indexAt 57 (.slice (some ⟨b, off, none⟩) n cap) (.int .i64 0)) W = .ok (.pointer (some ⟨b, off, none⟩)) W := by
          intro W
          have hel : Tryz.prog.elem 57 = 5 := by kernel_rfl
          rw [run_indexAt_slice (h := by rw [hel]; exact Tryz.underlying57), if_pos ⟨by omega, by omega⟩, hel, Tryz.sizeOf5]
          rfl
        have x1 := hcell 0 G0.out
        unfold B at x1
        rw [Nat.add_zero] at x1
        have hg : bs[0]?.getD 0 = bs[0]'G0.out := by rw [List.getElem?_eq_getElem G0.out]; rfl
        rw [hg] at hop e3
        obtain ⟨hc0, hc1⟩ := byte_lt (bs[0]'G0.out)
        generalize (bs[0]'G0.out).toNat = c at x1 hop e3 hc0 hc1
        obtain ⟨v3, hs3, hp3⟩ := midB HV.out 3 7 (by omega) (by omega)
        obtain ⟨v4, hs4, hp4⟩ := midB HV.out 7 11 (by omega) (by omega)
        obtain ⟨v5, hs5, hp5⟩ := midB HV.out 11 (k + 11) (by omega) (by omega)
        rw [show ((k + 11 : Nat) : Int) = 11 + (k : Int) by omega] at hs5
        have hs3' : ∀ W, Sem.run Tryz.prog (Instr.slice 57 (.slice (some ⟨b, off, none⟩) n cap) (some (.int .i64 3)) (some (.int .i64 7)) none) W = .ok v3 W := fun W => hs3 W
        have hs4' : ∀ W, Sem.run Tryz.prog (Instr.slice 57 (.slice (some ⟨b, off, none⟩) n cap) (some (.int .i64 7)) (some (.int .i64 11)) none) W = .ok v4 W := fun W => hs4 W
        have hs5' : ∀ W, Sem.run Tryz.prog (Instr.slice 57 (.slice (some ⟨b, off, none⟩) n cap) (some (.int .i64 11)) (some (.int .i64 (11 + (k : Int)))) none) W = .ok v5 W := fun W => hs5 W
        have c3 : ∀ m, Hid (Calls Tryz.prog 220 #[v3] (B0.drewN m) fun e w' => e = .returned (.int .i64 (valN (midN bs 3 7) : Int)) ∧ w' = B0.drewN m) :=
          fun m => numberC v3 _ _ (holdsB_mono hp3 (below_drewN _ _)) (midN_len _ _ _)
        have c4 : ∀ m, Hid (Calls Tryz.prog 220 #[v4] (B0.drewN m) fun e w' => e = .returned (.int .i64 (valN (midN bs 7 11) : Int)) ∧ w' = B0.drewN m) :=
          fun m => numberC v4 _ _ (holdsB_mono hp4 (below_drewN _ _)) (midN_len _ _ _)
        have cO : ∀ W, Hid (Calls Tryz.prog 221 #[.int .u8 (c : Int)] W fun e w' => e = .returned (.int .i64 ((c : Int) - 192)) ∧ w' = W) :=
          fun W => opOfC (c : Int) hc0 hc1 W
        have l3 : valN (midN bs 3 7) < 4294967296 := val4 (midN_len _ _ _)
        have l4 : valN (midN bs 7 11) < 4294967296 := val4 (midN_len _ _ _)
        generalize valN (midN bs 3 7) = x3 at c3 e3 l3
        generalize valN (midN bs 7 11) = x4 at c4 e3 l4
        have hcv : ∀ m, Sem.run Tryz.prog (convert 57 9 v5) (B0.drewN m) = .ok (.string ⟨(midN bs 11 (k + 11)).toArray⟩) (B0.drewN m) :=
          fun m => conv_holds (holdsB_mono hp5 (below_drewN _ _))
        generalize midN bs 11 (k + 11) = idl at hcv e3
        have hcop : Hid (((c - 192 : Nat) : Int) = (c : Int) - 192) := by unfold Hid; omega
        clear hs3 hs4 hs5 hp3 hp4 hp5 hcell hc hg hcp h0 e2 hkk en
        go_enter Tryz.func192, Tryz.ntmps192
        go_wp2_with fail
        rw [← HB0.out]
        refine cF.out.mono ?_
        rintro e w9 ⟨rfl, ew⟩
        rw [ew]; clear ew w9
        go_wp2_with fail
        go_quiet (first
          | (go_at_call 220; exact Calls.quiet_of_same (cN _).out)
          | (go_at_call 114; exact Calls.quiet_of_same (cS _).out))
        have LB2 := hide' (LB.out.trans ((below_drewN B0 nq).mono LB.out.size))
        have HQ2 := hide' (quad_below HQ.out (below_drewN B0 nq))
        have x2 : (B0.drewN nq).cell? ⟨b, off, none⟩ = some (.int .u8 (c : Int)) := by rw [(below_drewN B0 nq).cell (p := ⟨b, off, none⟩) hb]; exact x1
        have c3' : ∀ m, Hid (Calls Tryz.prog 220 #[v3] ((B0.drewN nq).drewN m) fun e w' => e = .returned (.int .i64 (x3 : Int)) ∧ w' = (B0.drewN nq).drewN m) := fun m => by rw [World.drewN_drewN]; exact c3 _
        have c4' : ∀ m, Hid (Calls Tryz.prog 220 #[v4] ((B0.drewN nq).drewN m) fun e w' => e = .returned (.int .i64 (x4 : Int)) ∧ w' = (B0.drewN nq).drewN m) := fun m => by rw [World.drewN_drewN]; exact c4 _
        have hcv' : ∀ m, Sem.run Tryz.prog (convert 57 9 v5) ((B0.drewN nq).drewN m) = .ok (.string ⟨idl.toArray⟩) ((B0.drewN nq).drewN m) := fun m => by rw [World.drewN_drewN]; exact hcv _
        clear c3 c4 hcv cN cS x1
        generalize B0.drewN nq = B2 at HQ2 LB2 x2 c3' c4' hcv' ⊢
        obtain ⟨q0, q1, q2, q3, f0, f1, f2, f3, qz⟩ := HQ2.out
        have c3d := c3' 1
        have c4d := c4' 1
        have hcd := hcv' 0
        have hce := hcv' 1
        rw [show B2.drewN 1 = B2.drew from rfl] at hce c3d c4d
        rw [show B2.drewN 0 = B2 from rfl] at hcd
        clear c3' c4' hcv' hcn h3 hk h4 hd4 hk0 vl sl hsb hs1 hs2 hop
        go_wp2_with fail
        go_region_held_law (fun w' => w'.cell? ⟨b, off, none⟩ = some (.int .u8 (c : Int))) (go_keep)
          (first
            | (go_at_call 221; refine (cO _).out.mono ?_; rintro e' w6 ⟨rfl, ew⟩; subst ew)
            | (go_at_call_of 220 (v3); refine c3d.out.mono ?_; rintro e' w7 ⟨rfl, ew⟩; subst ew)
            | (go_at_call_of 220 (v4); refine c4d.out.mono ?_; rintro e' w8 ⟨rfl, ew⟩; subst ew))
        all_goals
          go_wp2_with fail
          obtain ⟨p0, p1, p2, p3⟩ := quad_store HQ2.out (.int .i64 (x3 : Int)) (.int .i64 ((c : Int) - 192)) (.int .i64 (x4 : Int)) (.string ⟨idl.toArray⟩)
          have qb := put4_below LB2.out (Nat.le_refl _) (.int .i64 (x3 : Int)) (.int .i64 ((c : Int) - 192)) (.int .i64 (x4 : Int)) (.string ⟨idl.toArray⟩)
          unfold put4 at p0 p1 p2 p3 qb
          exact bodyPost_ret (v := .tuple #[.agg #[.int .i64 (x3 : Int), .int .i64 ((c : Int) - 192), .int .i64 (x4 : Int), .string ⟨idl.toArray⟩], .int .i64 (11 + (k : Int) + 4), .int .i64 0]) (by simp [results, Tryz.results192, go_sem, p0, p1, p2, p3]) rfl ⟨by rw [e3.out]; unfold decV recV; rw [hcop.out, show ((k + 15 : Nat) : Int) = 11 + (k : Int) + 4 by omega], qb.drew⟩
      · have e3 : Hid (decOf bs = decErr 100) := by unfold Hid; rw [e2.out, if_neg hxy]
        have hne : ((x : Int) != (y : Int)) = true := by simp; omega
        clear e2 hkk
        go_enter Tryz.func192, Tryz.ntmps192
        go_wp2_with fail
        rw [← HB0.out]
        refine cF.out.mono ?_
        rintro e w9 ⟨rfl, ew⟩
        rw [ew]; clear ew w9
        go_wp2_with fail
        go_quiet (first
          | (go_at_call 220; exact Calls.quiet_of_same (cN _).out)
          | (go_at_call 114; exact Calls.quiet_of_same (cS _).out))
        have LB2 := hide' (LB.out.trans ((below_drewN B0 nq).mono LB.out.size))
        have HQ2 := hide' (quad_below HQ.out (below_drewN B0 nq))
        generalize B0.drewN nq = B2 at HQ2 LB2 ⊢
        obtain ⟨q0, q1, q2, q3, f0, f1, f2, f3, qz⟩ := HQ2.out
        go_wp2_with fail
        obtain ⟨p0, p1, p2, p3⟩ := quad_store HQ2.out (.int .i64 0) (.int .i64 0) (.int .i64 0) (.string ⟨#[]⟩)
        have qb := put4_below LB2.out (Nat.le_refl _) (.int .i64 0) (.int .i64 0) (.int .i64 0) (.string ⟨#[]⟩)
        unfold put4 at p0 p1 p2 p3 qb
        exact bodyPost_ret (v := .tuple #[.agg #[.int .i64 0, .int .i64 0, .int .i64 0, .string ⟨#[]⟩], .int .i64 0, .int .i64 100]) (by simp [results, Tryz.results192, go_sem, p0, p1, p2, p3]) rfl ⟨by rw [e3.out]; rfl, qb⟩
end Go.Proofs.YtibjcofbhldenaaGreatDoor
