/- The document's Decode of bytes that begin with 194. -/
import Derived.Test.YtijnjgnckipghaaGreatBw9
import Derived.Deep.QuietTactic
import Derived.BigQuiet
import Derived.Deep.RegionHeldLaw
namespace Go.Proofs.YtijnjgnckipghaaGreat
open Go.RowKit
set_option maxRecDepth 20000 in
set_option maxHeartbeats 4000000 in
theorem decR2_194 (v : Value) (bs : List UInt8) (w : World) (hv : HoldsB w v bs) (hl : bs.length ≤ 1000000000000000) (h : 0 < bs.length) (hb1 : (bs[0]?.getD 0).toNat = 194) (h3 : bs.length < 3) :
    Calls Tryz.prog 66 #[v] w fun e w' => e = .returned (decV (decOf bs)) ∧ Below w.heap.size w w' := by
  have L0 := below_alloc' w (.cells #[.int .i64 0, .int .i64 0, .int .i64 0, .string ⟨#[]⟩] 53)
  have Q0 := quad_lit w (.int .i64 0) (.int .i64 0) (.int .i64 0) (.string ⟨#[]⟩) 53
  obtain ⟨B0, hB0⟩ : ∃ B0, B0 = w.alloc (.cells #[.int .i64 0, .int .i64 0, .int .i64 0, .string ⟨#[]⟩] 53) := ⟨_, rfl⟩
  rw [← hB0] at L0 Q0
  have HV := hide' (holdsB_mono hv L0)
  have HW := hide' hv
  have HB0 := hide' hB0
  have LB := hide' L0
  have HQ := hide' Q0
  clear hB0 L0 Q0
  obtain ⟨ao, cap, rfl, _, hcp, hc⟩ := hv
  obtain ⟨n, hn⟩ : ∃ n, n = bs.length := ⟨_, rfl⟩
  have N1 : Hid (bs.length = n) := hn.symm
  have ln : n ≤ 1000000000000000 := by omega
  have hcn : n ≤ cap := by omega
  rw [N1.out] at HV HW ⊢
  rw [← hn] at hl
  have eD : Hid (decOf bs = decErr 0) := by unfold Hid decOf; rw [if_neg (by omega), if_neg (by rw [hb1]; decide), if_pos h3]
  have G0 : Hid (0 < bs.length) := by unfold Hid; omega
  obtain ⟨b, off, ea, hbw, hcell⟩ := hc (fun e => by have := G0.out; rw [e] at this; exact absurd this (Nat.not_lt_zero _))
  subst ea
  have x0 := hcell 0 G0.out
  unfold B at x0
  rw [Nat.add_zero] at x0
  have hb : b < B0.heap.size := by have := LB.out.size; omega
  have x1 : B0.cell? ⟨b, off, none⟩ = some (.int .u8 ((bs[0]'G0.out).toNat : Int)) := by rw [LB.out.cell (p := ⟨b, off, none⟩) hbw]; exact x0
  have hg : bs[0]?.getD 0 = bs[0]'G0.out := by rw [List.getElem?_eq_getElem G0.out]; rfl
  have hn1 : b ≠ w.heap.size := by omega
  have hn2 : w.heap.size ≠ b := by omega
  rw [hg] at hb1
  rw [hb1] at x0
  have y1 : (w.alloc (.cells #[.int .i64 0, .int .i64 0, .int .i64 0, .string ⟨#[]⟩] 53)).cell? ⟨b, off, none⟩ = some (.int .u8 194) := by rw [(below_alloc' w _).cell (p := ⟨b, off, none⟩) hbw]; exact x0
  rw [hb1] at x1
  have hn0 : ((n : Int) == 0) = false := by simp; omega
  have hnp : 0 < n := by omega
  have hd3 : decide ((n : Int) < 3) = true := by simp; omega
  clear hc hl hcp h hcell hg hn x1 x0 h3 hb1
  go_enter Tryz.func66, Tryz.ntmps66
  go_wp2_with fail
  exact bodyPost_ret (v := .tuple #[.agg #[.int .i64 0, .int .i64 0, .int .i64 0, .string ⟨#[]⟩], .int .i64 0, .int .i64 0]) (by simp [results, Tryz.results66, go_sem]) rfl ⟨by rw [eD.out]; rfl, by have := LB.out; rw [HB0.out] at this; exact this⟩
set_option maxRecDepth 20000 in
set_option maxHeartbeats 4000000 in
theorem decR3_194 (v : Value) (bs : List UInt8) (w : World) (hv : HoldsB w v bs) (hl : bs.length ≤ 1000000000000000) (hb1 : (bs[0]?.getD 0).toNat = 194) (h3 : 3 ≤ bs.length) :
    Calls Tryz.prog 66 #[v] w fun e w' => e = .returned (decV (decOf bs)) ∧ Below w.heap.size w w' := by
  have L0 := below_alloc' w (.cells #[.int .i64 0, .int .i64 0, .int .i64 0, .string ⟨#[]⟩] 53)
  have Q0 := quad_lit w (.int .i64 0) (.int .i64 0) (.int .i64 0) (.string ⟨#[]⟩) 53
  obtain ⟨B0, hB0⟩ : ∃ B0, B0 = w.alloc (.cells #[.int .i64 0, .int .i64 0, .int .i64 0, .string ⟨#[]⟩] 53) := ⟨_, rfl⟩
  rw [← hB0] at L0 Q0
  have HV := hide' (holdsB_mono hv L0)
  have HW := hide' hv
  have HB0 := hide' hB0
  have LB := hide' L0
  have HQ := hide' Q0
  clear hB0 L0 Q0
  obtain ⟨ao, cap, rfl, _, hcp, hc⟩ := hv
  obtain ⟨n, hn⟩ : ∃ n, n = bs.length := ⟨_, rfl⟩
  have N1 : Hid (bs.length = n) := hn.symm
  have ln : n ≤ 1000000000000000 := by omega
  have hcn : n ≤ cap := by omega
  rw [N1.out] at HV HW ⊢
  rw [← hn] at hl
  have eD0 : decOf bs = if 4096 < valN (midN bs 1 3) then decErr 100 else if bs.length < valN (midN bs 1 3) + 15 then decErr 0
      else if valN (midN bs (valN (midN bs 1 3) + 11) (valN (midN bs 1 3) + 15)) = sumOf (bs.take (valN (midN bs 1 3) + 11)) then
        ⟨valN (midN bs 3 7), 194 - 192, valN (midN bs 7 11), midN bs 11 (valN (midN bs 1 3) + 11), valN (midN bs 1 3) + 15, 0⟩
      else decErr 100 := by conv => lhs; unfold decOf; rw [if_neg (by omega), if_neg (by rw [hb1]; decide), if_neg (by omega), hb1]
  have G0 : Hid (0 < bs.length) := by unfold Hid; omega
  obtain ⟨b, off, ea, hbw, hcell⟩ := hc (fun e => by have := G0.out; rw [e] at this; exact absurd this (Nat.not_lt_zero _))
  subst ea
  have x0 := hcell 0 G0.out
  unfold B at x0
  rw [Nat.add_zero] at x0
  have hb : b < B0.heap.size := by have := LB.out.size; omega
  have x1 : B0.cell? ⟨b, off, none⟩ = some (.int .u8 ((bs[0]'G0.out).toNat : Int)) := by rw [LB.out.cell (p := ⟨b, off, none⟩) hbw]; exact x0
  have hg : bs[0]?.getD 0 = bs[0]'G0.out := by rw [List.getElem?_eq_getElem G0.out]; rfl
  have hn1 : b ≠ w.heap.size := by omega
  have hn2 : w.heap.size ≠ b := by omega
  rw [hg] at hb1
  rw [hb1] at x0
  have y1 : (w.alloc (.cells #[.int .i64 0, .int .i64 0, .int .i64 0, .string ⟨#[]⟩] 53)).cell? ⟨b, off, none⟩ = some (.int .u8 194) := by rw [(below_alloc' w _).cell (p := ⟨b, off, none⟩) hbw]; exact x0
  rw [hb1] at x1
  have hn0 : ((n : Int) == 0) = false := by simp; omega
  have hnp : 0 < n := by omega
  have hd3 : decide ((n : Int) < 3) = false := by simp; omega
  obtain ⟨v1, hs1, hp1⟩ := midB HV.out 1 3 (by omega) (by omega)
  have hs1' : ∀ W, Sem.run Tryz.prog (Instr.slice 67 (.slice (some ⟨b, off, none⟩) n cap) (some (.int .i64 1)) (some (.int .i64 3)) none) W = .ok v1 W := fun W => hs1 W
  have cV := hide' (valueRC v1 (midN bs 1 3) B0 hp1 (Nat.le_trans (midN_len _ _ _) (by omega)))
  have hvl : valN (midN bs 1 3) < 4294967296 := val4 (Nat.le_trans (midN_len _ _ _) (by omega))
  obtain ⟨k, hkk⟩ : ∃ k, k = valN (midN bs 1 3) := ⟨_, rfl⟩
  rw [← hkk] at cV hvl eD0
  have E0 := hide' eD0
  rw [N1.out] at E0
  clear eD0 hs1 hp1 hc hl hcp hcell hg x0 hb1 h3 hkk
  by_cases h4 : 4096 < k
  · have eD : Hid (decOf bs = decErr 100) := by unfold Hid; rw [E0.out, if_pos h4]
    have hd4 : decide (4096 < (k : Int)) = true := by simp; omega
    clear E0 hn
    go_enter Tryz.func66, Tryz.ntmps66
    go_wp2_with fail
    rw [← HB0.out]
    refine cV.out.mono ?_
    rintro e w9 ⟨rfl, ew⟩
    rw [ew]; clear ew w9
    obtain ⟨q0, q1, q2, q3, f0, f1, f2, f3, qz⟩ := HQ.out
    go_wp2_with fail
    obtain ⟨p0, p1, p2, p3⟩ := quad_store HQ.out (.int .i64 0) (.int .i64 0) (.int .i64 0) (.string ⟨#[]⟩)
    have qb := put4_below LB.out (Nat.le_refl _) (.int .i64 0) (.int .i64 0) (.int .i64 0) (.string ⟨#[]⟩)
    unfold put4 at p0 p1 p2 p3 qb
    exact bodyPost_ret (v := .tuple #[.agg #[.int .i64 0, .int .i64 0, .int .i64 0, .string ⟨#[]⟩], .int .i64 0, .int .i64 100]) (by simp [results, Tryz.results66, go_sem, p0, p1, p2, p3]) rfl ⟨by rw [eD.out]; rfl, qb⟩
  · have hd4 : decide (4096 < (k : Int)) = false := by simp; omega
    by_cases h5 : n < k + 15
    · have eD : Hid (decOf bs = decErr 0) := by unfold Hid; rw [E0.out, if_neg h4, if_pos h5]
      have hd5 : decide ((n : Int) < (k : Int) + 15) = true := by simp; omega
      clear E0 hn
      go_enter Tryz.func66, Tryz.ntmps66
      go_wp2_with fail
      rw [← HB0.out]
      refine cV.out.mono ?_
      rintro e w9 ⟨rfl, ew⟩
      rw [ew]; clear ew w9
      obtain ⟨q0, q1, q2, q3, f0, f1, f2, f3, qz⟩ := HQ.out
      go_wp2_with fail
      obtain ⟨p0, p1, p2, p3⟩ := quad_store HQ.out (.int .i64 0) (.int .i64 0) (.int .i64 0) (.string ⟨#[]⟩)
      have qb := put4_below LB.out (Nat.le_refl _) (.int .i64 0) (.int .i64 0) (.int .i64 0) (.string ⟨#[]⟩)
      unfold put4 at p0 p1 p2 p3 qb
      exact bodyPost_ret (v := .tuple #[.agg #[.int .i64 0, .int .i64 0, .int .i64 0, .string ⟨#[]⟩], .int .i64 0, .int .i64 0]) (by simp [results, Tryz.results66, go_sem, p0, p1, p2, p3]) rfl ⟨by rw [eD.out]; rfl, qb⟩
    · have E1 : Hid (decOf bs = if valN (midN bs (k + 11) (k + 15)) = sumOf (bs.take (k + 11)) then ⟨valN (midN bs 3 7), 194 - 192, valN (midN bs 7 11), midN bs 11 (k + 11), k + 15, 0⟩ else decErr 100) := by unfold Hid; rw [E0.out, if_neg h4, if_neg h5]
      have hd5 : decide ((n : Int) < (k : Int) + 15) = false := by simp; omega
      obtain ⟨pv, hs2, hp2⟩ := midB HV.out (k + 11) (k + 15) (by omega) (by rw [N1.out]; omega)
      obtain ⟨tv, hs3, hp3⟩ := takeB HV.out (k + 11) (by rw [N1.out]; omega)
      rw [show ((k + 11 : Nat) : Int) = (k : Int) + 11 by omega, show ((k + 15 : Nat) : Int) = (k : Int) + 15 by omega] at hs2
      rw [show ((k + 11 : Nat) : Int) = (k : Int) + 11 by omega] at hs3
      have m11 : IntKind.i64.wrap ((k : Int) + 11) = (k : Int) + 11 := by rw [IntKind.wrap_i64]; omega
      have m15 : IntKind.i64.wrap ((k : Int) + 15) = (k : Int) + 15 := by rw [IntKind.wrap_i64]; omega
      have cN : ∀ m, Hid (Calls Tryz.prog 96 #[pv] (B0.drewN m) fun e w' => e = .returned (.int .i64 (valN (midN bs (k + 11) (k + 15)) : Int)) ∧ w' = B0.drewN m) :=
        fun m => valueRC pv _ _ (holdsB_mono hp2 (below_drewN _ _)) (Nat.le_trans (midN_len _ _ _) (by omega))
      have cS : ∀ m, Hid (Calls Tryz.prog 73 #[tv] (B0.drewN m) fun e w' => e = .returned (.int .i64 (sumOf (bs.take (k + 11)) : Int)) ∧ w' = B0.drewN m) :=
        fun m => sumRC tv _ _ (holdsB_mono hp3 (below_drewN _ _)) (by rw [List.length_take]; omega)
      have vl : valN (midN bs (k + 11) (k + 15)) < 4294967296 := val4 (Nat.le_trans (midN_len _ _ _) (by omega))
      have sl := sumOf_lt (bs.take (k + 11))
      generalize valN (midN bs (k + 11) (k + 15)) = x at cN E1 vl
      generalize sumOf (bs.take (k + 11)) = y at cS E1 sl
      clear hp2 hp3 E0
      by_cases hxy : x = y
      · subst hxy
        have hsb : 15 ≤ n := by omega
        have e3 : Hid (decOf bs = ⟨valN (midN bs 3 7), 194 - 192, valN (midN bs 7 11), midN bs 11 (k + 11), k + 15, 0⟩) := by unfold Hid; rw [E1.out, if_pos rfl]
        have hix : ∀ W, Sem.run Tryz.prog (Instr.indexAt 67 (.slice (some ⟨b, off, none⟩) n cap) (.int .i64 0)) W = .ok (.pointer (some ⟨b, off, none⟩)) W := by
          intro W
          have hel : Tryz.prog.elem 67 = 5 := by kernel_rfl
          rw [run_indexAt_slice (h := by rw [hel]; exact Tryz.underlying67), if_pos ⟨by omega, by omega⟩, hel, Tryz.sizeOf5]
          rfl
        obtain ⟨v3, hs3, hp3⟩ := midB HV.out 3 7 (by omega) (by rw [N1.out]; omega)
        obtain ⟨v4, hs4, hp4⟩ := midB HV.out 7 11 (by omega) (by rw [N1.out]; omega)
        obtain ⟨v5, hs5, hp5⟩ := midB HV.out 11 (k + 11) (by omega) (by rw [N1.out]; omega)
        rw [show ((k + 11 : Nat) : Int) = (k : Int) + 11 by omega] at hs5
        have hs3' : ∀ W, Sem.run Tryz.prog (Instr.slice 67 (.slice (some ⟨b, off, none⟩) n cap) (some (.int .i64 3)) (some (.int .i64 7)) none) W = .ok v3 W := fun W => hs3 W
        have hs4' : ∀ W, Sem.run Tryz.prog (Instr.slice 67 (.slice (some ⟨b, off, none⟩) n cap) (some (.int .i64 7)) (some (.int .i64 11)) none) W = .ok v4 W := fun W => hs4 W
        have hs5' : ∀ W, Sem.run Tryz.prog (Instr.slice 67 (.slice (some ⟨b, off, none⟩) n cap) (some (.int .i64 11)) (some (.int .i64 ((k : Int) + 11))) none) W = .ok v5 W := fun W => hs5 W
        have c3 : ∀ m, Hid (Calls Tryz.prog 96 #[v3] (B0.drewN m) fun e w' => e = .returned (.int .i64 (valN (midN bs 3 7) : Int)) ∧ w' = B0.drewN m) :=
          fun m => valueRC v3 _ _ (holdsB_mono hp3 (below_drewN _ _)) (midN_len _ _ _)
        have c4 : ∀ m, Hid (Calls Tryz.prog 96 #[v4] (B0.drewN m) fun e w' => e = .returned (.int .i64 (valN (midN bs 7 11) : Int)) ∧ w' = B0.drewN m) :=
          fun m => valueRC v4 _ _ (holdsB_mono hp4 (below_drewN _ _)) (midN_len _ _ _)
        have l3 : valN (midN bs 3 7) < 4294967296 := val4 (midN_len _ _ _)
        have l4 : valN (midN bs 7 11) < 4294967296 := val4 (midN_len _ _ _)
        generalize valN (midN bs 3 7) = x3 at c3 e3 l3
        generalize valN (midN bs 7 11) = x4 at c4 e3 l4
        have hcv : ∀ m, Sem.run Tryz.prog (convert 67 9 v5) (B0.drewN m) = .ok (.string ⟨(midN bs 11 (k + 11)).toArray⟩) (B0.drewN m) :=
          fun m => conv_holds (holdsB_mono hp5 (below_drewN _ _))
        generalize midN bs 11 (k + 11) = idl at hcv e3
        clear hs3 hs4 hs5 hp3 hp4 hp5 E1 hn
        go_enter Tryz.func66, Tryz.ntmps66
        go_wp2_with fail
        rw [← HB0.out]
        refine cV.out.mono ?_
        rintro e w9 ⟨rfl, ew⟩
        rw [ew]; clear ew w9
        go_wp2_with fail
        go_quiet (first
          | (go_at_call 96; exact Calls.quiet_of_same (cN _).out)
          | (go_at_call 73; exact Calls.quiet_of_same (cS _).out))
        have LB2 := hide' (LB.out.trans ((below_drewN B0 nq).mono LB.out.size))
        have HQ2 := hide' (quad_below HQ.out (below_drewN B0 nq))
        have x2 : (B0.drewN nq).cell? ⟨b, off, none⟩ = some (.int .u8 194) := by rw [(below_drewN B0 nq).cell (p := ⟨b, off, none⟩) hb]; exact x1
        have c3' : ∀ m, Hid (Calls Tryz.prog 96 #[v3] ((B0.drewN nq).drewN m) fun e w' => e = .returned (.int .i64 (x3 : Int)) ∧ w' = (B0.drewN nq).drewN m) := fun m => by rw [World.drewN_drewN]; exact c3 _
        have c4' : ∀ m, Hid (Calls Tryz.prog 96 #[v4] ((B0.drewN nq).drewN m) fun e w' => e = .returned (.int .i64 (x4 : Int)) ∧ w' = (B0.drewN nq).drewN m) := fun m => by rw [World.drewN_drewN]; exact c4 _
        have hcv' : ∀ m, Sem.run Tryz.prog (convert 67 9 v5) ((B0.drewN nq).drewN m) = .ok (.string ⟨idl.toArray⟩) ((B0.drewN nq).drewN m) := fun m => by rw [World.drewN_drewN]; exact hcv _
        clear c3 c4 hcv cN cS x1
        generalize B0.drewN nq = B2 at HQ2 LB2 x2 c3' c4' hcv' ⊢
        obtain ⟨q0, q1, q2, q3, f0, f1, f2, f3, qz⟩ := HQ2.out
        have c3d := c3' 1
        have c4d := c4' 1
        have hcd := hcv' 0
        have hce := hcv' 1
        rw [show B2.drewN 1 = B2.drew from rfl] at hce c3d c4d
        rw [show B2.drewN 0 = B2 from rfl] at hcd
        have hkl : Hid (k ≤ 4096) := by unfold Hid; omega
        clear c3' c4' hcv' hcn h4 hd3 hd4 hd5 h5 vl sl hsb hs2 hn0 hnp y1
        go_wp2_with fail
        go_region_held_law (fun w' => w'.cell? ⟨b, off, none⟩ = some (.int .u8 194)) (go_keep)
          (first
            | (go_at_call_of 96 (v3); refine c3d.out.mono ?_; rintro e' w7 ⟨rfl, ew⟩; subst ew)
            | (go_at_call_of 96 (v4); refine c4d.out.mono ?_; rintro e' w8 ⟨rfl, ew⟩; subst ew))
        all_goals
          rw [show IntKind.i64.wrap (IntKind.i64.wrap 194 - 192) = 2 by decide]
          go_wp2_with fail
          obtain ⟨p0, p1, p2, p3⟩ := quad_store HQ2.out (.int .i64 (x3 : Int)) (.int .i64 2) (.int .i64 (x4 : Int)) (.string ⟨idl.toArray⟩)
          have qb := put4_below LB2.out (Nat.le_refl _) (.int .i64 (x3 : Int)) (.int .i64 2) (.int .i64 (x4 : Int)) (.string ⟨idl.toArray⟩)
          unfold put4 at p0 p1 p2 p3 qb
          exact bodyPost_ret (v := .tuple #[.agg #[.int .i64 (x3 : Int), .int .i64 2, .int .i64 (x4 : Int), .string ⟨idl.toArray⟩], .int .i64 ((k : Int) + 15), .int .i64 0]) (by simp [results, Tryz.results66, go_sem, p0, p1, p2, p3]) rfl ⟨by rw [e3.out]; unfold decV recV; rw [show ((k + 15 : Nat) : Int) = (k : Int) + 15 by omega]; rfl, qb.drew⟩
      · have eD : Hid (decOf bs = decErr 100) := by unfold Hid; rw [E1.out, if_neg hxy]
        have hne : ((x : Int) != (y : Int)) = true := by simp; omega
        clear E1 hn
        go_enter Tryz.func66, Tryz.ntmps66
        go_wp2_with fail
        rw [← HB0.out]
        refine cV.out.mono ?_
        rintro e w9 ⟨rfl, ew⟩
        rw [ew]; clear ew w9
        go_wp2_with fail
        go_quiet (first
          | (go_at_call 96; exact Calls.quiet_of_same (cN _).out)
          | (go_at_call 73; exact Calls.quiet_of_same (cS _).out))
        have LB2 := hide' (LB.out.trans ((below_drewN B0 nq).mono LB.out.size))
        have HQ2 := hide' (quad_below HQ.out (below_drewN B0 nq))
        generalize B0.drewN nq = B2 at HQ2 LB2 ⊢
        obtain ⟨q0, q1, q2, q3, f0, f1, f2, f3, qz⟩ := HQ2.out
        go_wp2_with fail
        obtain ⟨p0, p1, p2, p3⟩ := quad_store HQ2.out (.int .i64 0) (.int .i64 0) (.int .i64 0) (.string ⟨#[]⟩)
        have qb := put4_below LB2.out (Nat.le_refl _) (.int .i64 0) (.int .i64 0) (.int .i64 0) (.string ⟨#[]⟩)
        unfold put4 at p0 p1 p2 p3 qb
        exact bodyPost_ret (v := .tuple #[.agg #[.int .i64 0, .int .i64 0, .int .i64 0, .string ⟨#[]⟩], .int .i64 0, .int .i64 100]) (by simp [results, Tryz.results66, go_sem, p0, p1, p2, p3]) rfl ⟨by rw [eD.out]; rfl, qb⟩
end Go.Proofs.YtijnjgnckipghaaGreat
