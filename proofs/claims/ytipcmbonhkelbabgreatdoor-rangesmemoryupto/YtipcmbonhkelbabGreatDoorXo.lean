/- The contract of the document's occurs. The contract of the document's Apply where it answers the whole. The contract of the document's Apply where the range can't be had. The contract of the document's Apply where one span is had. -/
import Derived.Test.YtipcmbonhkelbabGreatDoorXa
import Derived.Test.YtipcmbonhkelbabGreatDoorXb
import Derived.Deep.Cut
import Derived.Test.YtipcmbonhkelbabGreatDoorXm
import Derived.Test.YtipcmbonhkelbabGreatDoorRgQ
import Derived.Deep.RegionHeld3
namespace Go.Proofs.YtipcmbonhkelbabGreatDoor
open Go.RowKit
theorem lo_eqX (a b : List UInt8) : (a == b) = decide (a = b) := by
  by_cases h : a = b
  · rw [h]; simp
  · rw [decide_eq_false h]
    exact beq_eq_false_iff_ne.2 h
theorem stIn_no {s b : List UInt8} {k : Nat} (h : ∀ i, i < k → stAt s b i = false) (hk : b.length < k + s.length) : stIn s b = false := by
  cases e : stIn s b with
  | false => rfl
  | true =>
    obtain ⟨i, hi⟩ := (stIn_iff s b).1 e
    by_cases hlt : i < k
    · rw [h i hlt] at hi; cases hi
    · unfold stAt at hi
      simp only [Bool.and_eq_true, decide_eq_true_eq] at hi
      omega
set_option maxHeartbeats 4000000 in
set_option maxRecDepth 20000 in
theorem occursRG (s : ByteArray) (v : Value) (b : List UInt8) (w : World) (hv : HoldsB w v b) (hs : s.size ≤ 140737488351232) (hb : b.length ≤ 140737488351232) :
    Calls Tryz.prog 30 #[.string s, v] w fun e w' => e = .returned (.bool (stIn s.data.toList b)) ∧ Below w.heap.size w w' := by
  obtain ⟨res, er⟩ : ∃ res, res = stIn s.data.toList b := ⟨_, rfl⟩
  rw [← er]
  have NO := hide' (fun k (h : ∀ i, i < k → stAt s.data.toList b i = false) (hk : b.length < k + s.size) => er.trans (stIn_no h (by simpa using hk)))
  have YES := hide' (fun k (h : stAt s.data.toList b k = true) => er.trans ((stIn_iff s.data.toList b).2 ⟨k, h⟩))
  have HV := hide' hv
  obtain ⟨ao, cap, rfl, _, hcp, _⟩ := id hv
  obtain ⟨n, hn⟩ : ∃ n, n = b.length := ⟨_, rfl⟩
  have N := hide' hn.symm
  rw [N.out] at NO HV hb hcp ⊢
  obtain ⟨m, hm⟩ : ∃ m, m = s.size := ⟨_, rfl⟩
  have M := hide' hm.symm
  clear er hv hn hm
  go_enter Tryz.func30, Tryz.ntmps30
  go_wp2_with fail
  go_loopw [5] (fun i wr => ∃ k : Nat, k ≤ n + 1 ∧ i = .int .i64 k ∧ Hid (Below w.heap.size w wr) ∧ Hid (∀ i, i < k → stAt s.data.toList b i = false)) (fun i _ => n + 1 - (intOf i).toNat)
  case atStart => exact ⟨0, Nat.zero_le _, rfl, Below.refl _ _, fun i h => absurd h (Nat.not_lt_zero _)⟩
  case round =>
    obtain ⟨k, hk, rfl, B0, H⟩ := hrel
    have hms := M.out
    by_cases hlt : k + s.size ≤ n
    · have HW := hide' (fun W (h : Below w.heap.size w W) => holdsB_mono HV.out h)
      obtain ⟨pv, hsl, hpv⟩ := midB (HW.out wr B0.out) k (k + s.size) (by omega) (by have := N.out; omega)
      have hc := conv_holds hpv
      have AT : Hid (stAt s.data.toList b k = decide ((b.drop k).take s.size = s.data.toList)) := by
        unfold Hid stAt
        rw [N.out, decide_eq_true (by simpa using hlt), Bool.true_and]
        simp
      rw [show k + s.size - k = s.size by omega] at hc
      rw [show ((k + s.size : Nat) : Int) = (k : Int) + (m : Int) by rw [← hms]; omega] at hsl
      obtain ⟨t, et⟩ : ∃ t : ByteArray, t = ⟨((b.drop k).take s.size).toArray⟩ := ⟨_, rfl⟩
      have tq : (t.toList == s.toList) = stAt s.data.toList b k := by
        rw [AT.out, et, Lib.toList_data, Lib.toList_data]
        exact lo_eqX _ _
      rw [← et] at hc
      clear hpv HW AT et
      have YK := hide' (YES.out k)
      have ST := hide' (show stAt s.data.toList b k = false → ∀ i, i < k + 1 → stAt s.data.toList b i = false from fun h i hi => by
        rcases Nat.lt_or_ge i k with h1 | h1
        · exact H.out i h1
        · obtain rfl : i = k := by omega
          exact h)
      clear H
      generalize stAt s.data.toList b k = sk at tq YK ST
      cases sk with
      | true =>
        have R := hide' (YK.out rfl)
        clear YK ST
        go_wp2_with fail
        go_ret
        exact ⟨by rw [R.out]; rfl, B0.out⟩
      | false =>
        have R := hide' (ST.out rfl)
        clear YK ST
        go_wp2_with fail
        go_roundw
        case rel => exact ⟨k + 1, by omega, by go_num, B0, R⟩
        case measure => simp [intOf]; omega
    · have R := hide' (NO.out k H.out (by omega))
      go_wp2_with fail
      go_ret
      exact ⟨by rw [R.out]; rfl, B0.out⟩
end Go.Proofs.YtipcmbonhkelbabGreatDoor
namespace Go.Proofs.YtipcmbonhkelbabGreatDoor
open Go.RowKit
set_option maxHeartbeats 8000000 in
set_option maxRecDepth 20000 in
theorem appRA (s k : Int) (zr : List UInt8) (av lv v : Value) (ask fs : FL) (body : List UInt8) (D : List UInt8 → Int) (w : World) (ha : HoldsF w av ask) (hv : HoldsF w lv fs) (hB : HoldsB w v body) (hb : bulkF ask + bulkF fs + body.length ≤ 1048576) (hD : DtQ (getJ fs lmN) (D (getJ fs lmN)))
    (hc : ¬ s = 200 ∨ hasA ask raN = false ∨ (rngP (getJ ask raN) body.length).1 = 190 ∨ rgHeld D ask fs = false) :
    Calls Tryz.prog 8 #[av, .agg #[.int .i64 s, .string ⟨zr.toArray⟩, .int .i64 k, lv], v] w fun e w' => ∃ u bv, e = .returned (.tuple #[.agg #[.int .i64 s, .string ⟨zr.toArray⟩, .int .i64 k, u], bv]) ∧ OwnF w u (fs) w' ∧ HoldsB w' bv (body) ∧ Below w.heap.size w w' := by
  have g0 := getJ_len ask raN
  have fl := bulkF_len fs
  have cC := hide' (fun W (h : Below w.heap.size w W) => copyRs s k zr fs lv W (holdsF_mono hv h) (by omega))
  have cG := fun W (h : Below w.heap.size w W) => getRef av ask raN W (holdsF_mono ha h) (by omega) (by decide)
  simp only [getJ_eq] at cG
  rw [show decide (0 < (valsOf ask raN).length) = hasA ask raN from rfl] at cG
  replace cG := hide' cG
  have cP := fun W => parseRG ⟨(getJ ask raN).toArray⟩ (body.length : Int) W (by rw [size_l]; omega) (by omega) (by omega)
  rw [show (⟨(getJ ask raN).toArray⟩ : ByteArray).data.toList = getJ ask raN by simp] at cP
  replace cP := hide' cP
  have cH := hide' (fun W (h : Below w.heap.size w W) => holdsRG s k zr av lv ask fs D W (holdsF_mono ha h) (holdsF_mono hv h) (by omega) hD)
  have cB := hide' (fun W (h : Below w.heap.size w W) => copyB v body W (holdsB_mono hB h) (by omega))
  have hbl : body.length ≤ 1048576 := by omega
  obtain ⟨la, lc, _, _, el, -⟩ := holdsF_parts hv
  obtain ⟨aa, ac, _, _, ea, -⟩ := holdsF_parts ha
  obtain ⟨ba, bc, eb, _⟩ := id hB
  subst el ea eb
  clear hv ha hB hb hD g0 fl
  generalize rgHeld D ask fs = held at cH hc
  generalize hasA ask raN = hs at cG hc
  generalize rngP (getJ ask raN) body.length = P at cP hc
  obtain ⟨pe, ps⟩ := P
  dsimp only at cP hc
  generalize getJ ask raN = je at cG cP
  generalize ask.length = m at cG cH ⊢
  obtain ⟨n, hn⟩ : ∃ n, n = fs.length := ⟨_, rfl⟩
  have N := hide' hn.symm
  rw [N.out] at cC cH ⊢
  generalize body.length = bl at cP cB hbl ⊢
  generalize (⟨zr.toArray⟩ : ByteArray) = R at cC cH ⊢
  clear hn
  have Q0 := quad_lit w (.int .i64 s) (.string R) (.int .i64 k) (.slice la n lc) 24
  have b0 := below_alloc' w (.cells #[.int .i64 s, .string R, .int .i64 k, .slice la n lc] 24)
  have b1 := below_alloc' (w.alloc (.cells #[.int .i64 s, .string R, .int .i64 k, .slice la n lc] 24)) (.cells #[.int .i64 0, .string ⟨#[]⟩, .int .i64 0, .slice none 0 0] 24)
  have Q1 := quad_below Q0 b1
  have B1 := hide' (bt' b0 b1)
  clear Q0 b0 b1
  obtain ⟨i0, i1, i2, i3, f0, f1, f2, f3, iz⟩ := Q1
  go_enter Tryz.func8, Tryz.ntmps8
  go_wp2_with fail
  refine (cC.out _ B1.out).mono ?_
  rintro e w2 ⟨u, rfl, ho⟩
  have RS := hide' (rst_make (R := R) 24 ho)
  obtain ⟨ua, uc, _, _, eu, -⟩ := holdsF_parts (holdsF_own ho)
  rw [N.out] at eu
  subst eu
  clear ho cC B1 i0 i1 i2 i3 f0 f1 f2 f3 iz
  go_wp2_with fail
  refine (cG.out _ RS.out.bel).mono ?_
  rintro e w3 ⟨rfl, b3⟩
  have R3 := hide' (rst_below RS.out b3)
  clear b3 RS cG
  obtain ⟨z, hz⟩ : ∃ z, z = w2.heap.size := ⟨_, rfl⟩
  rw [← hz] at R3 ⊢
  clear hz
  go_wp2_with fail
  refine (cP.out _).mono ?_
  rintro e w4 ⟨u4, rfl, ho⟩
  have R4 := hide' (rst_below R3.out ho.2)
  obtain ⟨xa, xc, ex⟩ := holdsX_slice (holdsX_own ho)
  rw [ex]
  clear R3 ho cP ex
  generalize ps.length = pl
  have kB := hide' (fun t0 t1 t2 t3 W (h : RSt w z s R k (.slice la n lc) (.slice ua n uc) fs t0 t1 t2 t3 W) => rst_bytes h (cB.out W h.bel))
  have ne1 : w.heap.size + 1 ≠ z := Nat.ne_of_lt R4.out.far
  have ne2 : z ≠ w.heap.size + 1 := fun e => ne1 e.symm
  clear cB
  obtain ⟨i0, i1, i2, i3⟩ := quad_blk R4.out.q0
  by_cases c1 : s = 200
  · have x1 : (s != 200) = false := by simp [c1]
    replace hc := hc.resolve_left (fun h => h c1)
    clear c1
    cases hs with
    | false =>
      clear cH hc
      go_wp2_with fail
      clear i0 i1 i2 i3
      obtain ⟨j0, j1, j2, j3⟩ := quad_blk R4.out.qz
      obtain ⟨p0, p1, p2, p3, g0, g1, g2, g3, -⟩ := R4.out.q1
      go_region_held3 (fun w' => w'.cell? ⟨z, 0, none⟩ = some (.int .i64 s) ∧ w'.cell? ⟨z, 1, none⟩ = some (.string R) ∧ w'.cell? ⟨z, 2, none⟩ = some (.int .i64 k) ∧ w'.cell? ⟨z, 3, none⟩ = some (.slice ua n uc)) (go_keep)
        (first | (go_at_call 5; refine (kB.out _ _ _ _ _ (by first | with_reducible exact R4.out | with_reducible exact rst_drew R4.out | with_reducible exact rst_put R4.out _ _ _ _ | with_reducible exact rst_put (rst_drew R4.out) _ _ _ _)).mono ?_; rintro e w9 ⟨b2, rfl, R9, O9, ⟨l0, l1, l2, l3⟩, ⟨t0, t1, t2, t3⟩, ⟨y0, y1, y2, y3⟩⟩))
      all_goals
        go_wp2_with fail
        have RZ := rst_put R9.out (.int .i64 s) (.string R) (.int .i64 k) (.slice ua n uc)
        obtain ⟨q0', q1', q2', q3'⟩ := quad_blk RZ.q1
        have qB := row_put (v0 := .int .i64 s) (v1 := .string R) (v2 := .int .i64 k) (v3 := .slice ua n uc) O9.out (b := w.heap.size + 1) (by omega)
        replace qB := holdsB_row qB
        unfold put4 at qB
        exact bodyPost_ret (v := .tuple #[.agg #[.int .i64 s, .string R, .int .i64 k, .slice ua n uc], b2]) (by simp [results, Tryz.results8, go_sem, q0', q1', q2', q3']) rfl ⟨_, _, rfl, by rw [← N.out] at RZ ⊢; exact ⟨row_base RZ.own (by omega), RZ.bel⟩, qB, RZ.bel⟩
    | true =>
      replace hc := hc.resolve_left (by decide)
      by_cases c3 : pe = 190
      · have x3 : (pe == 190) = true := by simp [c3]
        clear cH hc c3
        go_wp2_with fail
        clear i0 i1 i2 i3
        obtain ⟨j0, j1, j2, j3⟩ := quad_blk R4.out.qz
        obtain ⟨p0, p1, p2, p3, g0, g1, g2, g3, -⟩ := R4.out.q1
        go_region_held3 (fun w' => w'.cell? ⟨z, 0, none⟩ = some (.int .i64 s) ∧ w'.cell? ⟨z, 1, none⟩ = some (.string R) ∧ w'.cell? ⟨z, 2, none⟩ = some (.int .i64 k) ∧ w'.cell? ⟨z, 3, none⟩ = some (.slice ua n uc)) (go_keep)
          (first | (go_at_call 5; refine (kB.out _ _ _ _ _ (by first | with_reducible exact R4.out | with_reducible exact rst_drew R4.out | with_reducible exact rst_put R4.out _ _ _ _ | with_reducible exact rst_put (rst_drew R4.out) _ _ _ _)).mono ?_; rintro e w9 ⟨b2, rfl, R9, O9, ⟨l0, l1, l2, l3⟩, ⟨t0, t1, t2, t3⟩, ⟨y0, y1, y2, y3⟩⟩))
        all_goals
          go_wp2_with fail
          have RZ := rst_put R9.out (.int .i64 s) (.string R) (.int .i64 k) (.slice ua n uc)
          obtain ⟨q0', q1', q2', q3'⟩ := quad_blk RZ.q1
          have qB := row_put (v0 := .int .i64 s) (v1 := .string R) (v2 := .int .i64 k) (v3 := .slice ua n uc) O9.out (b := w.heap.size + 1) (by omega)
          replace qB := holdsB_row qB
          unfold put4 at qB
          exact bodyPost_ret (v := .tuple #[.agg #[.int .i64 s, .string R, .int .i64 k, .slice ua n uc], b2]) (by simp [results, Tryz.results8, go_sem, q0', q1', q2', q3']) rfl ⟨_, _, rfl, by rw [← N.out] at RZ ⊢; exact ⟨row_base RZ.own (by omega), RZ.bel⟩, qB, RZ.bel⟩
      · have x3 : (pe == 190) = false := by simpa using c3
        obtain rfl := hc.resolve_left c3
        clear c3 hc
        go_wp2_with fail
        refine (cH.out _ R4.out.bel).mono ?_
        rintro e w5 ⟨rfl, b5⟩
        have R5 := hide' (rst_below R4.out b5)
        clear b5 cH R4 i0 i1 i2 i3
        go_wp2_with fail
        skip
        obtain ⟨j0, j1, j2, j3⟩ := quad_blk R5.out.qz
        obtain ⟨p0, p1, p2, p3, g0, g1, g2, g3, -⟩ := R5.out.q1
        go_region_held3 (fun w' => w'.cell? ⟨z, 0, none⟩ = some (.int .i64 s) ∧ w'.cell? ⟨z, 1, none⟩ = some (.string R) ∧ w'.cell? ⟨z, 2, none⟩ = some (.int .i64 k) ∧ w'.cell? ⟨z, 3, none⟩ = some (.slice ua n uc)) (go_keep)
          (first | (go_at_call 5; refine (kB.out _ _ _ _ _ (by first | with_reducible exact R5.out | with_reducible exact rst_drew R5.out | with_reducible exact rst_put R5.out _ _ _ _ | with_reducible exact rst_put (rst_drew R5.out) _ _ _ _)).mono ?_; rintro e w9 ⟨b2, rfl, R9, O9, ⟨l0, l1, l2, l3⟩, ⟨t0, t1, t2, t3⟩, ⟨y0, y1, y2, y3⟩⟩))
        all_goals
          go_wp2_with fail
          have RZ := rst_put R9.out (.int .i64 s) (.string R) (.int .i64 k) (.slice ua n uc)
          obtain ⟨q0', q1', q2', q3'⟩ := quad_blk RZ.q1
          have qB := row_put (v0 := .int .i64 s) (v1 := .string R) (v2 := .int .i64 k) (v3 := .slice ua n uc) O9.out (b := w.heap.size + 1) (by omega)
          replace qB := holdsB_row qB
          unfold put4 at qB
          exact bodyPost_ret (v := .tuple #[.agg #[.int .i64 s, .string R, .int .i64 k, .slice ua n uc], b2]) (by simp [results, Tryz.results8, go_sem, q0', q1', q2', q3']) rfl ⟨_, _, rfl, by rw [← N.out] at RZ ⊢; exact ⟨row_base RZ.own (by omega), RZ.bel⟩, qB, RZ.bel⟩
  · have x1 : (s != 200) = true := by simpa using c1
    clear cH hc c1
    go_wp2_with fail
    clear i0 i1 i2 i3
    obtain ⟨j0, j1, j2, j3⟩ := quad_blk R4.out.qz
    obtain ⟨p0, p1, p2, p3, g0, g1, g2, g3, -⟩ := R4.out.q1
    go_region_held3 (fun w' => w'.cell? ⟨z, 0, none⟩ = some (.int .i64 s) ∧ w'.cell? ⟨z, 1, none⟩ = some (.string R) ∧ w'.cell? ⟨z, 2, none⟩ = some (.int .i64 k) ∧ w'.cell? ⟨z, 3, none⟩ = some (.slice ua n uc)) (go_keep)
      (first | (go_at_call 5; refine (kB.out _ _ _ _ _ (by first | with_reducible exact R4.out | with_reducible exact rst_drew R4.out | with_reducible exact rst_put R4.out _ _ _ _ | with_reducible exact rst_put (rst_drew R4.out) _ _ _ _)).mono ?_; rintro e w9 ⟨b2, rfl, R9, O9, ⟨l0, l1, l2, l3⟩, ⟨t0, t1, t2, t3⟩, ⟨y0, y1, y2, y3⟩⟩))
    all_goals
      go_wp2_with fail
      have RZ := rst_put R9.out (.int .i64 s) (.string R) (.int .i64 k) (.slice ua n uc)
      obtain ⟨q0', q1', q2', q3'⟩ := quad_blk RZ.q1
      have qB := row_put (v0 := .int .i64 s) (v1 := .string R) (v2 := .int .i64 k) (v3 := .slice ua n uc) O9.out (b := w.heap.size + 1) (by omega)
      replace qB := holdsB_row qB
      unfold put4 at qB
      exact bodyPost_ret (v := .tuple #[.agg #[.int .i64 s, .string R, .int .i64 k, .slice ua n uc], b2]) (by simp [results, Tryz.results8, go_sem, q0', q1', q2', q3']) rfl ⟨_, _, rfl, by rw [← N.out] at RZ ⊢; exact ⟨row_base RZ.own (by omega), RZ.bel⟩, qB, RZ.bel⟩
end Go.Proofs.YtipcmbonhkelbabGreatDoor
namespace Go.Proofs.YtipcmbonhkelbabGreatDoor
open Go.RowKit
set_option maxHeartbeats 8000000 in
set_option maxRecDepth 20000 in
theorem appRC (s k : Int) (zr : List UInt8) (av lv v : Value) (ask fs : FL) (body : List UInt8) (D : List UInt8 → Int) (w : World) (ha : HoldsF w av ask) (hv : HoldsF w lv fs) (hB : HoldsB w v body) (hb : bulkF ask + bulkF fs + body.length ≤ 1048576) (hD : DtQ (getJ fs lmN) (D (getJ fs lmN)))
    (h200 : s = 200) (hh : hasA ask raN = true) (hd : rgHeld D ask fs = true) (hp : rngP (getJ ask raN) body.length = (191, [])) :
    Calls Tryz.prog 8 #[av, .agg #[.int .i64 s, .string ⟨zr.toArray⟩, .int .i64 k, lv], v] w fun e w' => ∃ u bv, e = .returned (.tuple #[.agg #[.int .i64 416, .string ⟨unsR.toArray⟩, .int .i64 k, u], bv]) ∧ OwnF w u (putOf (withoutOf fs [clH, ctN]) crU (starL ++ Lib.itoa body.length)) w' ∧ HoldsB w' bv ([]) ∧ Below w.heap.size w w' := by
  have g0 := getJ_len ask raN
  have fl := bulkF_len fs
  have FT := hide' (show Fit fs from fun f hf => by have := bulkF_mem fs f hf; omega)
  have cC := hide' (fun W (h : Below w.heap.size w W) => copyRs s k zr fs lv W (holdsF_mono hv h) (by omega))
  have cG := fun W (h : Below w.heap.size w W) => getRef av ask raN W (holdsF_mono ha h) (by omega) (by decide)
  simp only [getJ_eq] at cG
  rw [show decide (0 < (valsOf ask raN).length) = hasA ask raN from rfl, hh] at cG
  replace cG := hide' cG
  have cP := fun W => parseRG ⟨(getJ ask raN).toArray⟩ (body.length : Int) W (by rw [size_l]; omega) (by omega) (by omega)
  rw [show (⟨(getJ ask raN).toArray⟩ : ByteArray).data.toList = getJ ask raN by simp, hp] at cP
  dsimp only at cP
  replace cP := hide' cP
  have cH := hide' (fun W (h : Below w.heap.size w W) => holdsRG s k zr av lv ask fs D W (holdsF_mono ha h) (holdsF_mono hv h) (by omega) hD)
  rw [hd] at cH
  have HV := hide' hv
  have HB := hide' hB
  have cW := hide' (fun W (h : Below w.heap.size w W) => withoutRef lv _ fs [clH, ctN] _ (holdsF_mono hv (bt' h (below_alloc' W (.cells #[S clH, S ctN] 9)))) (holds_litA W clH ctN) FT.out (by decide) (by omega) (by decide))
  have wl := without_len fs [clH, ctN]
  have FW := hide' (fit_without FT.out [clH, ctN])
  have cS := hide' (fun W => showInt (body.length : Int) (by omega) (by omega) W)
  have ll := itoa_le (body.length : Int) (by omega) (by omega)
  have cU := hide' (fun v W (h : HoldsF W v (withoutOf fs [clH, ctN])) => putRef v _ crU (starL ++ Lib.itoa body.length) W h FW.out (by decide) (by omega))
  have hbl : body.length ≤ 1048576 := by omega
  obtain ⟨la, lc, _, _, el, -⟩ := holdsF_parts hv
  obtain ⟨aa, ac, _, _, ea, -⟩ := holdsF_parts ha
  obtain ⟨ba, bc, eb, _⟩ := id hB
  subst el ea eb h200
  clear hv ha hB hb hD g0 fl hh hd hp
  generalize getJ ask raN = je at cG cP
  generalize ask.length = m at cG cH ⊢
  obtain ⟨n, hn⟩ : ∃ n, n = fs.length := ⟨_, rfl⟩
  have N := hide' hn.symm
  rw [N.out] at cC cH HV ⊢
  generalize withoutOf fs [clH, ctN] = fw at cW cU FW wl ⊢
  obtain ⟨A, eA⟩ : ∃ A : ByteArray, A = ⟨(Lib.itoa (body.length : Int)).toArray⟩ := ⟨_, rfl⟩
  have lA : A.size ≤ 20 := by rw [eA, size_l]; exact ll
  obtain ⟨X, eX⟩ : ∃ X : ByteArray, X = ⟨(starL ++ Lib.itoa (body.length : Int)).toArray⟩ := ⟨_, rfl⟩
  have p1 : ∀ W, (Op.stringOp .add ⟨#[98, 121, 116, 101, 115, 32, 42, 47]⟩ A).run Tryz.prog W = .ok (.string X) W := fun W => by
    rw [addL (by have : (⟨#[98, 121, 116, 101, 115, 32, 42, 47]⟩ : ByteArray).size = 8 := rfl; omega), eX, eA, ← baA]
    rfl
  rw [← eA] at cS
  rw [← eX] at cU
  have pl := put_len fw crU (starL ++ Lib.itoa (body.length : Int))
  generalize putOf fw crU (starL ++ Lib.itoa (body.length : Int)) = fp at cU pl ⊢
  clear eA eX ll
  generalize body.length = bl at cP cS hbl ⊢
  generalize (⟨zr.toArray⟩ : ByteArray) = R at cC cH ⊢
  clear hn
  have Q0 := quad_lit w (.int .i64 200) (.string R) (.int .i64 k) (.slice la n lc) 24
  have b0 := below_alloc' w (.cells #[.int .i64 200, .string R, .int .i64 k, .slice la n lc] 24)
  have b1 := below_alloc' (w.alloc (.cells #[.int .i64 200, .string R, .int .i64 k, .slice la n lc] 24)) (.cells #[.int .i64 0, .string ⟨#[]⟩, .int .i64 0, .slice none 0 0] 24)
  have Q1 := quad_below Q0 b1
  have B1 := hide' (bt' b0 b1)
  clear Q0 b0 b1
  obtain ⟨i0, i1, i2, i3, f0, f1, f2, f3, iz⟩ := Q1
  go_enter Tryz.func8, Tryz.ntmps8
  go_wp2_with fail
  refine (cC.out _ B1.out).mono ?_
  rintro e w2 ⟨u, rfl, ho⟩
  have RS := hide' (rst_make (R := R) 24 ho)
  obtain ⟨ua, uc, _, _, eu, -⟩ := holdsF_parts (holdsF_own ho)
  rw [N.out] at eu
  subst eu
  clear ho cC B1 i0 i1 i2 i3 f0 f1 f2 f3 iz
  go_wp2_with fail
  refine (cG.out _ RS.out.bel).mono ?_
  rintro e w3 ⟨rfl, b3⟩
  have R3 := hide' (rst_below RS.out b3)
  clear b3 RS cG
  obtain ⟨z, hz⟩ : ∃ z, z = w2.heap.size := ⟨_, rfl⟩
  rw [← hz] at R3 ⊢
  clear hz
  go_wp2_with fail
  refine (cP.out _).mono ?_
  rintro e w4 ⟨u4, rfl, ho⟩
  have R4 := hide' (rs4_of (rst_below R3.out ho.2))
  unfold S clH ctN at cW
  rw [N.out] at cW
  obtain ⟨xa, xc, ex⟩ := holdsX_slice (holdsX_own ho)
  rw [ex]
  clear R3 ho cP ex
  obtain ⟨i0, i1, i2, i3⟩ := quad_blk R4.out.q0
  go_wp2_with fail
  refine (cH.out _ R4.out.bel).mono ?_
  rintro e w5 ⟨rfl, b5⟩
  have R5 := hide' (rs4_below R4.out b5)
  clear b5 cH R4 i0 i1 i2 i3
  obtain ⟨i0, i1, i2, i3⟩ := quad_blk R5.out.q0
  go_wp2_with fail
  refine (cW.out _ R5.out.bel).mono ?_
  rintro e w6 ⟨u6, rfl, ho⟩
  have hw := ho.2.size
  have ho := ownF_base ho (below_alloc' w5 _)
  have R6 := hide' (rs4_below R5.out ho.2)
  obtain ⟨fa, fc, _, _, ef, -⟩ := holdsF_parts (holdsF_own ho)
  have H6 := hide' (holdsF_own ho)
  rw [ef] at H6 ⊢
  clear ho ef hw R5 i0 i1 i2 i3 cW
  have kS : Hid (∀ W, Below w6.heap.size w6 W → Calls Tryz.prog 28 #[.int .i64 (bl : Int)] W fun e w' => e = .returned (.string A) ∧ Hid (Below w6.heap.size w6 w') ∧ w'.cell? ⟨w.heap.size, 2, none⟩ = some (.int .i64 k)) := fun W h => (cS.out W).mono (fun e w' ⟨h1, h2⟩ => ⟨h1, bt' h h2, (quad_blk (rs4_below R6.out (bt' h h2)).q0).2.2.1⟩)
  have kU : Hid (∀ W, Below w6.heap.size w6 W → Calls Tryz.prog 27 #[.slice fa fw.length fc, .string ⟨crU.toArray⟩, .string X] W fun e w' => ∃ a c, e = .returned (.slice a fp.length c) ∧ Hid (RS4 w z (.int .i64 200) (.string R) (.int .i64 k) (.slice la n lc) (.int .i64 0) (.string ⟨#[]⟩) (.int .i64 0) (.slice none 0 0) (.int .i64 200) (.string R) (.int .i64 k) (.slice ua n uc) w') ∧ Hid (w'.ownsRow (w.heap.size + 2) 42 2 (.slice a fp.length c) fp.length (cellsF fp)) ∧ w'.cell? ⟨w.heap.size, 2, none⟩ = some (.int .i64 k)
      ∧ (w'.cell? ⟨w.heap.size + 1, 0, none⟩ = some (.int .i64 0) ∧ w'.cell? ⟨w.heap.size + 1, 1, none⟩ = some (.string ⟨#[]⟩) ∧ w'.cell? ⟨w.heap.size + 1, 2, none⟩ = some (.int .i64 0) ∧ w'.cell? ⟨w.heap.size + 1, 3, none⟩ = some (.slice none 0 0))
      ∧ (w'.frozen? ⟨w.heap.size + 1, 0, none⟩ = false ∧ w'.frozen? ⟨w.heap.size + 1, 1, none⟩ = false ∧ w'.frozen? ⟨w.heap.size + 1, 2, none⟩ = false ∧ w'.frozen? ⟨w.heap.size + 1, 3, none⟩ = false)) := fun W h => (cU.out _ W (holdsF_mono H6.out h)).mono (fun e w' ⟨u, h1, h2⟩ => by
    have r := rs4_below R6.out (bt' h h2.2)
    obtain ⟨a, c, _, _, eu, -⟩ := holdsF_parts (holdsF_own h2)
    have hz := R6.out.q1.2.2.2.2.2.2.2.2
    have hs := h.size
    have ow := rowF_baseR h2.1 (c := w.heap.size + 2) (by omega)
    rw [eu] at h1 ow
    obtain ⟨c0, c1, c2, c3, f0, f1, f2, f3, _⟩ := r.q1
    exact ⟨a, c, h1, r, ow, (quad_blk r.q0).2.2.1, ⟨c0, c1, c2, c3⟩, ⟨f0, f1, f2, f3⟩⟩)
  have BA : Hid (Below w6.heap.size w6 w6) := Below.refl _ _
  have ck := (quad_blk R6.out.q0).2.2.1
  clear cS cU H6 R6
  generalize fw.length = fwl at kU
  go_wp2_with fail
  unfold crU at kU
  go_region_held3 (fun w' => w'.cell? ⟨w.heap.size, 2, none⟩ = some (.int .i64 k)) (go_keep)
    (first
      | (go_at_call 28; refine (kS.out _ (by first | with_reducible exact BA.out | with_reducible exact BA.out.drew)).mono ?_; rintro e w7 ⟨rfl, B7, c7⟩)
      | (go_at_call 27; refine (kU.out _ B7.out).mono ?_; rintro e w9 ⟨pa, pc, rfl, R9, O9, c9, ⟨t0, t1, t2, t3⟩, ⟨y0, y1, y2, y3⟩⟩))
  all_goals
    go_wp2_with fail
    generalize hU : (⟨#[82, 97, 110, 103, 101, 32, 78, 111, 116, 32, 83, 97, 116, 105, 115, 102, 105, 97, 98, 108, 101]⟩ : ByteArray) = U
    have RZ := rs4_put R9.out (.int .i64 416) (.string U) (.int .i64 k) (.slice pa fp.length pc)
    obtain ⟨q0', q1', q2', q3'⟩ := quad_blk RZ.q1
    have qF := row_put (v0 := .int .i64 416) (v1 := .string U) (v2 := .int .i64 k) (v3 := .slice pa fp.length pc) O9.out (b := w.heap.size + 1) (by omega)
    replace qF := row_base qF (base' := w.heap.size) (by omega)
    unfold put4 at qF
    exact bodyPost_ret (v := .tuple #[.agg #[.int .i64 416, .string U, .int .i64 k, .slice pa fp.length pc], .slice none 0 0]) (by simp [results, Tryz.results8, go_sem, q0', q1', q2', q3']) rfl ⟨_, _, by rw [← hU]; rfl, ⟨qF, RZ.bel⟩, holdsB_nilR _, RZ.bel⟩
end Go.Proofs.YtipcmbonhkelbabGreatDoor
namespace Go.Proofs.YtipcmbonhkelbabGreatDoor
open Go.RowKit
set_option maxHeartbeats 8000000 in
set_option maxRecDepth 20000 in
theorem appRD (s k : Int) (zr : List UInt8) (av lv v : Value) (ask fs : FL) (body : List UInt8) (D : List UInt8 → Int) (w : World) (ha : HoldsF w av ask) (hv : HoldsF w lv fs) (hB : HoldsB w v body) (hb : bulkF ask + bulkF fs + body.length ≤ 1048576) (hD : DtQ (getJ fs lmN) (D (getJ fs lmN)))
    (a c : Nat) (hac : a ≤ c) (hcb : c < body.length) (h200 : s = 200) (hh : hasA ask raN = true) (hd : rgHeld D ask fs = true) (hp : rngP (getJ ask raN) body.length = (0, [((a : Int), (c : Int))])) :
    Calls Tryz.prog 8 #[av, .agg #[.int .i64 s, .string ⟨zr.toArray⟩, .int .i64 k, lv], v] w fun e w' => ∃ u bv, e = .returned (.tuple #[.agg #[.int .i64 206, .string ⟨parR.toArray⟩, .int .i64 k, u], bv]) ∧ OwnF w u (putOf (withoutOf fs [clH]) crU (placeL a c body.length)) w' ∧ HoldsB w' bv ((body.drop a).take (c + 1 - a)) ∧ Below w.heap.size w w' := by
  have g0 := getJ_len ask raN
  have fl := bulkF_len fs
  have FT := hide' (show Fit fs from fun f hf => by have := bulkF_mem fs f hf; omega)
  have cC := hide' (fun W (h : Below w.heap.size w W) => copyRs s k zr fs lv W (holdsF_mono hv h) (by omega))
  have cG := fun W (h : Below w.heap.size w W) => getRef av ask raN W (holdsF_mono ha h) (by omega) (by decide)
  simp only [getJ_eq] at cG
  rw [show decide (0 < (valsOf ask raN).length) = hasA ask raN from rfl, hh] at cG
  replace cG := hide' cG
  have cP := fun W => parseRG ⟨(getJ ask raN).toArray⟩ (body.length : Int) W (by rw [size_l]; omega) (by omega) (by omega)
  rw [show (⟨(getJ ask raN).toArray⟩ : ByteArray).data.toList = getJ ask raN by simp, hp] at cP
  dsimp only at cP
  replace cP := hide' cP
  have cH := hide' (fun W (h : Below w.heap.size w W) => holdsRG s k zr av lv ask fs D W (holdsF_mono ha h) (holdsF_mono hv h) (by omega) hD)
  rw [hd] at cH
  have HV := hide' hv
  have HB := hide' hB
  have cW := hide' (fun W (h : Below w.heap.size w W) (g : Nat) (hg : W.heap.size = g) => (show Calls Tryz.prog 26 #[lv, .slice (some ⟨g, 0, none⟩) 1 1] (W.alloc (.cells #[S clH] 9)) fun e w' => ∃ u, e = .returned u ∧ OwnF (W.alloc (.cells #[S clH] 9)) u (withoutOf fs [clH]) w' from by
    subst hg
    exact withoutRef lv _ fs [clH] _ (holdsF_mono hv (bt' h (below_alloc' W (.cells #[S clH] 9)))) (holds_lit1 W clH) FT.out (by decide) (by omega) (by decide)))
  have wl := without_len fs [clH]
  have FW := hide' (fit_without FT.out [clH])
  have cL := hide' (fun W => placeRG (a : Int) (c : Int) (body.length : Int) (by omega) (by omega) (by omega) (by omega) (by omega) (by omega) W)
  have cU := hide' (fun v W (h : HoldsF W v (withoutOf fs [clH])) => putRef v _ crU (placeL a c body.length) W h FW.out (by decide) (by omega))
  have hbl : body.length ≤ 1048576 := by omega
  obtain ⟨la, lc, _, _, el, -⟩ := holdsF_parts hv
  obtain ⟨aa, ac, _, _, ea, -⟩ := holdsF_parts ha
  obtain ⟨ba, bc, eb, _⟩ := id hB
  subst el ea eb h200
  clear hv ha hB hb hD g0 fl hh hd hp
  generalize getJ ask raN = je at cG cP
  generalize ask.length = m at cG cH ⊢
  obtain ⟨n, hn⟩ : ∃ n, n = fs.length := ⟨_, rfl⟩
  have N := hide' hn.symm
  rw [N.out] at cC cH HV ⊢
  generalize withoutOf fs [clH] = fw at cW cU FW wl ⊢
  obtain ⟨X, eX⟩ : ∃ X : ByteArray, X = ⟨(placeL a c (body.length : Int)).toArray⟩ := ⟨_, rfl⟩
  rw [← eX] at cU cL
  have pl := put_len fw crU (placeL a c (body.length : Int))
  generalize putOf fw crU (placeL a c (body.length : Int)) = fp at cU pl ⊢
  clear eX
  unfold S clH at cW
  unfold crU at cU
  rw [N.out] at cW
  obtain ⟨bl, hbln⟩ : ∃ bl, bl = body.length := ⟨_, rfl⟩
  have BL := hide' hbln.symm
  rw [BL.out] at cP cL hbl hcb HB ⊢
  clear hbln
  generalize (⟨zr.toArray⟩ : ByteArray) = R at cC cH ⊢
  clear hn
  have Q0 := quad_lit w (.int .i64 200) (.string R) (.int .i64 k) (.slice la n lc) 24
  have b0 := below_alloc' w (.cells #[.int .i64 200, .string R, .int .i64 k, .slice la n lc] 24)
  have b1 := below_alloc' (w.alloc (.cells #[.int .i64 200, .string R, .int .i64 k, .slice la n lc] 24)) (.cells #[.int .i64 0, .string ⟨#[]⟩, .int .i64 0, .slice none 0 0] 24)
  have Q1 := quad_below Q0 b1
  have B1 := hide' (bt' b0 b1)
  clear Q0 b0 b1
  obtain ⟨i0, i1, i2, i3, f0, f1, f2, f3, iz⟩ := Q1
  go_enter Tryz.func8, Tryz.ntmps8
  go_wp2_with fail
  refine (cC.out _ B1.out).mono ?_
  rintro e w2 ⟨u, rfl, ho⟩
  have RS := hide' (rst_make (R := R) 24 ho)
  obtain ⟨ua, uc, _, _, eu, -⟩ := holdsF_parts (holdsF_own ho)
  rw [N.out] at eu
  subst eu
  clear ho cC B1 i0 i1 i2 i3 f0 f1 f2 f3 iz
  go_wp2_with fail
  refine (cG.out _ RS.out.bel).mono ?_
  rintro e w3 ⟨rfl, b3⟩
  have R3 := hide' (rst_below RS.out b3)
  clear b3 RS cG
  obtain ⟨z, hz⟩ : ∃ z, z = w2.heap.size := ⟨_, rfl⟩
  rw [← hz] at R3 ⊢
  clear hz
  go_wp2_with fail
  refine (cP.out _).mono ?_
  rintro e w4 ⟨u4, rfl, ho⟩
  have R4 := hide' (rs4_of (rst_below R3.out ho.2))
  obtain ⟨b, xc, ex, hxc, hbg, hx⟩ := xat_own ho (by simp)
  have X4 := hide' hx
  have hq1 := R3.out.q1.2.2.2.2.2.2.2.2
  have nb1 : b ≠ w.heap.size + 1 := by omega
  have lb4 : b < w4.heap.size := hx.1
  rw [ex]
  clear R3 ho cP ex hx hbg hq1
  obtain ⟨i0, i1, i2, i3⟩ := quad_blk R4.out.q0
  go_wp2_with fail
  refine (cH.out _ R4.out.bel).mono ?_
  rintro e w5 ⟨rfl, b5⟩
  have R5 := hide' (rs4_below R4.out b5)
  have X5 := hide' (xat_below X4.out b5)
  have lb5 : b < w5.heap.size := Nat.lt_of_lt_of_le lb4 b5.size
  clear b5 cH R4 X4 lb4 i0 i1 i2 i3
  have R6 := hide' (rs4_new R5.out (.int .i64 206) (.string ⟨#[80, 97, 114, 116, 105, 97, 108, 32, 67, 111, 110, 116, 101, 110, 116]⟩) (.int .i64 k) (.slice none 0 0) 24)
  have X6 := hide' (xat_below X5.out (below_alloc' w5 (.cells #[.int .i64 206, .string ⟨#[80, 97, 114, 116, 105, 97, 108, 32, 67, 111, 110, 116, 101, 110, 116]⟩, .int .i64 k, .slice none 0 0] 24)))
  obtain ⟨i0, i1, i2, i3⟩ := quad_blk R6.out.q0
  obtain ⟨j0, j1, j2, j3⟩ := quad_blk R5.out.q0
  go_wp2_with fail
  obtain ⟨y, hy⟩ : ∃ y, y = w5.heap.size := ⟨_, rfl⟩
  obtain ⟨W6, hW6⟩ : ∃ W6, W6 = w5.alloc (.cells #[.int .i64 206, .string ⟨#[80, 97, 114, 116, 105, 97, 108, 32, 67, 111, 110, 116, 101, 110, 116]⟩, .int .i64 k, .slice none 0 0] 24) := ⟨_, rfl⟩
  have ez : W6.heap.size = y + 1 := by rw [hW6, hy]; simp
  rw [← hy, ← hW6] at R6
  rw [← hW6] at X6
  rw [← hy, ← hW6]
  have lby : b < y := by rw [hy]; exact lb5
  clear hy hW6 R5 X5 lb5 j0 j1 j2 j3 i0 i1 i2 i3
  refine (cW.out W6 R6.out.bel (y + 1) ez).mono ?_
  rintro e w6 ⟨u6, rfl, ho⟩
  have ho := ownF_base ho (below_alloc' W6 _)
  have R7 := hide' (rs4_below R6.out ho.2)
  have X7 := hide' (xat_below X6.out ho.2)
  have H7 := hide' (holdsF_own ho)
  obtain ⟨fa, fc, _, _, ef, -⟩ := holdsF_parts (holdsF_own ho)
  rw [ef] at H7 ⊢
  clear ho ef R6 X6 cW ez
  obtain ⟨k0, k1⟩ := X7.out.2 0 (by simp)
  simp only [List.getElem_cons_zero, Nat.zero_mul, Nat.zero_add] at k0 k1
  go_wp2_with fail
  refine (cL.out _).mono ?_
  rintro e w7 ⟨rfl, b7⟩
  have R8 := hide' (rs4_below R7.out b7)
  have X8 := hide' (xat_below X7.out b7)
  have H8 := hide' (holdsF_mono H7.out b7)
  clear b7 R7 X7 H7 cL k0 k1
  go_wp2_with fail
  refine (cU.out _ _ H8.out).mono ?_
  rintro e w8 ⟨u8, rfl, ho⟩
  have R9 := hide' (rs4_below R8.out ho.2)
  have X9 := hide' (xat_below X8.out ho.2)
  have hs7 := R8.out.qy.2.2.2.2.2.2.2.2
  have O8 := hide' (rowF_baseR ho.1 (c := y + 1) (by omega))
  obtain ⟨pa, pc, _, _, ep, -⟩ := holdsF_parts (holdsF_own ho)
  rw [ep] at O8 ⊢
  clear ho ep R8 X8 H8 cU hs7
  have RA := hide' (rs4_set3 R9.out (.slice pa fp.length pc))
  have XA := hide' (xat_set (o := 3) (v := .slice pa fp.length pc) X9.out (Nat.ne_of_lt lby))
  have OA := hide' (rowF_baseR (row_poke (o := 3) (x := .slice pa fp.length pc) O8.out (Nat.lt_succ_self y)) (c := w.heap.size + 2) (by have := R9.out.far; omega))
  obtain ⟨g0, g1, g2, g3, h0, h1, h2, h3, h4⟩ := R9.out.qy
  go_wp2_with fail
  clear g0 g1 g2 g3 h0 h1 h2 h3 h4
  generalize w8.setCell ⟨y, 3, none⟩ (.slice pa fp.length pc) = w9 at RA XA OA ⊢
  obtain ⟨U, hU⟩ : ∃ U, U = (⟨#[80, 97, 114, 116, 105, 97, 108, 32, 67, 111, 110, 116, 101, 110, 116]⟩ : ByteArray) := ⟨_, rfl⟩
  rw [← hU] at RA ⊢
  have HU := hide' hU
  clear R9 X9 O8 hU
  obtain ⟨pv, hsl, hpv⟩ := midB HB.out a (c + 1) (by omega) (by rw [BL.out]; omega)
  rw [show ((c + 1 : Nat) : Int) = (c : Int) + 1 by omega] at hsl
  obtain ⟨va, vc, ev⟩ : ∃ va vc, pv = .slice va ((body.drop a).take (c + 1 - a)).length vc := by
    obtain ⟨q1, q2, e, _⟩ := hpv
    exact ⟨q1, q2, e⟩
  have PV := hide' hpv
  have kB : Hid (∀ W, Below w9.heap.size w9 W → Calls Tryz.prog 5 #[pv] W fun e w' => ∃ b2, e = .returned b2 ∧ Hid (RS4 w y (.int .i64 200) (.string R) (.int .i64 k) (.slice la n lc) (.int .i64 0) (.string ⟨#[]⟩) (.int .i64 0) (.slice none 0 0) (.int .i64 206) (.string U) (.int .i64 k) (.slice pa fp.length pc) w') ∧ Hid (w'.ownsRow (w.heap.size + 2) 42 2 (.slice pa fp.length pc) fp.length (cellsF fp)) ∧ Hid (w'.ownsRow (w.heap.size + 2) 5 1 b2 ((body.drop a).take (c + 1 - a)).length (((body.drop a).take (c + 1 - a)).map B))
      ∧ (w'.cell? ⟨y, 0, none⟩ = some (.int .i64 206) ∧ w'.cell? ⟨y, 1, none⟩ = some (.string U) ∧ w'.cell? ⟨y, 2, none⟩ = some (.int .i64 k) ∧ w'.cell? ⟨y, 3, none⟩ = some (.slice pa fp.length pc))
      ∧ (w'.cell? ⟨b, 0, none⟩ = some (.int .i64 a) ∧ w'.cell? ⟨b, 1, none⟩ = some (.int .i64 c))
      ∧ (w'.cell? ⟨w.heap.size + 1, 0, none⟩ = some (.int .i64 0) ∧ w'.cell? ⟨w.heap.size + 1, 1, none⟩ = some (.string ⟨#[]⟩) ∧ w'.cell? ⟨w.heap.size + 1, 2, none⟩ = some (.int .i64 0) ∧ w'.cell? ⟨w.heap.size + 1, 3, none⟩ = some (.slice none 0 0))
      ∧ (w'.frozen? ⟨w.heap.size + 1, 0, none⟩ = false ∧ w'.frozen? ⟨w.heap.size + 1, 1, none⟩ = false ∧ w'.frozen? ⟨w.heap.size + 1, 2, none⟩ = false ∧ w'.frozen? ⟨w.heap.size + 1, 3, none⟩ = false)) := fun W h => (copyB pv _ W (holdsB_mono PV.out (bt' RA.out.bel h)) (by rw [List.length_take, List.length_drop]; omega)).mono (fun e w' ⟨u, h1, h2⟩ => by
    have r := rs4_below RA.out (bt' h h2.2)
    have x := xat_below XA.out (bt' h h2.2)
    have o := rowF_belowR OA.out (bt' h h2.2)
    have hz := RA.out.q1.2.2.2.2.2.2.2.2
    have hs := h.size
    obtain ⟨c0, c1, c2, c3, f0, f1, f2, f3, _⟩ := r.q1
    have xx := x.2 0 (by simp)
    simp only [List.getElem_cons_zero, Nat.zero_mul, Nat.zero_add] at xx
    exact ⟨u, h1, r, o, rowB_baseR h2.1 (by omega), quad_blk r.qy, xx, ⟨c0, c1, c2, c3⟩, ⟨f0, f1, f2, f3⟩⟩)
  have ne1 : w.heap.size + 1 ≠ y := Nat.ne_of_lt RA.out.far
  have ne2 : y ≠ w.heap.size + 1 := fun e => ne1 e.symm
  have ne3 : w.heap.size + 1 ≠ b := fun e => nb1 e.symm
  obtain ⟨j0, j1, j2, j3⟩ := quad_blk RA.out.qy
  obtain ⟨p0, p1, p2, p3, g0, g1, g2, g3, -⟩ := RA.out.q1
  obtain ⟨k0, k1⟩ := XA.out.2 0 (by simp)
  simp only [List.getElem_cons_zero, Nat.zero_mul, Nat.zero_add] at k0 k1
  have BA : Hid (Below w9.heap.size w9 w9) := Below.refl _ _
  have hw1 : IntKind.i64.wrap ((c : Int) + 1) = (c : Int) + 1 := by rw [IntKind.wrap_i64]; omega
  clear hpv PV RA XA OA ev HB
  go_region_held3 (fun w' => (w'.cell? ⟨y, 0, none⟩ = some (.int .i64 206) ∧ w'.cell? ⟨y, 1, none⟩ = some (.string U) ∧ w'.cell? ⟨y, 2, none⟩ = some (.int .i64 k) ∧ w'.cell? ⟨y, 3, none⟩ = some (.slice pa fp.length pc)) ∧ w'.cell? ⟨b, 0, none⟩ = some (.int .i64 a) ∧ w'.cell? ⟨b, 1, none⟩ = some (.int .i64 c)) (go_keep)
    (first | (go_at_call 5; refine (kB.out _ (by first | with_reducible exact BA.out | with_reducible exact BA.out.drew)).mono ?_; rintro e wA ⟨b2, rfl, R9, OF, O9, ⟨l0, l1, l2, l3⟩, ⟨m0, m1⟩, ⟨t0, t1, t2, t3⟩, ⟨y0, y1, y2, y3⟩⟩))
  all_goals
    go_wp2_with fail
    have RZ := rs4_put R9.out (.int .i64 206) (.string U) (.int .i64 k) (.slice pa fp.length pc)
    obtain ⟨q0', q1', q2', q3'⟩ := quad_blk RZ.q1
    have qF := row_put (v0 := .int .i64 206) (v1 := .string U) (v2 := .int .i64 k) (v3 := .slice pa fp.length pc) OF.out (b := w.heap.size + 1) (by omega)
    replace qF := row_base qF (base' := w.heap.size) (by omega)
    unfold put4 at qF
    have qB := row_put (v0 := .int .i64 206) (v1 := .string U) (v2 := .int .i64 k) (v3 := .slice pa fp.length pc) O9.out (b := w.heap.size + 1) (by omega)
    replace qB := holdsB_row qB
    unfold put4 at qB
    exact bodyPost_ret (v := .tuple #[.agg #[.int .i64 206, .string U, .int .i64 k, .slice pa fp.length pc], b2]) (by simp [results, Tryz.results8, go_sem, q0', q1', q2', q3']) rfl ⟨_, _, by rw [HU.out]; rfl, ⟨qF, RZ.bel⟩, qB, RZ.bel⟩
end Go.Proofs.YtipcmbonhkelbabGreatDoor
