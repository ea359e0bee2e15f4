/- An entry: nine values, a block of nine cells; the contract of object.withinLimits. The contract of Response. -/
import Derived.Test.YtibjcofbhldenaaGreatDoorZ10
import Derived.Test.YtibjcofbhldenaaGreatDoorZ09
import Derived.Test.YtibjcofbhldenaaGreatDoorZ02
import Derived.Test.YtibjcofbhldenaaGreatDoorZ11
namespace Go.Proofs.YtibjcofbhldenaaGreatDoor
open Go.RowKit
theorem within_1 {e : En} (h : decide (1 ≤ e.key.length) = false) : withinL e = false := by unfold withinL; rw [h]; rfl
theorem within_2 {e : En} (h : decide (e.key.length ≤ 4096) = false) : withinL e = false := by unfold withinL; rw [h]; simp
theorem within_3 {e : En} (h : decide (e.vary.length ≤ 4096) = false) : withinL e = false := by unfold withinL; rw [h]; simp
theorem within_4 {e : En} (h : decide (e.body.length ≤ 65536) = false) : withinL e = false := by unfold withinL; rw [h]; simp
theorem within_5 {e : En} (h : goodTm e.a = false) : withinL e = false := by unfold withinL; rw [h]; simp
theorem within_6 {e : En} (h : goodTm e.g = false) : withinL e = false := by unfold withinL; rw [h]; simp
theorem within_7 {e : En} (h1 : decide (1 ≤ e.key.length) = true) (h2 : decide (e.key.length ≤ 4096) = true) (h3 : decide (e.vary.length ≤ 4096) = true) (h4 : decide (e.body.length ≤ 65536) = true) (h5 : goodTm e.a = true) (h6 : goodTm e.g = true) : withinL e = true := by
  unfold withinL; rw [h1, h2, h3, h4, h5, h6]; rfl
set_option maxRecDepth 20000 in
set_option maxHeartbeats 4000000 in
theorem withinC (e : En) (lv bv : Value) (w : World) (hF : HoldsF w lv e.r.fs) (hB : HoldsB w bv e.body) (hk : e.key.length ≤ 1000000000000) (hv : e.vary.length ≤ 1000000000000) (hb : e.body.length ≤ 1000000000000) :
    Calls Tryz.prog 109 #[entV e lv bv] w fun x w' => x = .returned (.bool (withinL e)) ∧ Below w.heap.size w w' := by
  obtain ⟨la, lc, _, _, e1, _⟩ := holdsF_parts hF
  obtain ⟨ba, bc, e2, _⟩ := holdsB_parts hB
  subst e1 e2
  obtain ⟨R, hR⟩ : ∃ R, R = withinL e := ⟨_, rfl⟩
  rw [← hR]
  have f1 := hide' (fun h => hR.trans (within_1 (e := e) h))
  have f2 := hide' (fun h => hR.trans (within_2 (e := e) h))
  have f3 := hide' (fun h => hR.trans (within_3 (e := e) h))
  have f4 := hide' (fun h => hR.trans (within_4 (e := e) h))
  have f5 := hide' (fun h => hR.trans (within_5 (e := e) h))
  have f6 := hide' (fun h => hR.trans (within_6 (e := e) h))
  have f7 := hide' (fun h1 h2 h3 h4 h5 h6 => hR.trans (within_7 (e := e) h1 h2 h3 h4 h5 h6))
  have c1 := hide' (fun W => isTimeC e.a W)
  have c2 := hide' (fun W => isTimeC e.g W)
  unfold entV
  obtain ⟨key, vary, ⟨s, r, k, fs⟩, body, a, g⟩ := e
  dsimp only at *
  have sk : (⟨key.toArray⟩ : ByteArray).size = key.length := size_l key
  have sv : (⟨vary.toArray⟩ : ByteArray).size = vary.length := size_l vary
  clear hR hF hB
  have BB := hide' (below_alloc' w (.cells #[.string ⟨key.toArray⟩, .string ⟨vary.toArray⟩, .int .i64 s, .string ⟨r.toArray⟩, .int .i64 k, .slice la fs.length lc, .slice ba body.length bc, .int .i64 a, .int .i64 g] 59))
  by_cases q1 : key = []
  · have EQ : Hid (R = false) := f1.out (by rw [q1]; rfl)
    have ke : key.isEmpty = true := by rw [q1]; rfl
    clear q1
    go_enter Tryz.func109, Tryz.ntmps109
    go_wp2_with fail
    go_ret
    rw [EQ.out]
    exact ⟨rfl, BB.out⟩
  have ke : key.isEmpty = false := by cases key with | nil => exact absurd rfl q1 | cons _ _ => rfl
  have d1 : Hid (decide (1 ≤ key.length) = true) := by unfold Hid; simp; cases key with | nil => exact absurd rfl q1 | cons _ _ => simp
  clear q1
  by_cases q2 : ¬ key.length ≤ 4096
  · have EQ : Hid (R = false) := f2.out (by simpa using q2)
    have q2d : decide ((key.length : Int) ≤ 4096) = false := by simp; omega
    clear q2
    go_enter Tryz.func109, Tryz.ntmps109
    go_wp2_with fail
    go_ret
    rw [EQ.out]
    exact ⟨rfl, BB.out⟩
  have q2d : decide ((key.length : Int) ≤ 4096) = true := by simp; omega
  have d2 : Hid (decide (key.length ≤ 4096) = true) := by unfold Hid; simp; omega
  clear q2
  by_cases q3 : ¬ vary.length ≤ 4096
  · have EQ : Hid (R = false) := f3.out (by simpa using q3)
    have q3d : decide ((vary.length : Int) ≤ 4096) = false := by simp; omega
    clear q3
    go_enter Tryz.func109, Tryz.ntmps109
    go_wp2_with fail
    go_ret
    rw [EQ.out]
    exact ⟨rfl, BB.out⟩
  have q3d : decide ((vary.length : Int) ≤ 4096) = true := by simp; omega
  have d3 : Hid (decide (vary.length ≤ 4096) = true) := by unfold Hid; simp; omega
  clear q3
  by_cases q4 : ¬ body.length ≤ 65536
  · have EQ : Hid (R = false) := f4.out (by simpa using q4)
    have q4d : decide ((body.length : Int) ≤ 65536) = false := by simp; omega
    clear q4
    go_enter Tryz.func109, Tryz.ntmps109
    go_wp2_with fail
    go_ret
    rw [EQ.out]
    exact ⟨rfl, BB.out⟩
  have q4d : decide ((body.length : Int) ≤ 65536) = true := by simp; omega
  have d4 : Hid (decide (body.length ≤ 65536) = true) := by unfold Hid; simp; omega
  clear q4
  go_enter Tryz.func109, Tryz.ntmps109
  go_wp2_with fail
  refine (c1.out _).mono ?_
  rintro x w9 ⟨rfl, ew⟩
  rw [ew]
  clear ew w9
  cases h5 : goodTm a with
  | false =>
    have EQ : Hid (R = false) := f5.out h5
    clear h5
    go_wp2_with fail
    go_ret
    rw [EQ.out]
    exact ⟨rfl, BB.out⟩
  | true =>
    have H5 := hide' h5
    clear h5
    go_wp2_with fail
    refine (c2.out _).mono ?_
    rintro x w9 ⟨rfl, ew⟩
    rw [ew]
    clear ew w9
    cases h6 : goodTm g with
    | false =>
      have EQ : Hid (R = false) := f6.out h6
      clear h6
      go_wp2_with fail
      go_ret
      rw [EQ.out]
      exact ⟨rfl, BB.out⟩
    | true =>
      have EQ : Hid (R = true) := f7.out d1.out d2.out d3.out d4.out H5.out h6
      clear h6
      go_wp2_with fail
      go_ret
      rw [EQ.out]
      exact ⟨rfl, BB.out⟩
end Go.Proofs.YtibjcofbhldenaaGreatDoor
namespace Go.Proofs.YtibjcofbhldenaaGreatDoor
open Go.RowKit
theorem resp_line (q : Rs × Int) (f : FL × Int) (n : Nat) (h : q.2 ≠ 0) : respG q f n = (Rs.zero, 0, q.2) := by unfold respG; rw [if_pos h]
theorem resp_fields (q : Rs × Int) (f : FL × Int) (n : Nat) (h : q.2 = 0) (h2 : f.2 ≠ 0) : respG q f n = (Rs.zero, 0, f.2) := by unfold respG; rw [if_neg (by simpa using h), if_pos h2]
theorem resp_good (q : Rs × Int) (f : FL × Int) (n : Nat) (h : q.2 = 0) (h2 : f.2 = 0) : respG q f n = (⟨q.1.s, q.1.r, q.1.k, f.1⟩, n, 0) := by unfold respG; rw [if_neg (by simpa using h), if_neg (by simpa using h2)]
theorem lineR_fs (l : List UInt8) : (lineR l).1.fs = [] := by
  unfold lineR
  split
  · rfl
  · split
    · split <;> rfl
    · rfl
def respV (r : Rs × Nat × Int) (lv : Value) : Value := .tuple #[rsV r.1 lv, .int .i64 ((r.2.1 : Nat) : Int), .int .i64 r.2.2]
set_option maxRecDepth 20000 in
set_option maxHeartbeats 4000000 in
theorem respC (v : Value) (bs : List UInt8) (w : World) (hv : HoldsB w v bs) (E : Env w) (hs : bs.length < 4294967281) :
    Calls Tryz.prog 189 #[v] w fun e w' => ∃ lv, e = .returned (respV (respOf bs) lv) ∧ OwnF w lv (respOf bs).1.fs w' := by
  have b0 := below_alloc' w (.cells #[.int .i64 0, .string ⟨#[]⟩, .int .i64 0, .slice none 0 0] 56)
  have Q0 := hide' (quad_lit w (.int .i64 0) (.string ⟨#[]⟩) (.int .i64 0) (.slice none 0 0) 56)
  have B0 := hide' b0
  have HV := hide' (holdsB_mono hv b0)
  have EV := hide' (env_below E b0)
  obtain ⟨ao, cap, rfl, _⟩ := hv
  by_cases h0 : (endOf bs 0).1 = 0
  · have R := hide' (resp_none bs h0)
    rw [R.out]
    have cS := hide' (splitNone _ bs 0 _ HV.out EV.out.1 (Nat.zero_le _) hs h0)
    generalize (endOf bs 0).2 = ee at cS ⊢
    obtain ⟨n, hn⟩ : ∃ n, n = bs.length := ⟨_, rfl⟩
    rw [← hn] at cS hs ⊢
    clear h0 R b0 hn EV HV E
    go_enter Tryz.func189, Tryz.ntmps189
    go_wp2_with fail
    refine cS.out.mono ?_
    rintro e w2 ⟨rfl, b2⟩
    have B2 := hide' (bt' B0.out b2)
    have Q2 := hide' (quad_below Q0.out b2)
    clear b2
    obtain ⟨h0, h1, h2, h3, e0, e1, e2, e3, hz⟩ := Q2.out
    go_wp2_with fail
    obtain ⟨q0, q1, q2, q3⟩ := quad_store Q2.out (.int .i64 0) (.string ⟨#[]⟩) (.int .i64 0) (.slice none 0 0)
    have qb := put4_below B2.out (Nat.le_refl _) (.int .i64 0) (.string ⟨#[]⟩) (.int .i64 0) (.slice none 0 0)
    unfold put4 at q0 q1 q2 q3 qb
    exact bodyPost_ret (v := respV (Rs.zero, 0, ee) (.slice none 0 0)) (by simp [results, Tryz.results189, go_sem, q0, q1, q2, q3, respV, rsV, Rs.zero]) rfl ⟨_, rfl, ownF_nil _ _ qb⟩
  · obtain ⟨i, hi, he, hc, hl⟩ := end_facts bs _ h0
    have R := resp_some bs (0 + i + 4) (by omega) he
    have cS := hide' (splitSome _ bs 0 i _ HV.out EV.out.1 hs hi hc hl)
    have hhl : (headH bs 0 (0 + i + 4)).length ≤ bs.length := by unfold headH; rw [List.length_drop, List.length_take]; omega
    have l1 := lineH_len (headH bs 0 (0 + i + 4))
    have l2 := blkH_len (headH bs 0 (0 + i + 4))
    generalize lineH (headH bs 0 (0 + i + 4)) = ln at R cS l1
    generalize blkH (headH bs 0 (0 + i + 4)) = bk at R cS l2
    have hfs := lineR_fs ln
    have cQ : ∀ W, MaxV W → Calls Tryz.prog 217 #[.string ⟨ln.toArray⟩] W fun e w' => e = .returned (lineRV (lineR ln)) ∧ Below W.heap.size W w' := fun W hM => responseLineTok ⟨ln.toArray⟩ (by rw [size_l]; omega) W hM
    have hbk : bk.length < 4294967281 := by omega
    have cF := hide' (fun W (bv : Value) (hb : HoldsB W bv bk) (hE : Env W) => parseC bv bk W hb hE hbk)
    have fl := parse_len bk
    generalize lineR ln = q at R cQ hfs
    generalize parseOf bk = f at R cF fl
    obtain ⟨⟨qs, qr, qk, qf⟩, qe⟩ := q
    simp only at hfs
    subst hfs
    obtain ⟨fs, fe⟩ := f
    simp only at cF fl
    unfold lineRV rsV at cQ
    simp only at cQ
    obtain ⟨n, hn⟩ : ∃ n, n = bs.length := ⟨_, rfl⟩
    rw [← hn] at cS hs hl ⊢
    obtain ⟨N, hN⟩ : ∃ N, N = 0 + i + 4 := ⟨_, rfl⟩
    rw [← hN] at cS R
    have hNb : N ≤ 8192 := by omega
    have hN0 : ((N : Int) == 0) = false := by simp; omega
    have CQ := hide' cQ
    have RH := hide' R
    clear b0 hn E h0 hi he cQ HV hhl l1 l2 hN hc hl R
    go_enter Tryz.func189, Tryz.ntmps189
    go_wp2_with fail
    refine cS.out.mono ?_
    rintro e w2 ⟨bv, rfl, hbv, b2⟩
    have B2 := hide' (bt' B0.out b2)
    have Q2 := hide' (quad_below Q0.out b2)
    have E2 := hide' (env_below EV.out b2)
    have H2 := hide' hbv
    clear b2 hbv cS
    go_wp2_with fail
    refine (CQ.out _ E2.out.1).mono ?_
    rintro e w3 ⟨rfl, b3⟩
    have B3 := hide' (bt' B2.out b3)
    have Q3 := hide' (quad_below Q2.out b3)
    have E3 := hide' (env_below E2.out b3)
    have H3 := hide' (holdsB_mono H2.out b3)
    clear b3
    have b4 := below_alloc' w3 (.cells #[.int .i64 qs, .string ⟨qr.toArray⟩, .int .i64 qk, .slice none 0 0] 56)
    have B4 := hide' (bt' B3.out b4)
    have Q4 := hide' (quad_below Q3.out b4)
    have E4' := hide' (env_below E3.out b4)
    have H4 := hide' (holdsB_mono H3.out b4)
    have P4 := hide' (quad_lit w3 (.int .i64 qs) (.string ⟨qr.toArray⟩) (.int .i64 qk) (.slice none 0 0) 56)
    clear b4
    by_cases g1 : qe = 0
    · subst g1
      go_wp2_with fail
      refine (cF.out _ _ H4.out E4'.out).mono ?_
      rintro e w5 ⟨lv, rfl, ho⟩
      obtain ⟨la, lc, lb, lo, hlv, _⟩ := holdsF_parts (holdsF_own ho)
      subst hlv
      have B5 := hide' (bt' B4.out ho.2)
      have Q5 := hide' (quad_below Q4.out ho.2)
      have P5' := hide' (quad_below P4.out ho.2)
      have R5 := hide' ho.1
      clear ho
      have hne : w.heap.size ≠ w3.heap.size := by have h := Q3.out.2.2.2.2.2.2.2.2; omega
      have B6 := hide' (B5.out.setCell (p := ⟨w3.heap.size, 3, none⟩) B3.out.size (.slice la fs.length lc))
      have Q6 := hide' (quad_other (o := 3) Q5.out hne (.slice la fs.length lc))
      have P6 := hide' (quad_set3 P5'.out (.slice la fs.length lc))
      have R6 := hide' (row_poke (o := 3) (x := (.slice la fs.length lc)) R5.out (b := w3.heap.size) (by simp))
      obtain ⟨h0, h1, h2, h3, e0, e1, e2, e3, hz⟩ := P5'.out
      obtain ⟨k0, k1, k2, k3, _⟩ := P6.out
      obtain ⟨j0, j1, j2, j3, d0, d1, d2, d3, dz⟩ := Q6.out
      by_cases g2 : fe = 0
      · subst g2
        have R' := hide' (RH.out.trans (resp_good (⟨qs, qr, qk, []⟩, 0) (fs, 0) N rfl rfl))
        clear RH
        go_wp2_with fail
        obtain ⟨q0, q1, q2, q3⟩ := quad_store Q6.out (.int .i64 qs) (.string ⟨qr.toArray⟩) (.int .i64 qk) (.slice la fs.length lc)
        have qb := put4_below B6.out (Nat.le_refl _) (.int .i64 qs) (.string ⟨qr.toArray⟩) (.int .i64 qk) (.slice la fs.length lc)
        have qr' := row_base (row_put (v0 := .int .i64 qs) (v1 := .string ⟨qr.toArray⟩) (v2 := .int .i64 qk) (v3 := (.slice la fs.length lc)) R6.out (b := w.heap.size) (by have h := Q4.out.2.2.2.2.2.2.2.2; exact h)) B4.out.size
        unfold put4 at q0 q1 q2 q3 qb qr'
        exact bodyPost_ret (v := respV (⟨qs, qr, qk, fs⟩, N, 0) (.slice la fs.length lc)) (by simp [results, Tryz.results189, go_sem, q0, q1, q2, q3, respV, rsV]) rfl ⟨.slice la fs.length lc, by rw [R'.out], by rw [R'.out]; exact ⟨qr', qb⟩⟩
      · have t2 : (fe != 0) = true := by simpa using g2
        have R' := hide' (RH.out.trans (resp_fields (⟨qs, qr, qk, []⟩, 0) (fs, fe) N rfl g2))
        clear RH g2
        go_wp2_with fail
        obtain ⟨q0, q1, q2, q3⟩ := quad_store Q6.out (.int .i64 0) (.string ⟨#[]⟩) (.int .i64 0) (.slice none 0 0)
        have qb := put4_below B6.out (Nat.le_refl _) (.int .i64 0) (.string ⟨#[]⟩) (.int .i64 0) (.slice none 0 0)
        unfold put4 at q0 q1 q2 q3 qb
        exact bodyPost_ret (v := respV (Rs.zero, 0, fe) (.slice none 0 0)) (by simp [results, Tryz.results189, go_sem, q0, q1, q2, q3, respV, rsV, Rs.zero]) rfl ⟨.slice none 0 0, by rw [R'.out], by rw [R'.out]; exact ownF_nil _ _ qb⟩
    · have t2 : (qe != 0) = true := by simpa using g1
      have R' := hide' (RH.out.trans (resp_line (⟨qs, qr, qk, []⟩, qe) (fs, fe) N g1))
      clear RH g1
      obtain ⟨j0, j1, j2, j3, d0, d1, d2, d3, dz⟩ := Q4.out
      go_wp2_with fail
      obtain ⟨q0, q1, q2, q3⟩ := quad_store Q4.out (.int .i64 0) (.string ⟨#[]⟩) (.int .i64 0) (.slice none 0 0)
      have qb := put4_below B4.out (Nat.le_refl _) (.int .i64 0) (.string ⟨#[]⟩) (.int .i64 0) (.slice none 0 0)
      unfold put4 at q0 q1 q2 q3 qb
      exact bodyPost_ret (v := respV (Rs.zero, 0, qe) (.slice none 0 0)) (by simp [results, Tryz.results189, go_sem, q0, q1, q2, q3, respV, rsV, Rs.zero]) rfl ⟨.slice none 0 0, by rw [R'.out], by rw [R'.out]; exact ownF_nil _ _ qb⟩
end Go.Proofs.YtibjcofbhldenaaGreatDoor
