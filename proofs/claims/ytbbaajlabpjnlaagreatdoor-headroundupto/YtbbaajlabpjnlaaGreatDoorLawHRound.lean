/- The walk of HeadRound. -/
import Derived.Test.YtbbaajlabpjnlaaGreatDoorHdJ
import Derived.Test.YtbbaajlabpjnlaaGreatDoorHdR
import Derived.Test.YtbbaajlabpjnlaaGreatDoorHdY
import Derived.Test.YtbbaajlabpjnlaaGreatDoorBf
import Derived.Test.YtbbaajlabpjnlaaGreatDoorOpnR
import Derived.Test.YtbbaajlabpjnlaaGreatDoorBh
namespace Go.Proofs.YtbbaajlabpjnlaaGreatDoor
open Go.RowKit
namespace headRound
theorem whole_cap (l : List UInt8) (fs : FL) : (wholeP l fs).1.length ≤ 8192 ∧ ((wholeP l fs).2 ≠ 0 → (wholeP l fs).1 = []) := by
  unfold wholeP
  split
  · simp
  · split
    · simp
    · have h := whole_len l fs
      refine ⟨?_, fun h => absurd rfl h⟩
      show (l ++ 13 :: 10 :: ((printP fs).1 ++ [13, 10])).length ≤ 8192
      omega
theorem prQ_cap (r : Rq) : (prQ r).1.length ≤ 8192 := by
  unfold prQ
  split
  · simp
  · exact (whole_cap _ _).1
theorem prR_cap (s : Rs) : (prR s).1.length ≤ 8192 ∧ ((prR s).2 ≠ 0 → (prR s).1 = []) := by
  unfold prR
  split
  · simp
  · split
    · simp
    · exact whole_cap _ _
theorem ne1 {k : Int} (h : ¬ k = 0) : (k == 0) = false := by simpa using h
theorem req_two (r : Rq) (xq rs : List UInt8) (h : prQ r = (xq, 0)) (hb : hostBad r.fs r.k = false) : reqOf (xq ++ rs) = (r, xq.length, 0) ∧ reqOf ((xq ++ rs).take (xq.length - 1)) = (Rq.zero, 0, 0) := by
  have h1 := req_round r xq rs h hb
  have hp := prQ_pos r xq h
  have h2 := req_short (xq ++ rs) (by rw [h1]; show 0 < xq.length; omega)
  rw [h1] at h2
  exact ⟨h1, h2⟩
theorem resp_two (s : Rs) (xs rs : List UInt8) (h : prR s = (xs, 0)) : respOf (xs ++ rs) = (s, xs.length, 0) ∧ respOf ((xs ++ rs).take (xs.length - 1)) = (Rs.zero, 0, 0) := by
  have h1 := resp_round s xs rs h
  have hp := prR_pos s xs h
  have h2 := resp_short (xs ++ rs) (by rw [h1]; show 0 < xs.length; omega)
  rw [h1] at h2
  exact ⟨h1, h2⟩
set_option maxRecDepth 20000 in
set_option maxHeartbeats 16000000 in
theorem walk0 (m t : List UInt8) (k : Int) (fs : FL) (lv : Value) (s : Int) (r : List UInt8) (j : Int) (gs : FL) (lw : Value) (rv : Value) (rs : List UInt8) (w : World) (h1 : HoldsF w lv fs) (h2 : HoldsF w lw gs) (h3 : HoldsB w rv rs)
    (hm : m.length ≤ 1048576) (ht : t.length ≤ 1048576) (hk : -9223372036854775808 ≤ k ∧ k ≤ 9223372036854775807) (hr : r.length ≤ 1048576) (hf : Fit fs) (hg : Fit gs) (lf : fs.length ≤ 1048576) (lg : gs.length ≤ 1048576) (pf : (printOf fs).length ≤ 8000000) (pg : (printOf gs).length ≤ 8000000) (hrs : rs.length ≤ 1048576) (E : Env w) (T : Tab w) :
    Calls Tryz.prog 5 #[.agg #[.string ⟨m.toArray⟩, .string ⟨t.toArray⟩, .int .i64 k, lv], .agg #[.int .i64 s, .string ⟨r.toArray⟩, .int .i64 j, lw], rv] w fun e w' => e = .returned (.bool true) ∧ Below w.heap.size w w' := by
  obtain ⟨la, lc, _, _, e1, _⟩ := holdsF_parts h1
  obtain ⟨sa, sc, _, _, e2, _⟩ := holdsF_parts h2
  obtain ⟨ra, rc, e3, _⟩ := holdsB_parts h3
  subst e1 e2 e3
  have b1 := below_alloc' w (.cells #[.string ⟨m.toArray⟩, .string ⟨t.toArray⟩, .int .i64 k, .slice la fs.length lc] 34)
  have b2 := below_alloc' (w.alloc (.cells #[.string ⟨m.toArray⟩, .string ⟨t.toArray⟩, .int .i64 k, .slice la fs.length lc] 34)) (.cells #[.int .i64 s, .string ⟨r.toArray⟩, .int .i64 j, .slice sa gs.length sc] 25)
  have q1 := quad_below (quad_lit w (.string ⟨m.toArray⟩) (.string ⟨t.toArray⟩) (.int .i64 k) (.slice la fs.length lc) 34) b2
  have q2 := quad_lit (w.alloc (.cells #[.string ⟨m.toArray⟩, .string ⟨t.toArray⟩, .int .i64 k, .slice la fs.length lc] 34)) (.int .i64 s) (.string ⟨r.toArray⟩) (.int .i64 j) (.slice sa gs.length sc) 25
  have z1 : (w.alloc (.cells #[.string ⟨m.toArray⟩, .string ⟨t.toArray⟩, .int .i64 k, .slice la fs.length lc] 34)).heap.size = w.heap.size + 1 := by simp
  rw [z1] at q2
  have HR := hide' h1
  have HS := hide' h2
  have HX := hide' h3
  have EV := hide' E
  have B0 := bt' b1 b2
  obtain ⟨W2, hW2⟩ : ∃ W2, W2 = (w.alloc (.cells #[.string ⟨m.toArray⟩, .string ⟨t.toArray⟩, .int .i64 k, .slice la fs.length lc] 34)).alloc (.cells #[.int .i64 s, .string ⟨r.toArray⟩, .int .i64 j, .slice sa gs.length sc] 25) := ⟨_, rfl⟩
  have HW2 := hide' hW2
  rw [← hW2] at q1 q2 B0
  have BZ := hide' B0
  have c0 := hide' (aliveHC W2 (env_below E B0))
  have QR0 := hide' q1
  have QS0 := hide' q2
  have qc := prQ_cap ⟨m, t, k, fs⟩
  have rc' := prR_cap ⟨s, r, j, gs⟩
  have two := hide' (fun xq h hb => req_two ⟨m, t, k, fs⟩ xq rs h hb)
  have twoS := hide' (fun xs h => resp_two ⟨s, r, j, gs⟩ xs rs h)
  have pos := hide' (fun xq h => prQ_pos ⟨m, t, k, fs⟩ xq h)
  have posS := hide' (fun xs h => prR_pos ⟨s, r, j, gs⟩ xs h)
  have cQ := hide' (fun W (hb : Below w.heap.size w W) => copyRq m t k fs (.slice la fs.length lc) W (holdsF_mono HR.out hb) (by omega))
  have cS := hide' (fun W (hb : Below w.heap.size w W) => copyRs s j r gs (.slice sa gs.length sc) W (holdsF_mono HS.out hb) (by omega))
  have pQ := hide' (fun W (u : Value) (hb : Below w.heap.size w W) (hu : HoldsF W u fs) => printRqTok m t k fs u W hu (tab_below T hb) hf (by omega) (by omega) (by omega) (by omega) hk)
  have pS := hide' (fun W (u : Value) (hb : Below w.heap.size w W) (hu : HoldsF W u gs) => printRsTok s j r gs u W hu (tab_below T hb) hg (by omega) (by omega) (by omega))
  have cF := hide' (fun W (hb : Below w.heap.size w W) => copyF (.slice la fs.length lc) fs W (holdsF_mono HR.out hb) (by omega))
  have cV := hide' (fun W (u : Value) (hu : HoldsF W u fs) => valuesTok u fs hostN W hu hf (by decide) (by omega))
  unfold hostN at cV
  obtain ⟨nh, hnh⟩ : ∃ nh, nh = hostsOf fs := ⟨_, rfl⟩
  have HNH : Hid ((valsOf fs [72, 111, 115, 116]).length = nh) := by unfold Hid; rw [hnh]; rfl
  have hnl : nh ≤ 1048576 := by rw [hnh]; exact Nat.le_trans (vals_len _ _) lf
  have bad : Hid (hostBad fs k = decide (1 < nh ∨ (nh = 0 ∧ k = 1))) := by unfold Hid hostBad; rw [← hnh]
  generalize prQ ⟨m, t, k, fs⟩ = AQ at pQ qc two pos
  generalize prR ⟨s, r, j, gs⟩ = AS at pS rc' twoS posS
  obtain ⟨xq, eq⟩ := AQ
  obtain ⟨xs, es⟩ := AS
  simp only at pQ qc pS rc'
  obtain ⟨rc1, rc2⟩ := rc'
  have RC2 := hide' rc2
  have hal : (xq ++ rs).length ≤ 2000000 := by rw [List.length_append]; omega
  have has : (xs ++ rs).length ≤ 2000000 := by rw [List.length_append]; omega
  have cA := hide' (fun W (u : Value) (hb : HoldsB W u (xq ++ rs)) (hE : Env W) => reqC u (xq ++ rs) W hb hE (by omega))
  have cT := hide' (fun W (u : Value) (hb : HoldsB W u ((xq ++ rs).take (xq.length - 1))) (hE : Env W) => reqC u ((xq ++ rs).take (xq.length - 1)) W hb hE (by rw [List.length_take]; omega))
  have cB := hide' (fun W (u : Value) (hb : HoldsB W u (xs ++ rs)) (hE : Env W) => respC u (xs ++ rs) W hb hE (by omega))
  have cU := hide' (fun W (u : Value) (hb : HoldsB W u ((xs ++ rs).take (xs.length - 1))) (hE : Env W) => respC u ((xs ++ rs).take (xs.length - 1)) W hb hE (by rw [List.length_take]; omega))
  have cK := hide' (fun W (u : Value) (hb : HoldsB W u xq) => copyB u xq W hb (by omega))
  have cL := hide' (fun W (u : Value) (hb : HoldsB W u xs) => copyB u xs W hb (by omega))
  unfold reqV rqV at cA cT
  unfold respV rsV at cB cU
  clear h1 h2 h3 b1 b2 z1 q1 q2 B0 hW2 hf hg T E pf pg hnh rc2 hal has
  go_enter Tryz.func5, Tryz.ntmps5
  go_wp2_with fail
  rw [← HW2.out]
  refine c0.out.mono ?_
  rintro e w0 ⟨rfl, b⟩
  have B1 := hide' (bt' BZ.out b)
  have QR1 := hide' (quad_below QR0.out b)
  have QS1 := hide' (quad_below QS0.out b)
  clear b c0
  obtain ⟨i0, i1, i2, i3, _⟩ := QR1.out
  go_wp2_with fail
  refine (cQ.out _ B1.out).mono ?_
  rintro e w1 ⟨u1, rfl, ho⟩
  clear i0 i1 i2 i3
  have B2 := hide' (bt' B1.out ho.2)
  have QR2 := hide' (quad_below QR1.out ho.2)
  have QS2 := hide' (quad_below QS1.out ho.2)
  have U2 := hide' (holdsF_own ho)
  obtain ⟨ua, uc, _, _, hu, _⟩ := holdsF_parts U2.out
  subst hu
  clear ho
  go_wp2_with fail
  refine (pQ.out _ _ B2.out U2.out).mono ?_
  rintro e w2 ⟨pu, rfl, ho⟩
  have B3 := hide' (bt' B2.out ho.2)
  have QR3 := hide' (quad_below QR2.out ho.2)
  have QS3 := hide' (quad_below QS2.out ho.2)
  have A3 := hide' (holdsB_own ho)
  obtain ⟨pa, pc, hpu, _⟩ := holdsB_parts A3.out
  subst hpu
  clear ho U2
  obtain ⟨i0, i1, i2, i3, _⟩ := QR3.out
  go_wp2_with fail
  refine (cF.out _ B3.out).mono ?_
  rintro e w3 ⟨fu, rfl, ho⟩
  clear i0 i1 i2 i3
  have B4 := hide' (bt' B3.out ho.2)
  have QR4 := hide' (quad_below QR3.out ho.2)
  have QS4 := hide' (quad_below QS3.out ho.2)
  have A4 := hide' (holdsB_mono A3.out ho.2)
  have U4 := hide' (holdsF_own ho)
  clear ho
  go_wp2_with fail
  refine (cV.out _ _ U4.out).mono ?_
  rintro e w4 ⟨vu, rfl, ho⟩
  have B5 := hide' (bt' B4.out ho.2)
  have QR5 := hide' (quad_below QR4.out ho.2)
  have QS5 := hide' (quad_below QS4.out ho.2)
  have A5 := hide' (holdsB_mono A4.out ho.2)
  obtain ⟨au, cu, _, _, hvu, _⟩ := holds_parts (holds_own ho)
  rw [HNH.out] at hvu
  subst hvu
  clear ho U4 A3 A4
  obtain ⟨i0, i1, i2, i3, _⟩ := QR5.out
  by_cases g1 : eq = 0
  · subst g1
    by_cases n1 : nh = 1
    · have t1 : ((nh : Int) == 1) = true := by simp; omega
      obtain ⟨ps4', ps8'⟩ := pos.out xq rfl
      obtain ⟨tw1, tw2⟩ := two.out xq rfl (by rw [bad.out]; simp; omega)
      rw [tw1] at cA
      rw [tw2] at cT
      simp only [Rq.zero] at cA cT
      clear tw1 tw2
      go_wp2_with fail
      refine (cK.out _ _ A5.out).mono ?_
      rintro e z3 ⟨bu, rfl, ho⟩
      have D4 := hide' (bt' B5.out ho.2)
      have O4 := hide' ho
      have X4 := hide' (holdsB_mono HX.out D4.out)
      clear ho i0 i1 i2 i3
      go_wp2_with (at_builtin; refine appAllB rfl (.tmp 52) (.tmp 53) rfl w4 _ xq rfl O4.out _ rs rfl X4.out (by omega) ?_; intro bv z4 ho5)
      have D5 := hide' (bt' B5.out ho5.2)
      have QR6 := hide' (quad_below QR5.out ho5.2)
      have QS6 := hide' (quad_below QS5.out ho5.2)
      have GQ5 := hide' (holdsB_own ho5)
      obtain ⟨ba, bc, hbv, _⟩ := holdsB_parts GQ5.out
      subst hbv
      have hal2 : (xq ++ rs).length = xq.length + rs.length := List.length_append
      clear ho5 O4 X4 D4
      have hn1 : xq.length - 1 ≤ (xq ++ rs).length := by rw [List.length_append]; omega
      obtain ⟨pv, hpr, hpv⟩ := holdsB_take GQ5.out (xq.length - 1) hn1
      rw [hal2] at hpr
      have sl : ∀ W, Sem.run Tryz.prog (Instr.slice 22 (.slice ba (xq.length + rs.length) bc) none (some (.int .i64 ((xq.length : Int) - 1))) none) W = .ok pv W := by
        intro W
        have := hpr W
        rwa [show ((xq.length - 1 : Nat) : Int) = (xq.length : Int) - 1 by omega] at this
      have HPV := hide' hpv
      clear hpr hpv hn1
      refine (cA.out _ _ GQ5.out (env_below EV.out D5.out)).mono ?_
      rintro e z5 ⟨lv5, rfl, ho⟩
      have D6 := hide' (bt' D5.out ho.2)
      have QR7 := hide' (quad_below QR6.out ho.2)
      have QS7 := hide' (quad_below QS6.out ho.2)
      have V6 := hide' (holdsB_mono HPV.out ho.2)
      have F6 := hide' (holdsF_own ho)
      obtain ⟨xa, xc, _, _, hlv5, _⟩ := holdsF_parts F6.out
      subst hlv5
      clear ho
      have b7 := below_alloc' z5 (.cells #[.string ⟨m.toArray⟩, .string ⟨t.toArray⟩, .int .i64 k, .slice xa fs.length xc] 34)
      have D7 := hide' (bt' D6.out b7)
      have QR8 := hide' (quad_below QR7.out b7)
      have QS8 := hide' (quad_below QS7.out b7)
      have QT8 := hide' (quad_lit z5 (.string ⟨m.toArray⟩) (.string ⟨t.toArray⟩) (.int .i64 k) (.slice xa fs.length xc) 34)
      have V7 := hide' (holdsB_mono V6.out b7)
      have F7 := hide' (holdsF_mono F6.out b7)
      clear b7
      obtain ⟨i0, i1, i2, i3, _⟩ := QR8.out
      obtain ⟨k0, k1, k2, k3, _⟩ := QT8.out
      rw [hal2]
      go_wp2_with fail
      refine (sameRq _ _ _ fs _ _ _ F7.out (holdsF_mono HR.out D7.out) (by omega)).mono ?_
      rintro e z6 ⟨rfl, b⟩
      have D8 := hide' (bt' D7.out b)
      have QS9 := hide' (quad_below QS8.out b)
      have V8 := hide' (holdsB_mono V7.out b)
      clear b i0 i1 i2 i3 k0 k1 k2 k3
      go_wp2_with fail
      refine (cT.out _ _ V8.out (env_below EV.out D8.out)).mono ?_
      rintro e z7 ⟨lv7, rfl, ho⟩
      have D9 := hide' (bt' D8.out ho.2)
      have QS10 := hide' (quad_below QS9.out ho.2)
      clear ho sl HPV V6 V7 V8 hal2 GQ5
      obtain ⟨i0, i1, i2, i3, _⟩ := QS10.out
      go_wp2_with fail
      refine (cS.out _ D9.out).mono ?_
      rintro e y1 ⟨u1', rfl, ho⟩
      clear i0 i1 i2 i3
      have C2 := hide' (bt' D9.out ho.2)
      have QS2' := hide' (quad_below QS10.out ho.2)
      have U2' := hide' (holdsF_own ho)
      obtain ⟨ua', uc', _, _, hu', _⟩ := holdsF_parts U2'.out
      subst hu'
      clear ho
      go_wp2_with fail
      refine (pS.out _ _ C2.out U2'.out).mono ?_
      rintro e y2 ⟨pu', rfl, ho⟩
      have C3 := hide' (bt' C2.out ho.2)
      have QS3' := hide' (quad_below QS2'.out ho.2)
      have A3' := hide' (holdsB_own ho)
      obtain ⟨pa', pc', hpu', _⟩ := holdsB_parts A3'.out
      subst hpu'
      clear ho U2'
      by_cases gs0 : es = 0
      · subst gs0
        obtain ⟨ps4, ps8⟩ := posS.out xs rfl
        obtain ⟨t1', t2'⟩ := twoS.out xs rfl
        rw [t1'] at cB
        rw [t2'] at cU
        simp only [Rs.zero] at cB cU
        clear t1' t2'
        go_wp2_with fail
        refine (cL.out _ _ A3'.out).mono ?_
        rintro e y3 ⟨bu', rfl, ho⟩
        have C4 := hide' (bt' C3.out ho.2)
        have QS4' := hide' (quad_below QS3'.out ho.2)
        have O4' := hide' ho
        have X4' := hide' (holdsB_mono HX.out C4.out)
        clear ho
        go_wp2_with (at_builtin; refine appAllB rfl (.tmp 104) (.tmp 105) rfl y2 _ xs rfl O4'.out _ rs rfl X4'.out (by omega) ?_; intro bv y4 ho5)
        have C5 := hide' (bt' C3.out ho5.2)
        have QS5' := hide' (quad_below QS3'.out ho5.2)
        have GS5 := hide' (holdsB_own ho5)
        obtain ⟨ba, bc, hbv, _⟩ := holdsB_parts GS5.out
        subst hbv
        have hal2 : (xs ++ rs).length = xs.length + rs.length := List.length_append
        clear ho5 O4' X4' QS4' C4
        have hn1 : xs.length - 1 ≤ (xs ++ rs).length := by rw [List.length_append]; omega
        obtain ⟨pv, hpr, hpv⟩ := holdsB_take GS5.out (xs.length - 1) hn1
        rw [hal2] at hpr
        have sl : ∀ W, Sem.run Tryz.prog (Instr.slice 22 (.slice ba (xs.length + rs.length) bc) none (some (.int .i64 ((xs.length : Int) - 1))) none) W = .ok pv W := by
          intro W
          have := hpr W
          rwa [show ((xs.length - 1 : Nat) : Int) = (xs.length : Int) - 1 by omega] at this
        have HPV := hide' hpv
        clear hpr hpv hn1
        refine (cB.out _ _ GS5.out (env_below EV.out C5.out)).mono ?_
        rintro e y5 ⟨lv5, rfl, ho⟩
        have C6 := hide' (bt' C5.out ho.2)
        have QS6' := hide' (quad_below QS5'.out ho.2)
        have V6' := hide' (holdsB_mono HPV.out ho.2)
        have F6' := hide' (holdsF_own ho)
        obtain ⟨xa, xc, _, _, hlv5, _⟩ := holdsF_parts F6'.out
        subst hlv5
        clear ho
        have b7 := below_alloc' y5 (.cells #[.int .i64 s, .string ⟨r.toArray⟩, .int .i64 j, .slice xa gs.length xc] 25)
        have C7 := hide' (bt' C6.out b7)
        have QS7' := hide' (quad_below QS6'.out b7)
        have QT7' := hide' (quad_lit y5 (.int .i64 s) (.string ⟨r.toArray⟩) (.int .i64 j) (.slice xa gs.length xc) 25)
        have V7' := hide' (holdsB_mono V6'.out b7)
        have F7' := hide' (holdsF_mono F6'.out b7)
        clear b7
        obtain ⟨i0, i1, i2, i3, _⟩ := QS7'.out
        obtain ⟨k0, k1, k2, k3, _⟩ := QT7'.out
        rw [hal2]
        go_wp2_with fail
        refine (sameRs _ _ _ gs _ _ _ F7'.out (holdsF_mono HS.out C7.out) (by omega)).mono ?_
        rintro e y6 ⟨rfl, b⟩
        have C8 := hide' (bt' C7.out b)
        have V8' := hide' (holdsB_mono V7'.out b)
        clear b i0 i1 i2 i3 k0 k1 k2 k3
        go_wp2_with fail
        refine (cU.out _ _ V8'.out (env_below EV.out C8.out)).mono ?_
        rintro e y7 ⟨lv7, rfl, ho⟩
        have C9 := hide' (bt' C8.out ho.2)
        clear ho sl
        go_wp2_with fail
        go_ret
        exact ⟨rfl, C9.out⟩
      · have xe := RC2.out gs0
        subst xe
        have tg : (es != 0) = true := by simpa using gs0
        clear gs0
        simp only [List.length_nil]
        go_wp2_with fail
        go_ret
        exact ⟨rfl, C3.out⟩
    · have t1 : ((nh : Int) == 1) = false := by simp; omega
      by_cases n0 : nh = 0
      · have t2 : ((nh : Int) == 0) = true := by simp; omega
        by_cases k0' : k = 0
        · have t3 : (k == 0) = true := by simpa using k0'
          have kn1 : ¬ k = 1 := by omega
          clear k0'
          obtain ⟨ps4', ps8'⟩ := pos.out xq rfl
          obtain ⟨tw1, tw2⟩ := two.out xq rfl (by rw [bad.out]; simp; omega)
          rw [tw1] at cA
          rw [tw2] at cT
          simp only [Rq.zero] at cA cT
          clear tw1 tw2
          go_wp2_with fail
          refine (cK.out _ _ A5.out).mono ?_
          rintro e z3 ⟨bu, rfl, ho⟩
          have D4 := hide' (bt' B5.out ho.2)
          have O4 := hide' ho
          have X4 := hide' (holdsB_mono HX.out D4.out)
          clear ho i0 i1 i2 i3
          go_wp2_with (at_builtin; refine appAllB rfl (.tmp 52) (.tmp 53) rfl w4 _ xq rfl O4.out _ rs rfl X4.out (by omega) ?_; intro bv z4 ho5)
          have D5 := hide' (bt' B5.out ho5.2)
          have QR6 := hide' (quad_below QR5.out ho5.2)
          have QS6 := hide' (quad_below QS5.out ho5.2)
          have GQ5 := hide' (holdsB_own ho5)
          obtain ⟨ba, bc, hbv, _⟩ := holdsB_parts GQ5.out
          subst hbv
          have hal2 : (xq ++ rs).length = xq.length + rs.length := List.length_append
          clear ho5 O4 X4 D4
          have hn1 : xq.length - 1 ≤ (xq ++ rs).length := by rw [List.length_append]; omega
          obtain ⟨pv, hpr, hpv⟩ := holdsB_take GQ5.out (xq.length - 1) hn1
          rw [hal2] at hpr
          have sl : ∀ W, Sem.run Tryz.prog (Instr.slice 22 (.slice ba (xq.length + rs.length) bc) none (some (.int .i64 ((xq.length : Int) - 1))) none) W = .ok pv W := by
            intro W
            have := hpr W
            rwa [show ((xq.length - 1 : Nat) : Int) = (xq.length : Int) - 1 by omega] at this
          have HPV := hide' hpv
          clear hpr hpv hn1
          refine (cA.out _ _ GQ5.out (env_below EV.out D5.out)).mono ?_
          rintro e z5 ⟨lv5, rfl, ho⟩
          have D6 := hide' (bt' D5.out ho.2)
          have QR7 := hide' (quad_below QR6.out ho.2)
          have QS7 := hide' (quad_below QS6.out ho.2)
          have V6 := hide' (holdsB_mono HPV.out ho.2)
          have F6 := hide' (holdsF_own ho)
          obtain ⟨xa, xc, _, _, hlv5, _⟩ := holdsF_parts F6.out
          subst hlv5
          clear ho
          have b7 := below_alloc' z5 (.cells #[.string ⟨m.toArray⟩, .string ⟨t.toArray⟩, .int .i64 k, .slice xa fs.length xc] 34)
          have D7 := hide' (bt' D6.out b7)
          have QR8 := hide' (quad_below QR7.out b7)
          have QS8 := hide' (quad_below QS7.out b7)
          have QT8 := hide' (quad_lit z5 (.string ⟨m.toArray⟩) (.string ⟨t.toArray⟩) (.int .i64 k) (.slice xa fs.length xc) 34)
          have V7 := hide' (holdsB_mono V6.out b7)
          have F7 := hide' (holdsF_mono F6.out b7)
          clear b7
          obtain ⟨i0, i1, i2, i3, _⟩ := QR8.out
          obtain ⟨k0, k1, k2, k3, _⟩ := QT8.out
          rw [hal2]
          go_wp2_with fail
          refine (sameRq _ _ _ fs _ _ _ F7.out (holdsF_mono HR.out D7.out) (by omega)).mono ?_
          rintro e z6 ⟨rfl, b⟩
          have D8 := hide' (bt' D7.out b)
          have QS9 := hide' (quad_below QS8.out b)
          have V8 := hide' (holdsB_mono V7.out b)
          clear b i0 i1 i2 i3 k0 k1 k2 k3
          go_wp2_with fail
          refine (cT.out _ _ V8.out (env_below EV.out D8.out)).mono ?_
          rintro e z7 ⟨lv7, rfl, ho⟩
          have D9 := hide' (bt' D8.out ho.2)
          have QS10 := hide' (quad_below QS9.out ho.2)
          clear ho sl HPV V6 V7 V8 hal2 GQ5
          obtain ⟨i0, i1, i2, i3, _⟩ := QS10.out
          go_wp2_with fail
          refine (cS.out _ D9.out).mono ?_
          rintro e y1 ⟨u1', rfl, ho⟩
          clear i0 i1 i2 i3
          have C2 := hide' (bt' D9.out ho.2)
          have QS2' := hide' (quad_below QS10.out ho.2)
          have U2' := hide' (holdsF_own ho)
          obtain ⟨ua', uc', _, _, hu', _⟩ := holdsF_parts U2'.out
          subst hu'
          clear ho
          go_wp2_with fail
          refine (pS.out _ _ C2.out U2'.out).mono ?_
          rintro e y2 ⟨pu', rfl, ho⟩
          have C3 := hide' (bt' C2.out ho.2)
          have QS3' := hide' (quad_below QS2'.out ho.2)
          have A3' := hide' (holdsB_own ho)
          obtain ⟨pa', pc', hpu', _⟩ := holdsB_parts A3'.out
          subst hpu'
          clear ho U2'
          by_cases gs0 : es = 0
          · subst gs0
            obtain ⟨ps4, ps8⟩ := posS.out xs rfl
            obtain ⟨t1', t2'⟩ := twoS.out xs rfl
            rw [t1'] at cB
            rw [t2'] at cU
            simp only [Rs.zero] at cB cU
            clear t1' t2'
            go_wp2_with fail
            refine (cL.out _ _ A3'.out).mono ?_
            rintro e y3 ⟨bu', rfl, ho⟩
            have C4 := hide' (bt' C3.out ho.2)
            have QS4' := hide' (quad_below QS3'.out ho.2)
            have O4' := hide' ho
            have X4' := hide' (holdsB_mono HX.out C4.out)
            clear ho
            go_wp2_with (at_builtin; refine appAllB rfl (.tmp 104) (.tmp 105) rfl y2 _ xs rfl O4'.out _ rs rfl X4'.out (by omega) ?_; intro bv y4 ho5)
            have C5 := hide' (bt' C3.out ho5.2)
            have QS5' := hide' (quad_below QS3'.out ho5.2)
            have GS5 := hide' (holdsB_own ho5)
            obtain ⟨ba, bc, hbv, _⟩ := holdsB_parts GS5.out
            subst hbv
            have hal2 : (xs ++ rs).length = xs.length + rs.length := List.length_append
            clear ho5 O4' X4' QS4' C4
            have hn1 : xs.length - 1 ≤ (xs ++ rs).length := by rw [List.length_append]; omega
            obtain ⟨pv, hpr, hpv⟩ := holdsB_take GS5.out (xs.length - 1) hn1
            rw [hal2] at hpr
            have sl : ∀ W, Sem.run Tryz.prog (Instr.slice 22 (.slice ba (xs.length + rs.length) bc) none (some (.int .i64 ((xs.length : Int) - 1))) none) W = .ok pv W := by
              intro W
              have := hpr W
              rwa [show ((xs.length - 1 : Nat) : Int) = (xs.length : Int) - 1 by omega] at this
            have HPV := hide' hpv
            clear hpr hpv hn1
            refine (cB.out _ _ GS5.out (env_below EV.out C5.out)).mono ?_
            rintro e y5 ⟨lv5, rfl, ho⟩
            have C6 := hide' (bt' C5.out ho.2)
            have QS6' := hide' (quad_below QS5'.out ho.2)
            have V6' := hide' (holdsB_mono HPV.out ho.2)
            have F6' := hide' (holdsF_own ho)
            obtain ⟨xa, xc, _, _, hlv5, _⟩ := holdsF_parts F6'.out
            subst hlv5
            clear ho
            have b7 := below_alloc' y5 (.cells #[.int .i64 s, .string ⟨r.toArray⟩, .int .i64 j, .slice xa gs.length xc] 25)
            have C7 := hide' (bt' C6.out b7)
            have QS7' := hide' (quad_below QS6'.out b7)
            have QT7' := hide' (quad_lit y5 (.int .i64 s) (.string ⟨r.toArray⟩) (.int .i64 j) (.slice xa gs.length xc) 25)
            have V7' := hide' (holdsB_mono V6'.out b7)
            have F7' := hide' (holdsF_mono F6'.out b7)
            clear b7
            obtain ⟨i0, i1, i2, i3, _⟩ := QS7'.out
            obtain ⟨k0, k1, k2, k3, _⟩ := QT7'.out
            rw [hal2]
            go_wp2_with fail
            refine (sameRs _ _ _ gs _ _ _ F7'.out (holdsF_mono HS.out C7.out) (by omega)).mono ?_
            rintro e y6 ⟨rfl, b⟩
            have C8 := hide' (bt' C7.out b)
            have V8' := hide' (holdsB_mono V7'.out b)
            clear b i0 i1 i2 i3 k0 k1 k2 k3
            go_wp2_with fail
            refine (cU.out _ _ V8'.out (env_below EV.out C8.out)).mono ?_
            rintro e y7 ⟨lv7, rfl, ho⟩
            have C9 := hide' (bt' C8.out ho.2)
            clear ho sl
            go_wp2_with fail
            go_ret
            exact ⟨rfl, C9.out⟩
          · have xe := RC2.out gs0
            subst xe
            have tg : (es != 0) = true := by simpa using gs0
            clear gs0
            simp only [List.length_nil]
            go_wp2_with fail
            go_ret
            exact ⟨rfl, C3.out⟩
        · have t3 : (k == 0) = false := by simpa using k0'
          obtain ⟨i0, i1, i2, i3, _⟩ := QS5.out
          go_wp2_with fail
          refine (cS.out _ B5.out).mono ?_
          rintro e y1 ⟨u1', rfl, ho⟩
          clear i0 i1 i2 i3
          have C2 := hide' (bt' B5.out ho.2)
          have QS2' := hide' (quad_below QS5.out ho.2)
          have U2' := hide' (holdsF_own ho)
          obtain ⟨ua', uc', _, _, hu', _⟩ := holdsF_parts U2'.out
          subst hu'
          clear ho
          go_wp2_with fail
          refine (pS.out _ _ C2.out U2'.out).mono ?_
          rintro e y2 ⟨pu', rfl, ho⟩
          have C3 := hide' (bt' C2.out ho.2)
          have QS3' := hide' (quad_below QS2'.out ho.2)
          have A3' := hide' (holdsB_own ho)
          obtain ⟨pa', pc', hpu', _⟩ := holdsB_parts A3'.out
          subst hpu'
          clear ho U2'
          by_cases gs0 : es = 0
          · subst gs0
            obtain ⟨ps4, ps8⟩ := posS.out xs rfl
            obtain ⟨t1', t2'⟩ := twoS.out xs rfl
            rw [t1'] at cB
            rw [t2'] at cU
            simp only [Rs.zero] at cB cU
            clear t1' t2'
            go_wp2_with fail
            refine (cL.out _ _ A3'.out).mono ?_
            rintro e y3 ⟨bu', rfl, ho⟩
            have C4 := hide' (bt' C3.out ho.2)
            have QS4' := hide' (quad_below QS3'.out ho.2)
            have O4' := hide' ho
            have X4' := hide' (holdsB_mono HX.out C4.out)
            clear ho
            go_wp2_with (at_builtin; refine appAllB rfl (.tmp 104) (.tmp 105) rfl y2 _ xs rfl O4'.out _ rs rfl X4'.out (by omega) ?_; intro bv y4 ho5)
            have C5 := hide' (bt' C3.out ho5.2)
            have QS5' := hide' (quad_below QS3'.out ho5.2)
            have GS5 := hide' (holdsB_own ho5)
            obtain ⟨ba, bc, hbv, _⟩ := holdsB_parts GS5.out
            subst hbv
            have hal2 : (xs ++ rs).length = xs.length + rs.length := List.length_append
            clear ho5 O4' X4' QS4' C4
            have hn1 : xs.length - 1 ≤ (xs ++ rs).length := by rw [List.length_append]; omega
            obtain ⟨pv, hpr, hpv⟩ := holdsB_take GS5.out (xs.length - 1) hn1
            rw [hal2] at hpr
            have sl : ∀ W, Sem.run Tryz.prog (Instr.slice 22 (.slice ba (xs.length + rs.length) bc) none (some (.int .i64 ((xs.length : Int) - 1))) none) W = .ok pv W := by
              intro W
              have := hpr W
              rwa [show ((xs.length - 1 : Nat) : Int) = (xs.length : Int) - 1 by omega] at this
            have HPV := hide' hpv
            clear hpr hpv hn1
            refine (cB.out _ _ GS5.out (env_below EV.out C5.out)).mono ?_
            rintro e y5 ⟨lv5, rfl, ho⟩
            have C6 := hide' (bt' C5.out ho.2)
            have QS6' := hide' (quad_below QS5'.out ho.2)
            have V6' := hide' (holdsB_mono HPV.out ho.2)
            have F6' := hide' (holdsF_own ho)
            obtain ⟨xa, xc, _, _, hlv5, _⟩ := holdsF_parts F6'.out
            subst hlv5
            clear ho
            have b7 := below_alloc' y5 (.cells #[.int .i64 s, .string ⟨r.toArray⟩, .int .i64 j, .slice xa gs.length xc] 25)
            have C7 := hide' (bt' C6.out b7)
            have QS7' := hide' (quad_below QS6'.out b7)
            have QT7' := hide' (quad_lit y5 (.int .i64 s) (.string ⟨r.toArray⟩) (.int .i64 j) (.slice xa gs.length xc) 25)
            have V7' := hide' (holdsB_mono V6'.out b7)
            have F7' := hide' (holdsF_mono F6'.out b7)
            clear b7
            obtain ⟨i0, i1, i2, i3, _⟩ := QS7'.out
            obtain ⟨k0, k1, k2, k3, _⟩ := QT7'.out
            rw [hal2]
            go_wp2_with fail
            refine (sameRs _ _ _ gs _ _ _ F7'.out (holdsF_mono HS.out C7.out) (by omega)).mono ?_
            rintro e y6 ⟨rfl, b⟩
            have C8 := hide' (bt' C7.out b)
            have V8' := hide' (holdsB_mono V7'.out b)
            clear b i0 i1 i2 i3 k0 k1 k2 k3
            go_wp2_with fail
            refine (cU.out _ _ V8'.out (env_below EV.out C8.out)).mono ?_
            rintro e y7 ⟨lv7, rfl, ho⟩
            have C9 := hide' (bt' C8.out ho.2)
            clear ho sl
            go_wp2_with fail
            go_ret
            exact ⟨rfl, C9.out⟩
          · have xe := RC2.out gs0
            subst xe
            have tg : (es != 0) = true := by simpa using gs0
            clear gs0
            simp only [List.length_nil]
            go_wp2_with fail
            go_ret
            exact ⟨rfl, C3.out⟩
      · have t2 : ((nh : Int) == 0) = false := by simp; omega
        obtain ⟨i0, i1, i2, i3, _⟩ := QS5.out
        go_wp2_with fail
        refine (cS.out _ B5.out).mono ?_
        rintro e y1 ⟨u1', rfl, ho⟩
        clear i0 i1 i2 i3
        have C2 := hide' (bt' B5.out ho.2)
        have QS2' := hide' (quad_below QS5.out ho.2)
        have U2' := hide' (holdsF_own ho)
        obtain ⟨ua', uc', _, _, hu', _⟩ := holdsF_parts U2'.out
        subst hu'
        clear ho
        go_wp2_with fail
        refine (pS.out _ _ C2.out U2'.out).mono ?_
        rintro e y2 ⟨pu', rfl, ho⟩
        have C3 := hide' (bt' C2.out ho.2)
        have QS3' := hide' (quad_below QS2'.out ho.2)
        have A3' := hide' (holdsB_own ho)
        obtain ⟨pa', pc', hpu', _⟩ := holdsB_parts A3'.out
        subst hpu'
        clear ho U2'
        by_cases gs0 : es = 0
        · subst gs0
          obtain ⟨ps4, ps8⟩ := posS.out xs rfl
          obtain ⟨t1', t2'⟩ := twoS.out xs rfl
          rw [t1'] at cB
          rw [t2'] at cU
          simp only [Rs.zero] at cB cU
          clear t1' t2'
          go_wp2_with fail
          refine (cL.out _ _ A3'.out).mono ?_
          rintro e y3 ⟨bu', rfl, ho⟩
          have C4 := hide' (bt' C3.out ho.2)
          have QS4' := hide' (quad_below QS3'.out ho.2)
          have O4' := hide' ho
          have X4' := hide' (holdsB_mono HX.out C4.out)
          clear ho
          go_wp2_with (at_builtin; refine appAllB rfl (.tmp 104) (.tmp 105) rfl y2 _ xs rfl O4'.out _ rs rfl X4'.out (by omega) ?_; intro bv y4 ho5)
          have C5 := hide' (bt' C3.out ho5.2)
          have QS5' := hide' (quad_below QS3'.out ho5.2)
          have GS5 := hide' (holdsB_own ho5)
          obtain ⟨ba, bc, hbv, _⟩ := holdsB_parts GS5.out
          subst hbv
          have hal2 : (xs ++ rs).length = xs.length + rs.length := List.length_append
          clear ho5 O4' X4' QS4' C4
          have hn1 : xs.length - 1 ≤ (xs ++ rs).length := by rw [List.length_append]; omega
          obtain ⟨pv, hpr, hpv⟩ := holdsB_take GS5.out (xs.length - 1) hn1
          rw [hal2] at hpr
          have sl : ∀ W, Sem.run Tryz.prog (Instr.slice 22 (.slice ba (xs.length + rs.length) bc) none (some (.int .i64 ((xs.length : Int) - 1))) none) W = .ok pv W := by
            intro W
            have := hpr W
            rwa [show ((xs.length - 1 : Nat) : Int) = (xs.length : Int) - 1 by omega] at this
          have HPV := hide' hpv
          clear hpr hpv hn1
          refine (cB.out _ _ GS5.out (env_below EV.out C5.out)).mono ?_
          rintro e y5 ⟨lv5, rfl, ho⟩
          have C6 := hide' (bt' C5.out ho.2)
          have QS6' := hide' (quad_below QS5'.out ho.2)
          have V6' := hide' (holdsB_mono HPV.out ho.2)
          have F6' := hide' (holdsF_own ho)
          obtain ⟨xa, xc, _, _, hlv5, _⟩ := holdsF_parts F6'.out
          subst hlv5
          clear ho
          have b7 := below_alloc' y5 (.cells #[.int .i64 s, .string ⟨r.toArray⟩, .int .i64 j, .slice xa gs.length xc] 25)
          have C7 := hide' (bt' C6.out b7)
          have QS7' := hide' (quad_below QS6'.out b7)
          have QT7' := hide' (quad_lit y5 (.int .i64 s) (.string ⟨r.toArray⟩) (.int .i64 j) (.slice xa gs.length xc) 25)
          have V7' := hide' (holdsB_mono V6'.out b7)
          have F7' := hide' (holdsF_mono F6'.out b7)
          clear b7
          obtain ⟨i0, i1, i2, i3, _⟩ := QS7'.out
          obtain ⟨k0, k1, k2, k3, _⟩ := QT7'.out
          rw [hal2]
          go_wp2_with fail
          refine (sameRs _ _ _ gs _ _ _ F7'.out (holdsF_mono HS.out C7.out) (by omega)).mono ?_
          rintro e y6 ⟨rfl, b⟩
          have C8 := hide' (bt' C7.out b)
          have V8' := hide' (holdsB_mono V7'.out b)
          clear b i0 i1 i2 i3 k0 k1 k2 k3
          go_wp2_with fail
          refine (cU.out _ _ V8'.out (env_below EV.out C8.out)).mono ?_
          rintro e y7 ⟨lv7, rfl, ho⟩
          have C9 := hide' (bt' C8.out ho.2)
          clear ho sl
          go_wp2_with fail
          go_ret
          exact ⟨rfl, C9.out⟩
        · have xe := RC2.out gs0
          subst xe
          have tg : (es != 0) = true := by simpa using gs0
          clear gs0
          simp only [List.length_nil]
          go_wp2_with fail
          go_ret
          exact ⟨rfl, C3.out⟩
  · have t1 : (eq == 0) = false := by simpa using g1
    obtain ⟨i0, i1, i2, i3, _⟩ := QS5.out
    go_wp2_with fail
    refine (cS.out _ B5.out).mono ?_
    rintro e y1 ⟨u1', rfl, ho⟩
    clear i0 i1 i2 i3
    have C2 := hide' (bt' B5.out ho.2)
    have QS2' := hide' (quad_below QS5.out ho.2)
    have U2' := hide' (holdsF_own ho)
    obtain ⟨ua', uc', _, _, hu', _⟩ := holdsF_parts U2'.out
    subst hu'
    clear ho
    go_wp2_with fail
    refine (pS.out _ _ C2.out U2'.out).mono ?_
    rintro e y2 ⟨pu', rfl, ho⟩
    have C3 := hide' (bt' C2.out ho.2)
    have QS3' := hide' (quad_below QS2'.out ho.2)
    have A3' := hide' (holdsB_own ho)
    obtain ⟨pa', pc', hpu', _⟩ := holdsB_parts A3'.out
    subst hpu'
    clear ho U2'
    by_cases gs0 : es = 0
    · subst gs0
      obtain ⟨ps4, ps8⟩ := posS.out xs rfl
      obtain ⟨t1', t2'⟩ := twoS.out xs rfl
      rw [t1'] at cB
      rw [t2'] at cU
      simp only [Rs.zero] at cB cU
      clear t1' t2'
      go_wp2_with fail
      refine (cL.out _ _ A3'.out).mono ?_
      rintro e y3 ⟨bu', rfl, ho⟩
      have C4 := hide' (bt' C3.out ho.2)
      have QS4' := hide' (quad_below QS3'.out ho.2)
      have O4' := hide' ho
      have X4' := hide' (holdsB_mono HX.out C4.out)
      clear ho
      go_wp2_with (at_builtin; refine appAllB rfl (.tmp 104) (.tmp 105) rfl y2 _ xs rfl O4'.out _ rs rfl X4'.out (by omega) ?_; intro bv y4 ho5)
      have C5 := hide' (bt' C3.out ho5.2)
      have QS5' := hide' (quad_below QS3'.out ho5.2)
      have GS5 := hide' (holdsB_own ho5)
      obtain ⟨ba, bc, hbv, _⟩ := holdsB_parts GS5.out
      subst hbv
      have hal2 : (xs ++ rs).length = xs.length + rs.length := List.length_append
      clear ho5 O4' X4' QS4' C4
      have hn1 : xs.length - 1 ≤ (xs ++ rs).length := by rw [List.length_append]; omega
      obtain ⟨pv, hpr, hpv⟩ := holdsB_take GS5.out (xs.length - 1) hn1
      rw [hal2] at hpr
      have sl : ∀ W, Sem.run Tryz.prog (Instr.slice 22 (.slice ba (xs.length + rs.length) bc) none (some (.int .i64 ((xs.length : Int) - 1))) none) W = .ok pv W := by
        intro W
        have := hpr W
        rwa [show ((xs.length - 1 : Nat) : Int) = (xs.length : Int) - 1 by omega] at this
      have HPV := hide' hpv
      clear hpr hpv hn1
      refine (cB.out _ _ GS5.out (env_below EV.out C5.out)).mono ?_
      rintro e y5 ⟨lv5, rfl, ho⟩
      have C6 := hide' (bt' C5.out ho.2)
      have QS6' := hide' (quad_below QS5'.out ho.2)
      have V6' := hide' (holdsB_mono HPV.out ho.2)
      have F6' := hide' (holdsF_own ho)
      obtain ⟨xa, xc, _, _, hlv5, _⟩ := holdsF_parts F6'.out
      subst hlv5
      clear ho
      have b7 := below_alloc' y5 (.cells #[.int .i64 s, .string ⟨r.toArray⟩, .int .i64 j, .slice xa gs.length xc] 25)
      have C7 := hide' (bt' C6.out b7)
      have QS7' := hide' (quad_below QS6'.out b7)
      have QT7' := hide' (quad_lit y5 (.int .i64 s) (.string ⟨r.toArray⟩) (.int .i64 j) (.slice xa gs.length xc) 25)
      have V7' := hide' (holdsB_mono V6'.out b7)
      have F7' := hide' (holdsF_mono F6'.out b7)
      clear b7
      obtain ⟨i0, i1, i2, i3, _⟩ := QS7'.out
      obtain ⟨k0, k1, k2, k3, _⟩ := QT7'.out
      rw [hal2]
      go_wp2_with fail
      refine (sameRs _ _ _ gs _ _ _ F7'.out (holdsF_mono HS.out C7.out) (by omega)).mono ?_
      rintro e y6 ⟨rfl, b⟩
      have C8 := hide' (bt' C7.out b)
      have V8' := hide' (holdsB_mono V7'.out b)
      clear b i0 i1 i2 i3 k0 k1 k2 k3
      go_wp2_with fail
      refine (cU.out _ _ V8'.out (env_below EV.out C8.out)).mono ?_
      rintro e y7 ⟨lv7, rfl, ho⟩
      have C9 := hide' (bt' C8.out ho.2)
      clear ho sl
      go_wp2_with fail
      go_ret
      exact ⟨rfl, C9.out⟩
    · have xe := RC2.out gs0
      subst xe
      have tg : (es != 0) = true := by simpa using gs0
      clear gs0
      simp only [List.length_nil]
      go_wp2_with fail
      go_ret
      exact ⟨rfl, C3.out⟩
theorem fit_bulk (fs : FL) (h : bulkF fs ≤ 1048576) : Fit fs := by
  intro f hf
  have := bulkF_mem fs f hf
  omega
theorem walk (m t : List UInt8) (k : Int) (fs : FL) (lv : Value) (s : Int) (r : List UInt8) (j : Int) (gs : FL) (lw : Value) (rv : Value) (rs : List UInt8) (w : World) (h1 : HoldsF w lv fs) (h2 : HoldsF w lw gs) (h3 : HoldsB w rv rs)
    (hb1 : m.length + t.length + bulkF fs ≤ 1048576) (hb2 : r.length + bulkF gs ≤ 1048576) (hb3 : rs.length ≤ 1048576) (hk : -9223372036854775808 ≤ k ∧ k ≤ 9223372036854775807) (E : Env w) (T : Tab w) :
    Calls Tryz.prog 5 #[.agg #[.string ⟨m.toArray⟩, .string ⟨t.toArray⟩, .int .i64 k, lv], .agg #[.int .i64 s, .string ⟨r.toArray⟩, .int .i64 j, lw], rv] w fun e w' => e = .returned (.bool true) ∧ Below w.heap.size w w' := by
  have a1 := bulkF_len fs
  have a2 := bulkF_len gs
  have p1 := print_bulk fs
  have p2 := print_bulk gs
  exact walk0 m t k fs lv s r j gs lw rv rs w h1 h2 h3 (by omega) (by omega) hk (by omega) (fit_bulk fs (by omega)) (fit_bulk gs (by omega)) (by omega) (by omega) (by omega) (by omega) hb3 E T
end headRound
end Go.Proofs.YtbbaajlabpjnlaaGreatDoor
