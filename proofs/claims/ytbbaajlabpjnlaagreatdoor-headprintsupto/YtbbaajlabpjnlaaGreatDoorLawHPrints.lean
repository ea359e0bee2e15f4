/- The walk of HeadPrints. -/
import Derived.Test.YtbbaajlabpjnlaaGreatDoorHdJ
import Derived.Test.YtbbaajlabpjnlaaGreatDoorHdZ
import Derived.Test.YtbbaajlabpjnlaaGreatDoorHdY
import Derived.Test.YtbbaajlabpjnlaaGreatDoorBf
import Derived.Test.YtbbaajlabpjnlaaGreatDoorOpnR
namespace Go.Proofs.YtbbaajlabpjnlaaGreatDoor
open Go.RowKit
namespace headPrints
theorem whole_cap (l : List UInt8) (fs : FL) : (wholeP l fs).1.length ≤ 8192 := by
  unfold wholeP
  split
  · simp
  · split
    · simp
    · have h := whole_len l fs
      show (l ++ 13 :: 10 :: ((printP fs).1 ++ [13, 10])).length ≤ 8192
      omega
theorem prQ_cap (r : Rq) : (prQ r).1.length ≤ 8192 := by
  unfold prQ
  split
  · simp
  · exact whole_cap _ _
theorem prR_cap (s : Rs) : (prR s).1.length ≤ 8192 := by
  unfold prR
  split
  · simp
  · split
    · simp
    · exact whole_cap _ _
set_option maxRecDepth 20000 in
set_option maxHeartbeats 16000000 in
theorem walk0 (m t : List UInt8) (k : Int) (fs : FL) (lv : Value) (s : Int) (r : List UInt8) (j : Int) (gs : FL) (lw : Value) (w : World) (h1 : HoldsF w lv fs) (h2 : HoldsF w lw gs)
    (hm : m.length ≤ 1048576) (ht : t.length ≤ 1048576) (hk : -9223372036854775808 ≤ k ∧ k ≤ 9223372036854775807) (hr : r.length ≤ 1048576) (hf : Fit fs) (hg : Fit gs) (lf : fs.length ≤ 1048576) (lg : gs.length ≤ 1048576) (pf : (printOf fs).length ≤ 8000000) (pg : (printOf gs).length ≤ 8000000) (E : Env w) (T : Tab w) :
    Calls Tryz.prog 4 #[.agg #[.string ⟨m.toArray⟩, .string ⟨t.toArray⟩, .int .i64 k, lv], .agg #[.int .i64 s, .string ⟨r.toArray⟩, .int .i64 j, lw]] w fun e w' => e = .returned (.bool true) ∧ Below w.heap.size w w' := by
  obtain ⟨la, lc, _, _, e1, _⟩ := holdsF_parts h1
  obtain ⟨sa, sc, _, _, e2, _⟩ := holdsF_parts h2
  subst e1 e2
  have b1 := below_alloc' w (.cells #[.string ⟨m.toArray⟩, .string ⟨t.toArray⟩, .int .i64 k, .slice la fs.length lc] 34)
  have b2 := below_alloc' (w.alloc (.cells #[.string ⟨m.toArray⟩, .string ⟨t.toArray⟩, .int .i64 k, .slice la fs.length lc] 34)) (.cells #[.int .i64 s, .string ⟨r.toArray⟩, .int .i64 j, .slice sa gs.length sc] 25)
  have q1 := quad_below (quad_lit w (.string ⟨m.toArray⟩) (.string ⟨t.toArray⟩) (.int .i64 k) (.slice la fs.length lc) 34) b2
  have q2 := quad_lit (w.alloc (.cells #[.string ⟨m.toArray⟩, .string ⟨t.toArray⟩, .int .i64 k, .slice la fs.length lc] 34)) (.int .i64 s) (.string ⟨r.toArray⟩) (.int .i64 j) (.slice sa gs.length sc) 25
  have z1 : (w.alloc (.cells #[.string ⟨m.toArray⟩, .string ⟨t.toArray⟩, .int .i64 k, .slice la fs.length lc] 34)).heap.size = w.heap.size + 1 := by simp
  rw [z1] at q2
  have HR := hide' h1
  have HS := hide' h2
  have B0 := bt' b1 b2
  obtain ⟨W2, hW2⟩ : ∃ W2, W2 = (w.alloc (.cells #[.string ⟨m.toArray⟩, .string ⟨t.toArray⟩, .int .i64 k, .slice la fs.length lc] 34)).alloc (.cells #[.int .i64 s, .string ⟨r.toArray⟩, .int .i64 j, .slice sa gs.length sc] 25) := ⟨_, rfl⟩
  have HW2 := hide' hW2
  rw [← hW2] at q1 q2 B0
  have BZ := hide' B0
  have c0 := hide' (aliveHC W2 (env_below E B0))
  have QR0 := hide' q1
  have QS0 := hide' q2
  have qc := prQ_cap ⟨m, t, k, fs⟩
  have rc := prR_cap ⟨s, r, j, gs⟩
  have cQ := hide' (fun W (hb : Below w.heap.size w W) => copyRq m t k fs (.slice la fs.length lc) W (holdsF_mono HR.out hb) (by omega))
  have cS := hide' (fun W (hb : Below w.heap.size w W) => copyRs s j r gs (.slice sa gs.length sc) W (holdsF_mono HS.out hb) (by omega))
  have pQ := hide' (fun W (u : Value) (hb : Below w.heap.size w W) (hu : HoldsF W u fs) => printRqTok m t k fs u W hu (tab_below T hb) hf (by omega) (by omega) (by omega) (by omega) hk)
  have pS := hide' (fun W (u : Value) (hb : Below w.heap.size w W) (hu : HoldsF W u gs) => printRsTok s j r gs u W hu (tab_below T hb) hg (by omega) (by omega) (by omega))
  have dQ := hide' (fun W (hb : Below w.heap.size w W) => printRqRef m t k fs (.slice la fs.length lc) W (holdsF_mono HR.out hb) hf (by omega) (by omega) (by omega) (by omega) hk)
  have dS := hide' (fun W (hb : Below w.heap.size w W) => printRsRef s j r gs (.slice sa gs.length sc) W (holdsF_mono HS.out hb) hg (by omega) (by omega) (by omega))
  generalize prQ ⟨m, t, k, fs⟩ = AQ at pQ dQ qc
  generalize prR ⟨s, r, j, gs⟩ = AS at pS dS rc
  obtain ⟨xq, eq⟩ := AQ
  obtain ⟨xs, es⟩ := AS
  simp only at pQ dQ qc pS dS rc
  have LF := hide' lf
  have LG := hide' lg
  clear h1 h2 b1 b2 z1 q1 q2 B0 hW2 hf hg T E pf pg
  go_enter Tryz.func4, Tryz.ntmps4
  go_wp2_with fail
  rw [← HW2.out]
  refine c0.out.mono ?_
  rintro e w0 ⟨rfl, b⟩
  have B1 := hide' (bt' BZ.out b)
  have QR1 := hide' (quad_below QR0.out b)
  have QS1 := hide' (quad_below QS0.out b)
  clear b c0
  obtain ⟨i0, i1, i2, i3, _⟩ := QR1.out
  go_wp2_with fail
  refine (cQ.out _ B1.out).mono ?_
  rintro e x11 ⟨uu1, rfl, ho⟩
  clear i0 i1 i2 i3
  obtain ⟨ua1, uc1, _, _, hu, _⟩ := holdsF_parts (holdsF_own ho)
  subst hu
  have BA1 := hide' (bt' B1.out ho.2)
  have RA1 := hide' (quad_below QR1.out ho.2)
  have SA1 := hide' (quad_below QS1.out ho.2)
  have UA1 := hide' (holdsF_own ho)
  clear ho
  have bb := below_alloc' x11 (.cells #[.string ⟨m.toArray⟩, .string ⟨t.toArray⟩, .int .i64 k, .slice ua1 fs.length uc1] 34)
  have BB1 := hide' (bt' BA1.out bb)
  have RB1 := hide' (quad_below RA1.out bb)
  have SB1 := hide' (quad_below SA1.out bb)
  have UB1 := hide' (holdsF_mono UA1.out bb)
  have OB1 := hide' (quad_lit x11 (.string ⟨m.toArray⟩) (.string ⟨t.toArray⟩) (.int .i64 k) (.slice ua1 fs.length uc1) 34)
  clear bb
  obtain ⟨i0, i1, i2, i3, _⟩ := OB1.out
  go_wp2_with fail
  refine (pQ.out _ _ BB1.out UB1.out).mono ?_
  rintro e x21 ⟨pu1, rfl, ho⟩
  clear i0 i1 i2 i3
  have BC1 := hide' (bt' BB1.out ho.2)
  have RC1 := hide' (quad_below RB1.out ho.2)
  have SC1 := hide' (quad_below SB1.out ho.2)
  have UC1 := hide' (holdsF_mono UB1.out ho.2)
  have OC1 := hide' (quad_below OB1.out ho.2)
  have PC1 := hide' (holdsB_own ho)
  obtain ⟨pa1, pc1, hpu, _⟩ := holdsB_parts PC1.out
  subst hpu
  clear ho
  obtain ⟨i0, i1, i2, i3, _⟩ := RC1.out
  go_wp2_with fail
  refine (dQ.out _ BC1.out).mono ?_
  rintro e x31 ⟨qu1, rfl, hh, b⟩
  clear i0 i1 i2 i3
  have BD1 := hide' (bt' BC1.out b)
  have RD1 := hide' (quad_below RC1.out b)
  have SD1 := hide' (quad_below SC1.out b)
  have UD1 := hide' (holdsF_mono UC1.out b)
  have OD1 := hide' (quad_below OC1.out b)
  have PD1 := hide' (holdsB_mono PC1.out b)
  have DD1 := hide' hh
  obtain ⟨qa1, qc1, hqu, _⟩ := holdsB_parts DD1.out
  subst hqu
  clear hh b
  go_wp2_with fail
  refine (sameBe _ _ _ _ PD1.out DD1.out (by omega)).mono ?_
  rintro e x41 ⟨rfl, b⟩
  have BE1 := hide' (bt' BD1.out b)
  have RE1 := hide' (quad_below RD1.out b)
  have SE1 := hide' (quad_below SD1.out b)
  have UE1 := hide' (holdsF_mono UD1.out b)
  have OE1 := hide' (quad_below OD1.out b)
  clear b
  obtain ⟨i0, i1, i2, i3, _⟩ := OE1.out
  obtain ⟨k0, k1, k2, k3, _⟩ := RE1.out
  go_wp2_with fail
  refine (sameRq _ _ _ fs _ _ _ UE1.out (holdsF_mono HR.out BE1.out) (by omega)).mono ?_
  rintro e x51 ⟨rfl, b⟩
  clear i0 i1 i2 i3 k0 k1 k2 k3
  have BF1 := hide' (bt' BE1.out b)
  have QR2 := hide' (quad_below RE1.out b)
  have QS2 := hide' (quad_below SE1.out b)
  clear b
  obtain ⟨i0, i1, i2, i3, _⟩ := QS2.out
  go_wp2_with fail
  refine (cS.out _ BF1.out).mono ?_
  rintro e x12 ⟨uu2, rfl, ho⟩
  clear i0 i1 i2 i3
  obtain ⟨ua2, uc2, _, _, hu, _⟩ := holdsF_parts (holdsF_own ho)
  subst hu
  have BA2 := hide' (bt' BF1.out ho.2)
  have RA2 := hide' (quad_below QR2.out ho.2)
  have SA2 := hide' (quad_below QS2.out ho.2)
  have UA2 := hide' (holdsF_own ho)
  clear ho
  have bb := below_alloc' x12 (.cells #[.int .i64 s, .string ⟨r.toArray⟩, .int .i64 j, .slice ua2 gs.length uc2] 25)
  have BB2 := hide' (bt' BA2.out bb)
  have RB2 := hide' (quad_below RA2.out bb)
  have SB2 := hide' (quad_below SA2.out bb)
  have UB2 := hide' (holdsF_mono UA2.out bb)
  have OB2 := hide' (quad_lit x12 (.int .i64 s) (.string ⟨r.toArray⟩) (.int .i64 j) (.slice ua2 gs.length uc2) 25)
  clear bb
  obtain ⟨i0, i1, i2, i3, _⟩ := OB2.out
  go_wp2_with fail
  refine (pS.out _ _ BB2.out UB2.out).mono ?_
  rintro e x22 ⟨pu2, rfl, ho⟩
  clear i0 i1 i2 i3
  have BC2 := hide' (bt' BB2.out ho.2)
  have RC2 := hide' (quad_below RB2.out ho.2)
  have SC2 := hide' (quad_below SB2.out ho.2)
  have UC2 := hide' (holdsF_mono UB2.out ho.2)
  have OC2 := hide' (quad_below OB2.out ho.2)
  have PC2 := hide' (holdsB_own ho)
  obtain ⟨pa2, pc2, hpu, _⟩ := holdsB_parts PC2.out
  subst hpu
  clear ho
  obtain ⟨i0, i1, i2, i3, _⟩ := SC2.out
  go_wp2_with fail
  refine (dS.out _ BC2.out).mono ?_
  rintro e x32 ⟨qu2, rfl, hh, b⟩
  clear i0 i1 i2 i3
  have BD2 := hide' (bt' BC2.out b)
  have RD2 := hide' (quad_below RC2.out b)
  have SD2 := hide' (quad_below SC2.out b)
  have UD2 := hide' (holdsF_mono UC2.out b)
  have OD2 := hide' (quad_below OC2.out b)
  have PD2 := hide' (holdsB_mono PC2.out b)
  have DD2 := hide' hh
  obtain ⟨qa2, qc2, hqu, _⟩ := holdsB_parts DD2.out
  subst hqu
  clear hh b
  go_wp2_with fail
  refine (sameBe _ _ _ _ PD2.out DD2.out (by omega)).mono ?_
  rintro e x42 ⟨rfl, b⟩
  have BE2 := hide' (bt' BD2.out b)
  have RE2 := hide' (quad_below RD2.out b)
  have SE2 := hide' (quad_below SD2.out b)
  have UE2 := hide' (holdsF_mono UD2.out b)
  have OE2 := hide' (quad_below OD2.out b)
  clear b
  obtain ⟨i0, i1, i2, i3, _⟩ := OE2.out
  obtain ⟨k0, k1, k2, k3, _⟩ := SE2.out
  go_wp2_with fail
  refine (sameRs _ _ _ gs _ _ _ UE2.out (holdsF_mono HS.out BE2.out) (by omega)).mono ?_
  rintro e x52 ⟨rfl, b⟩
  clear i0 i1 i2 i3 k0 k1 k2 k3
  have BF2 := hide' (bt' BE2.out b)
  have QR3 := hide' (quad_below RE2.out b)
  have QS3 := hide' (quad_below SE2.out b)
  clear b
  go_wp2_with fail
  go_ret
  exact ⟨rfl, BF2.out⟩
theorem fit_bulk (fs : FL) (h : bulkF fs ≤ 1048576) : Fit fs := by
  intro f hf
  have := bulkF_mem fs f hf
  omega
theorem walk (m t : List UInt8) (k : Int) (fs : FL) (lv : Value) (s : Int) (r : List UInt8) (j : Int) (gs : FL) (lw : Value) (w : World) (h1 : HoldsF w lv fs) (h2 : HoldsF w lw gs)
    (hb1 : m.length + t.length + bulkF fs ≤ 1048576) (hb2 : r.length + bulkF gs ≤ 1048576) (hk : -9223372036854775808 ≤ k ∧ k ≤ 9223372036854775807) (E : Env w) (T : Tab w) :
    Calls Tryz.prog 4 #[.agg #[.string ⟨m.toArray⟩, .string ⟨t.toArray⟩, .int .i64 k, lv], .agg #[.int .i64 s, .string ⟨r.toArray⟩, .int .i64 j, lw]] w fun e w' => e = .returned (.bool true) ∧ Below w.heap.size w w' := by
  have a1 := bulkF_len fs
  have a2 := bulkF_len gs
  have p1 := print_bulk fs
  have p2 := print_bulk gs
  exact walk0 m t k fs lv s r j gs lw w h1 h2 (by omega) (by omega) hk (by omega) (fit_bulk fs (by omega)) (fit_bulk gs (by omega)) (by omega) (by omega) (by omega) (by omega) E T
end headPrints
end Go.Proofs.YtbbaajlabpjnlaaGreatDoor
