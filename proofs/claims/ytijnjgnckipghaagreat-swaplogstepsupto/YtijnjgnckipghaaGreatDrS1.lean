/- The contract of the document's Step, of the op 1. -/
import Derived.Test.YtijnjgnckipghaaGreatBdG
import Derived.Deep.RegionHeld3
import Derived.Deep.RegionWith
namespace Go.Proofs.YtijnjgnckipghaaGreat
open Go.RowKit
set_option maxRecDepth 20000 in
set_option maxHeartbeats 16000000 in
theorem step1RC {S : Nat → Prop} {w : World} (hS : ∀ k, S k → k < w.heap.size) {x0 x1 x2 x3 x4 x6 : Sl} {s : Dk} (h : RefV (mask S w) x0 x1 x2 x3 x4 x6 s) (hw : Wf s) (hB : Bd 80000000 s) (nm to : ByteArray) (da : Option Addr) (dl dc : Nat) (d : List UInt8) (hd : HoldsB w (.slice da dl dc) d) (hs : nm.size ≤ 140737488351232) (ht : to.size ≤ 140737488351232) (hdl : d.length ≤ 1000000000) (hfl : s.fails.length ≤ 1000000000) :
    Calls Tryz.prog 29 #[stV x0 x1 x2 x3 x4 x6 s.room s.power s.n, .agg #[.int .i64 1, .string nm, .string to, .slice da dl dc]] w fun e w' => StepR S s ⟨1, nm.data.toList, to.data.toList, d⟩ w e w' := by
  obtain ⟨a0, n0, c0⟩ := x0
  obtain ⟨a1, n1, c1⟩ := x1
  obtain ⟨a2, n2, c2⟩ := x2
  obtain ⟨a3, n3, c3⟩ := x3
  obtain ⟨a4, n4, c4⟩ := x4
  obtain ⟨a6, n6, c6⟩ := x6
  unfold stV
  dsimp only
  have FR := hide' (frm_start w (.slice a0 n0 c0) (.slice a1 n1 c1) (.slice a2 n2 c2) (.slice a3 n3 c3) (.slice a4 n4 c4) (.int .i64 s.room) (.slice a6 n6 c6) (.int .i64 s.power) (.int .i64 (s.n : Int)) (.int .i64 1) (.string nm) (.string to) (.slice da dl dc) (.slice none 0 0) (.slice none 0 0) (.slice none 0 0) (.slice none 0 0) (.slice none 0 0) (.int .i64 0) (.slice none 0 0) (.int .i64 0) (.int .i64 0) 38 83)
  have HQM := hide' h
  have HSS := hide' hS
  replace h := refV_sub h (mask_sub S w)
  have HR := hide' h
  have HW := hide' hw
  have HB := hide' hB
  have HD := hide' hd
  have HS := hide' hs
  have HT := hide' ht
  have HDL := hide' hdl
  obtain ⟨M, hM⟩ : ∃ M, M = s.n + 1 := ⟨_, rfl⟩
  have HM := hide' hM
  have hsn : s.n ≤ 80000000 := hB.1
  have qn : IntKind.i64.wrap ((s.n : Int) + 1) = (M : Int) := by rw [wrap_small _ (by omega) (by omega)]; omega
  have hMl : M ≤ 80000001 := by omega
  obtain ⟨e6, hc6⟩ := i_at h.fails
  replace e6 : n6 = s.fails.length := e6
  have HC6 := hide' hc6
  have E6 := hide' e6
  have hl6 : n6 ≤ 1000000000 := by omega
  clear h hw hB hd hs ht hdl hM hc6 e6 hfl
  go_enter Tryz.func29, Tryz.ntmps29
  go_wp2_with fail
  generalize ((w.alloc (.cells #[.slice a0 n0 c0, .slice a1 n1 c1, .slice a2 n2 c2, .slice a3 n3 c3, .slice a4 n4 c4, .int .i64 s.room, .slice a6 n6 c6, .int .i64 s.power, .int .i64 (s.n : Int)] 38)).alloc (.cells #[.int .i64 1, .string nm, .string to, .slice da dl dc] 83)).alloc (.cells #[.slice none 0 0, .slice none 0 0, .slice none 0 0, .slice none 0 0, .slice none 0 0, .int .i64 0, .slice none 0 0, .int .i64 0, .int .i64 0] 38) = W3 at FR ⊢
  have CD := hide' (downRC (s := s) (w := W3) (v := .agg #[.slice a0 n0 c0, .slice a1 n1 c1, .slice a2 n2 c2, .slice a3 n3 c3, .slice a4 n4 c4, .int .i64 s.room, .slice a6 n6 c6, .int .i64 s.power, .int .i64 (s.n : Int)]) ⟨⟨a0, n0, c0⟩, ⟨a1, n1, c1⟩, ⟨a2, n2, c2⟩, ⟨a3, n3, c3⟩, ⟨a4, n4, c4⟩, ⟨a6, n6, c6⟩, rfl, refV_mono HR.out FR.out.bel⟩)
  cases hdn : s.down with
  | true =>
    rw [hdn] at CD
    refine CD.out.mono ?_
    rintro e w4 ⟨rfl, hb4⟩
    have FR4 := hide' (frm_below FR.out hb4)
    clear CD hb4 FR
    obtain ⟨⟨p0, p1, p2, p3, p4, p5, p6, p7, p8⟩, pf0, pf1, pf2, pf3, pf4, pf5, pf6, pf7, pf8⟩ := cells_9a FR4.out.b0
    obtain ⟨⟨s0, s1, s2, s3, s4, s5, s6, s7, s8⟩, sf0, sf1, sf2, sf3, sf4, sf5, sf6, sf7, sf8⟩ := cells_9a FR4.out.b2
    go_wp2_with fail
    have qe := frm_end (S := S) (s' := s) (x0 := ⟨a0, n0, c0⟩) (x1 := ⟨a1, n1, c1⟩) (x2 := ⟨a2, n2, c2⟩) (x3 := ⟨a3, n3, c3⟩) (x4 := ⟨a4, n4, c4⟩) (x6 := ⟨a6, n6, c6⟩) (v0 := .slice a0 n0 c0) (v1 := .slice a1 n1 c1) (v2 := .slice a2 n2 c2) (v3 := .slice a3 n3 c3) (v4 := .slice a4 n4 c4) (v5 := .int .i64 s.room) (v6 := .slice a6 n6 c6) (v7 := .int .i64 s.power) (v8 := .int .i64 (s.n : Int)) FR4.out rfl (refV_sub HQM.out (old_sub FR4.out.bel))
    obtain ⟨qb, qr, ql⟩ := qe
    obtain ⟨q0, q1, q2, q3, q4, q5, q6, q7, q8⟩ := cells_9 qb
    simp only [putFrom] at q0 q1 q2 q3 q4 q5 q6 q7 q8
    exact bodyPost_ret (v := .tuple #[.agg #[.slice a0 n0 c0, .slice a1 n1 c1, .slice a2 n2 c2, .slice a3 n3 c3, .slice a4 n4 c4, .int .i64 s.room, .slice a6 n6 c6, .int .i64 s.power, .int .i64 (s.n : Int)], .int .i64 (93)]) (by simp [results, Tryz.results29, go_sem, q0, q1, q2, q3, q4, q5, q6, q7, q8]) rfl (stepR_mk (s' := s) (st_down _ hdn) ⟨a0, n0, c0⟩ ⟨a1, n1, c1⟩ ⟨a2, n2, c2⟩ ⟨a3, n3, c3⟩ ⟨a4, n4, c4⟩ ⟨a6, n6, c6⟩ qr ql _ _ _ rfl rfl rfl)
  | false =>
    rw [hdn] at CD
    have DN := hide' hdn
    clear hdn
    refine CD.out.mono ?_
    rintro e w4 ⟨rfl, hb4⟩
    have FR4 := hide' (frm_below FR.out hb4)
    have FR5 := hide' (frm_set FR4.out 8 (by simp) (.int .i64 (M : Int)))
    clear CD hb4 FR
    obtain ⟨⟨p0, p1, p2, p3, p4, p5, p6, p7, p8⟩, pf0, pf1, pf2, pf3, pf4, pf5, pf6, pf7, pf8⟩ := cells_9a FR4.out.b0
    go_wp2_with fail
    generalize w4.setCell ⟨w.heap.size, 8, none⟩ (.int .i64 (M : Int)) = w5 at FR5 ⊢
    simp only [List.set] at FR5
    clear FR4 p0 pf0 p1 pf1 p2 pf2 p3 pf3 p4 pf4 p5 pf5 p6 pf6 p7 pf7 p8 pf8
    go_loopw [6] (fun i wr => ∃ k : Nat, k ≤ n6 ∧ i = .int .i64 k ∧ Hid (∀ z ∈ s.fails.take k, z ≠ (M : Int)) ∧ Hid (Below w5.heap.size w5 wr)) (fun i _ => n6 - (intOf i).toNat)
    case atStart => exact ⟨0, by omega, rfl, fun z hz => by simp at hz, Below.refl _ _⟩
    case round =>
      obtain ⟨k, hk, rfl, NOT, HBl⟩ := hrel
      have FR6 := hide' (frm_below FR5.out HBl.out)
      obtain ⟨⟨p0, p1, p2, p3, p4, p5, p6, p7, p8⟩, pf0, pf1, pf2, pf3, pf4, pf5, pf6, pf7, pf8⟩ := cells_9a FR6.out.b0
      obtain ⟨⟨s0, s1, s2, s3, s4, s5, s6, s7, s8⟩, sf0, sf1, sf2, sf3, sf4, sf5, sf6, sf7, sf8⟩ := cells_9a FR6.out.b2
      obtain ⟨⟨r0, r1, r2, r3⟩, _⟩ := cells_4 FR6.out.b1
      by_cases hlt : k < n6
      · have hk' : k < s.fails.length := by rw [← E6.out]; exact hlt
        obtain ⟨b, off, rfl, hb, hcell⟩ := HC6.out (by omega)
        have y1 := hcell k hk'
        rw [← FR6.out.bel.cell (p := ⟨b, off + k, none⟩) hb] at y1
        have qk0 : (0 : Int) ≤ (k : Int) := by omega
        have qk1 : (k : Int) < (n6 : Int) := by omega
        by_cases he : s.fails[k]'hk' = (M : Int)
        · have HST := hide' (st_fault ⟨1, nm.data.toList, to.data.toList, d⟩ DN.out (fault_yes HM.out hk' he))
          have qf : ((s.fails[k]'hk') == (M : Int)) = true := by simpa using he
          generalize s.fails[k]'hk' = fz at y1 qf
          clear hcell he
          go_wp2_with fail
          go_quiet (fail)
          have FR7 := hide' (frm_below FR6.out (below_drewN wr nq))
          clear FR6 p0 p1 p2 p3 p4 p5 p6 p7 p8 s0 s1 s2 s3 s4 s5 s6 s7 s8 pf0 pf1 pf2 pf3 pf4 pf5 pf6 pf7 pf8 sf0 sf1 sf2 sf3 sf4 sf5 sf6 sf7 sf8
          generalize wr.drewN nq = w7 at FR7 ⊢
          obtain ⟨⟨p0, p1, p2, p3, p4, p5, p6, p7, p8⟩, pf0, pf1, pf2, pf3, pf4, pf5, pf6, pf7, pf8⟩ := cells_9a FR7.out.b0
          obtain ⟨⟨s0, s1, s2, s3, s4, s5, s6, s7, s8⟩, sf0, sf1, sf2, sf3, sf4, sf5, sf6, sf7, sf8⟩ := cells_9a FR7.out.b2
          go_wp2_with fail
          have qe := frm_end (S := S) (s' := { s with n := s.n + 1 }) (x0 := ⟨a0, n0, c0⟩) (x1 := ⟨a1, n1, c1⟩) (x2 := ⟨a2, n2, c2⟩) (x3 := ⟨a3, n3, c3⟩) (x4 := ⟨a4, n4, c4⟩) (x6 := ⟨some ⟨b, off, none⟩, n6, c6⟩) (v0 := .slice a0 n0 c0) (v1 := .slice a1 n1 c1) (v2 := .slice a2 n2 c2) (v3 := .slice a3 n3 c3) (v4 := .slice a4 n4 c4) (v5 := .int .i64 s.room) (v6 := .slice (some ⟨b, off, none⟩) n6 c6) (v7 := .int .i64 s.power) (v8 := .int .i64 (M : Int)) FR7.out rfl (refV_n (refV_sub HQM.out (old_sub FR7.out.bel)) (s.n + 1))
          obtain ⟨qb, qr, ql⟩ := qe
          obtain ⟨q0, q1, q2, q3, q4, q5, q6, q7, q8⟩ := cells_9 qb
          simp only [putFrom] at q0 q1 q2 q3 q4 q5 q6 q7 q8
          exact bodyPost_ret (v := .tuple #[.agg #[.slice a0 n0 c0, .slice a1 n1 c1, .slice a2 n2 c2, .slice a3 n3 c3, .slice a4 n4 c4, .int .i64 s.room, .slice (some ⟨b, off, none⟩) n6 c6, .int .i64 s.power, .int .i64 (M : Int)], .int .i64 (94)]) (by simp [results, Tryz.results29, go_sem, q0, q1, q2, q3, q4, q5, q6, q7, q8]) rfl (stepR_mk (s' := { s with n := s.n + 1 }) (HST.out) ⟨a0, n0, c0⟩ ⟨a1, n1, c1⟩ ⟨a2, n2, c2⟩ ⟨a3, n3, c3⟩ ⟨a4, n4, c4⟩ ⟨some ⟨b, off, none⟩, n6, c6⟩ qr ql _ _ _ rfl rfl HM.out)
        · have qf : ((s.fails[k]'hk') == (M : Int)) = false := by simpa using he
          have NOT2 := hide' (mem_take_succ (P := fun z : Int => z ≠ (M : Int)) hk' NOT.out he)
          generalize s.fails[k]'hk' = fz at y1 qf
          clear hcell he FR6
          go_wp2_with fail
          go_quiet (fail)
          go_wp2_with fail
          go_roundw
          case rel => exact ⟨k + 1, by omega, by go_num, NOT2, below_drawn HBl.out _⟩
          case measure => simp [intOf]; omega
      · have FT : Hid (s.fault = false) := fault_no HM.out (fun z hz => NOT.out z (by rw [List.take_of_length_le (by rw [← E6.out]; omega)]; exact hz))
        obtain ⟨wB, hwB⟩ : ∃ x, x = wr := ⟨_, rfl⟩
        subst hwB
        have CG := hide' (goodRC nm wB HS.out)
        cases hg : goodN nm.data.toList with
        | false =>
          rw [hg] at CG
          have HST := hide' (st_name ⟨1, nm.data.toList, to.data.toList, d⟩ DN.out FT.out (.inl ⟨by show (1 : Int) ≠ 4; decide, hg⟩))
          go_wp2_with fail
          refine CG.out.mono ?_
          rintro e w9 ⟨rfl, ew⟩
          rw [ew]
          clear ew w9
          go_wp2_with fail
          have qe := frm_end (S := S) (s' := { s with n := s.n + 1 }) (x0 := ⟨a0, n0, c0⟩) (x1 := ⟨a1, n1, c1⟩) (x2 := ⟨a2, n2, c2⟩) (x3 := ⟨a3, n3, c3⟩) (x4 := ⟨a4, n4, c4⟩) (x6 := ⟨a6, n6, c6⟩) (v0 := .slice a0 n0 c0) (v1 := .slice a1 n1 c1) (v2 := .slice a2 n2 c2) (v3 := .slice a3 n3 c3) (v4 := .slice a4 n4 c4) (v5 := .int .i64 s.room) (v6 := .slice a6 n6 c6) (v7 := .int .i64 s.power) (v8 := .int .i64 (M : Int)) FR6.out rfl (refV_n (refV_sub HQM.out (old_sub FR6.out.bel)) (s.n + 1))
          obtain ⟨qb, qr, ql⟩ := qe
          obtain ⟨q0, q1, q2, q3, q4, q5, q6, q7, q8⟩ := cells_9 qb
          simp only [putFrom] at q0 q1 q2 q3 q4 q5 q6 q7 q8
          exact bodyPost_ret (v := .tuple #[.agg #[.slice a0 n0 c0, .slice a1 n1 c1, .slice a2 n2 c2, .slice a3 n3 c3, .slice a4 n4 c4, .int .i64 s.room, .slice a6 n6 c6, .int .i64 s.power, .int .i64 (M : Int)], .int .i64 (95)]) (by simp [results, Tryz.results29, go_sem, q0, q1, q2, q3, q4, q5, q6, q7, q8]) rfl (stepR_mk (s' := { s with n := s.n + 1 }) (HST.out) ⟨a0, n0, c0⟩ ⟨a1, n1, c1⟩ ⟨a2, n2, c2⟩ ⟨a3, n3, c3⟩ ⟨a4, n4, c4⟩ ⟨a6, n6, c6⟩ qr ql _ _ _ rfl rfl HM.out)
        | true =>
          rw [hg] at CG
          have GN : Hid (¬ (((⟨1, nm.data.toList, to.data.toList, d⟩ : DOp).what ≠ 4 ∧ goodN (⟨1, nm.data.toList, to.data.toList, d⟩ : DOp).name = false) ∨ ((⟨1, nm.data.toList, to.data.toList, d⟩ : DOp).what = 5 ∧ goodN (⟨1, nm.data.toList, to.data.toList, d⟩ : DOp).to = false))) := by
            rintro (⟨h1, h2⟩ | ⟨h1, h2⟩)
            · rw [show (⟨1, nm.data.toList, to.data.toList, d⟩ : DOp).name = nm.data.toList from rfl, hg] at h2; cases h2
            · exact absurd h1 (by show ¬ (1 : Int) = 5; decide)
          go_wp2_with fail
          refine CG.out.mono ?_
          rintro e w9 ⟨rfl, ew⟩
          rw [ew]
          clear ew w9
          have CA := hide' (atRC (s := { s with n := M }) (w := wB) (v := .agg #[.slice a0 n0 c0, .slice a1 n1 c1, .slice a2 n2 c2, .slice a3 n3 c3, .slice a4 n4 c4, .int .i64 s.room, .slice a6 n6 c6, .int .i64 s.power, .int .i64 (M : Int)]) ⟨⟨a0, n0, c0⟩, ⟨a1, n1, c1⟩, ⟨a2, n2, c2⟩, ⟨a3, n3, c3⟩, ⟨a4, n4, c4⟩, ⟨a6, n6, c6⟩, rfl, refV_n (refV_mono HR.out FR6.out.bel) _⟩ nm (by have := HB.out.2.2.1; show s.now.length ≤ _; omega))
          replace CA : Hid (Calls Tryz.prog 63 #[.agg #[.slice a0 n0 c0, .slice a1 n1 c1, .slice a2 n2 c2, .slice a3 n3 c3, .slice a4 n4 c4, .int .i64 s.room, .slice a6 n6 c6, .int .i64 s.power, .int .i64 (M : Int)], .string nm] wB fun e w' => e = .returned (.int .i64 (atI s.now nm.data.toList)) ∧ Below wB.heap.size wB w') := CA
          go_wp2_with fail
          refine CA.out.mono ?_
          rintro e w10 ⟨rfl, hb10⟩
          have FRA := hide' (frm_below FR6.out hb10)
          clear CA hb10 FR6 HBl NOT p0 pf0 s0 sf0 p1 pf1 s1 sf1 p2 pf2 s2 sf2 p3 pf3 s3 sf3 p4 pf4 s4 sf4 p5 pf5 s5 sf5 p6 pf6 s6 sf6 p7 pf7 s7 sf7 p8 pf8 s8 sf8 r0 r1 r2 r3
          obtain ⟨⟨p0, p1, p2, p3, p4, p5, p6, p7, p8⟩, pf0, pf1, pf2, pf3, pf4, pf5, pf6, pf7, pf8⟩ := cells_9a FRA.out.b0
          obtain ⟨⟨s0, s1, s2, s3, s4, s5, s6, s7, s8⟩, sf0, sf1, sf2, sf3, sf4, sf5, sf6, sf7, sf8⟩ := cells_9a FRA.out.b2
          obtain ⟨⟨r0, r1, r2, r3⟩, _⟩ := cells_4 FRA.out.b1
          cases ha : atN s.now nm.data.toList with
          | none =>
            have EA : atI s.now nm.data.toList = -1 := by unfold atI; rw [ha]
            rw [EA]
            clear EA
            have HST := hide' (st_none ⟨1, nm.data.toList, to.data.toList, d⟩ DN.out FT.out GN.out ha)
            rw [if_pos (by show (1 : Int) = 1 ∨ (1 : Int) = 4; exact .inl rfl)] at HST
            obtain ⟨dvs, hd0, hd1, hd2, hd3, hd4⟩ := heldL_raw HQM.out.data
            replace hd2 : n3 = s.data.length := hd2
            replace hd3 : dvs.length = n3 := hd3
            replace hd0 : Held w (.slice a3 n3 c3) 1 n3 dvs := held_sub (mask_sub S w) hd0
            have DR := hide' hd0
            have DR1 := hide' hd1
            have DR2 := hide' hd2
            have DR3 := hide' hd3
            have DR4 := hide' hd4
            have hfi := held_of_I HR.out.firm
            have e4 : n4 = s.data.length := by have h9 := (i_at HR.out.firm).1; rw [firm_len HW.out] at h9; exact h9
            rw [firm_len HW.out, ← e4] at hfi
            have HFI : Hid (∀ Wx, Below w.heap.size w Wx → Held Wx (.slice a4 n4 c4) 1 n4 ((s.firm.map (fun n : Nat => (n : Int))).map I)) := fun Wx hb => held_mono hfi hb
            have E43 : Hid (n4 = n3) := by unfold Hid; omega
            have hn3 : n3 ≤ 80000000 := by have := HB.out.2.1; omega
            have hn4 : n4 ≤ 80000000 := by have := HB.out.2.1; omega
            clear hd0 hd1 hd2 hd3 hd4 hfi e4 ha
            obtain ⟨n3p, h3p⟩ : ∃ n, n = n3 + 1 := ⟨_, rfl⟩
            obtain ⟨n4p, h4p⟩ : ∃ n, n = n4 + 1 := ⟨_, rfl⟩
            have H3P := hide' h3p
            have H4P := hide' h4p
            clear h3p h4p
            have HLX : Hid (∀ w7 : World, Held ((w7.alloc (.cells #[] 5)).alloc (.cells #[.slice (some ⟨w7.heap.size, 0, none⟩) 0 0] 67)) (.slice (some ⟨w7.heap.size + 1, 0, none⟩) 1 1) 1 1 [.slice (some ⟨w7.heap.size, 0, none⟩) 0 0]) := fun w7 => by
              have h9 := held_lit (w7.alloc (.cells #[] 5)) #[.slice (some ⟨w7.heap.size, 0, none⟩) 0 0] 67 1 1 rfl
              rw [show (w7.alloc (.cells #[] 5)).heap.size = w7.heap.size + 1 by simp] at h9
              exact h9
            have HLY : Hid (∀ (W : World) (x : Value), Held ((W.setCell ⟨w.heap.size, 3, none⟩ x).alloc (.cells #[.int .i64 0] 3)) (.slice (some ⟨W.heap.size, 0, none⟩) 1 1) 1 1 [.int .i64 0]) := fun W x => by
              have h9 := held_lit (W.setCell ⟨w.heap.size, 3, none⟩ x) #[.int .i64 0] 3 1 1 rfl
              rw [show (W.setCell ⟨w.heap.size, 3, none⟩ x).heap.size = W.heap.size by simp] at h9
              exact h9
            have FIN1 : Hid (∀ v6 w6, w6.ownsRow (w.heap.size + 3) 67 1 v6 (0 + n3) ([] ++ dvs) → (w10.alloc (.cells #[] 67)).grownBy w6 (some w10.heap.size) → ∃ va vc, v6 = .slice va n3 vc ∧ Hid (w6.ownsRow (w.heap.size + 3) 67 1 (.slice va n3 vc) n3 dvs ∧ Frm w [.slice a0 n0 c0, .slice a1 n1 c1, .slice a2 n2 c2, .slice a3 n3 c3, .slice a4 n4 c4, .int .i64 s.room, .slice a6 n6 c6, .int .i64 s.power, .int .i64 (M : Int)] [.int .i64 1, .string nm, .string to, .slice da dl dc] [.slice none 0 0, .slice none 0 0, .slice none 0 0, .slice none 0 0, .slice none 0 0, .int .i64 0, .slice none 0 0, .int .i64 0, .int .i64 0] w6)) := fun v6 w6 r g => by
              rw [Nat.zero_add, List.nil_append] at r
              obtain ⟨va, vc, hv⟩ := row_slk r
              subst hv
              exact ⟨va, vc, rfl, r, frm_grown (frm_below FRA.out (below_alloc' _ _)) g (fun k e => by have := Option.some.inj e; have := FRA.out.b2.2; omega)⟩
            have FIN2 : Hid (∀ w6 va vc, w6.ownsRow (w.heap.size + 3) 67 1 (.slice va n3 vc) n3 dvs → Frm w [.slice a0 n0 c0, .slice a1 n1 c1, .slice a2 n2 c2, .slice a3 n3 c3, .slice a4 n4 c4, .int .i64 s.room, .slice a6 n6 c6, .int .i64 s.power, .int .i64 (M : Int)] [.int .i64 1, .string nm, .string to, .slice da dl dc] [.slice none 0 0, .slice none 0 0, .slice none 0 0, .slice none 0 0, .slice none 0 0, .int .i64 0, .slice none 0 0, .int .i64 0, .int .i64 0] w6 → ∀ v7 w7, w7.ownsRow (w.heap.size + 3) 3 1 v7 (0 + n4) ([] ++ ((s.firm.map (fun n : Nat => (n : Int))).map I)) → (w6.alloc (.cells #[] 3)).grownBy w7 (some w6.heap.size) → ∃ vb vd, v7 = .slice vb n4 vd ∧ Hid (w7.ownsRow (w.heap.size + 3) 3 1 (.slice vb n4 vd) n4 ((s.firm.map (fun n : Nat => (n : Int))).map I) ∧ w7.ownsRow (w.heap.size + 3) 67 1 (.slice va n3 vc) n3 dvs ∧ Frm w [.slice a0 n0 c0, .slice a1 n1 c1, .slice a2 n2 c2, .slice a3 n3 c3, .slice a4 n4 c4, .int .i64 s.room, .slice a6 n6 c6, .int .i64 s.power, .int .i64 (M : Int)] [.int .i64 1, .string nm, .string to, .slice da dl dc] [.slice none 0 0, .slice none 0 0, .slice none 0 0, .slice none 0 0, .slice none 0 0, .int .i64 0, .slice none 0 0, .int .i64 0, .int .i64 0] w7)) := fun w6 va vc rd fr v7 w7 r g => by
              rw [Nat.zero_add, List.nil_append] at r
              obtain ⟨vb, vd, hv⟩ := row_slk r
              subst hv
              have rd2 := row_below rd (below_alloc' w6 (.cells #[] 3))
              exact ⟨vb, vd, rfl, r, rd2.kept g (rows_apart rd2 (row_lit0 (base := w.heap.size + 3) 3 w6 1 (by have := fr.b2.2; omega)) (by decide)), frm_grown (frm_below fr (below_alloc' _ _)) g (fun k e => by have := Option.some.inj e; have := fr.b2.2; omega)⟩
            have FIN3 : Hid (∀ W w7 va vc vb vd (x : Value), Below w7.heap.size w7 W → w7.ownsRow (w.heap.size + 3) 67 1 (.slice va n3 vc) n3 dvs → w7.ownsRow (w.heap.size + 3) 3 1 (.slice vb n4 vd) n4 ((s.firm.map (fun n : Nat => (n : Int))).map I) → Frm w [.slice a0 n0 c0, .slice a1 n1 c1, .slice a2 n2 c2, .slice a3 n3 c3, .slice a4 n4 c4, .int .i64 s.room, .slice a6 n6 c6, .int .i64 s.power, .int .i64 (M : Int)] [.int .i64 1, .string nm, .string to, .slice da dl dc] [.slice none 0 0, .slice none 0 0, .slice none 0 0, .slice none 0 0, .slice none 0 0, .int .i64 0, .slice none 0 0, .int .i64 0, .int .i64 0] w7 → ∀ v8 w8, w8.ownsRow (w.heap.size + 3) 67 1 v8 (n3 + 1) (dvs ++ [x]) → W.grownBy w8 (Value.slice va n3 vc).ownBlock → ∃ ve vf, v8 = .slice ve n3p vf ∧ Hid (w8.ownsRow (w.heap.size + 3) 67 1 (.slice ve n3p vf) n3p (dvs ++ [x]) ∧ w8.ownsRow (w.heap.size + 3) 3 1 (.slice vb n4 vd) n4 ((s.firm.map (fun n : Nat => (n : Int))).map I) ∧ Frm w [.slice a0 n0 c0, .slice a1 n1 c1, .slice a2 n2 c2, .slice a3 n3 c3, .slice a4 n4 c4, .int .i64 s.room, .slice a6 n6 c6, .int .i64 s.power, .int .i64 (M : Int)] [.int .i64 1, .string nm, .string to, .slice da dl dc] [.slice none 0 0, .slice none 0 0, .slice none 0 0, .slice none 0 0, .slice none 0 0, .int .i64 0, .slice none 0 0, .int .i64 0, .int .i64 0] w8)) := fun W w7 va vc vb vd x hb rd ri fr v8 w8 r g => by
              rw [← H3P.out] at r
              obtain ⟨ve, vf, hv⟩ := row_slk r
              subst hv
              have rd2 := row_below rd hb
              have ri2 := row_below ri hb
              exact ⟨ve, vf, rfl, r, ri2.kept g (rows_apart ri2 rd2 (by decide)), frm_grown (frm_below fr hb) g (fun k e => (rd2.lt k e).1)⟩
            have FIN4 : Hid (∀ W wS vb vd ve vf (x : Value), Below wS.heap.size wS W → wS.ownsRow (w.heap.size + 3) 67 1 (.slice ve n3p vf) n3p (dvs ++ [x]) → wS.ownsRow (w.heap.size + 3) 3 1 (.slice vb n4 vd) n4 ((s.firm.map (fun n : Nat => (n : Int))).map I) → Frm w [.slice a0 n0 c0, .slice a1 n1 c1, .slice a2 n2 c2, .slice ve n3p vf, .slice a4 n4 c4, .int .i64 s.room, .slice a6 n6 c6, .int .i64 s.power, .int .i64 (M : Int)] [.int .i64 1, .string nm, .string to, .slice da dl dc] [.slice none 0 0, .slice none 0 0, .slice none 0 0, .slice none 0 0, .slice none 0 0, .int .i64 0, .slice none 0 0, .int .i64 0, .int .i64 0] wS → ∀ v9 w9, w9.ownsRow (w.heap.size + 3) 3 1 v9 (n4 + 1) (((s.firm.map (fun n : Nat => (n : Int))).map I) ++ [.int .i64 0]) → W.grownBy w9 (Value.slice vb n4 vd).ownBlock → ∃ vg vh, v9 = .slice vg n4p vh ∧ Hid (w9.ownsRow (w.heap.size + 3) 3 1 (.slice vg n4p vh) n4p (((s.firm.map (fun n : Nat => (n : Int))).map I) ++ [.int .i64 0]) ∧ w9.ownsRow (w.heap.size + 3) 67 1 (.slice ve n3p vf) n3p (dvs ++ [x]) ∧ Frm w [.slice a0 n0 c0, .slice a1 n1 c1, .slice a2 n2 c2, .slice ve n3p vf, .slice a4 n4 c4, .int .i64 s.room, .slice a6 n6 c6, .int .i64 s.power, .int .i64 (M : Int)] [.int .i64 1, .string nm, .string to, .slice da dl dc] [.slice none 0 0, .slice none 0 0, .slice none 0 0, .slice none 0 0, .slice none 0 0, .int .i64 0, .slice none 0 0, .int .i64 0, .int .i64 0] w9)) := fun W wS vb vd ve vf x hb rd ri fr v9 w9 r g => by
              rw [← H4P.out] at r
              obtain ⟨vg, vh, hv⟩ := row_slk r
              subst hv
              have rd2 := row_below rd hb
              have ri2 := row_below ri hb
              exact ⟨vg, vh, rfl, r, rd2.kept g (rows_apart rd2 ri2 (by decide)), frm_grown (frm_below fr hb) g (fun k e => (ri2.lt k e).1)⟩
            have pa3 := (cells_9 (frm_below FRA.out (below_alloc' w10 (.cells #[] 67))).b0).2.2.2.1
            have hlt0 : w.heap.size < w10.heap.size := FRA.out.b0.2
            go_wp2_with (first
              | (at_builtin; refine appRow rfl (.tmp 93) (.tmp 95) 36 67 (.slice none 0 0) 1 24 Tryz.underlying36 Tryz.info67 rfl (by decide) rfl (w.heap.size + 3) _ 0 [] rfl (by have := FRA.out.b2.2; simp; omega) (by exact row_lit0 _ w10 1 (by have := FRA.out.b2.2; omega)) _ n3 _ rfl (held_mono DR.out (by exact FRA.out.bel.trans ((below_alloc' _ _).mono FRA.out.bel.size))) DR1.out (by unfold maxLen; omega) (by omega) ?_; intro v6 w6 r6 g6; obtain ⟨va, vc, hv6, R6⟩ := FIN1.out v6 w6 r6 g6; clear r6 g6; subst hv6; clear p0 pf0 s0 sf0 p1 pf1 s1 sf1 p2 pf2 s2 sf2 p3 pf3 s3 sf3 p4 pf4 s4 sf4 p5 pf5 s5 sf5 p6 pf6 s6 sf6 p7 pf7 s7 sf7 p8 pf8 s8 sf8 r0 r1 r2 r3 pa3 hlt0; obtain ⟨⟨p0, p1, p2, p3, p4, p5, p6, p7, p8⟩, pf0, pf1, pf2, pf3, pf4, pf5, pf6, pf7, pf8⟩ := cells_9a R6.out.2.b0; obtain ⟨⟨s0, s1, s2, s3, s4, s5, s6, s7, s8⟩, sf0, sf1, sf2, sf3, sf4, sf5, sf6, sf7, sf8⟩ := cells_9a R6.out.2.b2; obtain ⟨⟨r0, r1, r2, r3⟩, _⟩ := cells_4 R6.out.2.b1; have pb4 := (cells_9 (frm_below R6.out.2 (below_alloc' w6 (.cells #[] 3))).b0).2.2.2.2.1; have hlt1 : w.heap.size < w6.heap.size := R6.out.2.b0.2)
              | (at_builtin; refine appRow rfl (.tmp 98) (.tmp 100) 23 3 (.int .i64 0) 1 8 Tryz.underlying23 Tryz.info3 rfl (by decide) rfl (w.heap.size + 3) _ 0 [] rfl (by have := R6.out.2.b2.2; simp; omega) (by exact row_lit0 _ w6 1 (by have := R6.out.2.b2.2; omega)) _ n4 _ rfl (HFI.out _ (by exact R6.out.2.bel.trans ((below_alloc' _ _).mono R6.out.2.bel.size))) (oneI _) (by unfold maxLen; omega) (by omega) ?_; intro v7 w7 r7 g7; obtain ⟨vb, vd, hv7, R7⟩ := FIN2.out w6 va vc R6.out.1 R6.out.2 v7 w7 r7 g7; clear r7 g7; subst hv7; clear p0 pf0 s0 sf0 p1 pf1 s1 sf1 p2 pf2 s2 sf2 p3 pf3 s3 sf3 p4 pf4 s4 sf4 p5 pf5 s5 sf5 p6 pf6 s6 sf6 p7 pf7 s7 sf7 p8 pf8 s8 sf8 r0 r1 r2 r3 pb4 hlt1; obtain ⟨⟨p0, p1, p2, p3, p4, p5, p6, p7, p8⟩, pf0, pf1, pf2, pf3, pf4, pf5, pf6, pf7, pf8⟩ := cells_9a R7.out.2.2.b0; obtain ⟨⟨s0, s1, s2, s3, s4, s5, s6, s7, s8⟩, sf0, sf1, sf2, sf3, sf4, sf5, sf6, sf7, sf8⟩ := cells_9a R7.out.2.2.b2; obtain ⟨⟨r0, r1, r2, r3⟩, _⟩ := cells_4 R7.out.2.2.b1)
              | (at_builtin; refine appRow rfl (.tmp 104) (.tmp 106) 36 67 (.slice none 0 0) 1 24 Tryz.underlying36 Tryz.info67 rfl (by decide) rfl (w.heap.size + 3) _ n3 _ rfl (by have := R7.out.2.2.b2.2; simp; omega) (by exact row_below R7.out.2.1 ((below_alloc' _ _).trans ((below_alloc' _ _).mono (below_alloc' _ _).size))) _ 1 [.slice (some ⟨w7.heap.size, 0, none⟩) 0 0] rfl (by exact HLX.out w7) (by intro x hx; simp at hx; subst hx; rfl) (by unfold maxLen; omega) (by omega) ?_; intro v8 w8 r8 g8; obtain ⟨ve, vf, hv8, R8⟩ := FIN3.out _ w7 va vc vb vd _ (by exact (below_alloc' _ _).trans ((below_alloc' _ _).mono (below_alloc' _ _).size)) R7.out.2.1 R7.out.1 R7.out.2.2 v8 w8 r8 g8; clear r8 g8; subst hv8; clear p0 pf0 s0 sf0 p1 pf1 s1 sf1 p2 pf2 s2 sf2 p3 pf3 s3 sf3 p4 pf4 s4 sf4 p5 pf5 s5 sf5 p6 pf6 s6 sf6 p7 pf7 s7 sf7 p8 pf8 s8 sf8 r0 r1 r2 r3; obtain ⟨⟨p0, p1, p2, p3, p4, p5, p6, p7, p8⟩, pf0, pf1, pf2, pf3, pf4, pf5, pf6, pf7, pf8⟩ := cells_9a R8.out.2.2.b0; obtain ⟨⟨s0, s1, s2, s3, s4, s5, s6, s7, s8⟩, sf0, sf1, sf2, sf3, sf4, sf5, sf6, sf7, sf8⟩ := cells_9a R8.out.2.2.b2; obtain ⟨⟨r0, r1, r2, r3⟩, _⟩ := cells_4 R8.out.2.2.b1; have FS0 := frm_set R8.out.2.2 3 (by simp) (.slice ve n3p vf); simp only [List.set] at FS0; have FS := hide' FS0; clear FS0; have RS1 := hide' (row_poke (b := w.heap.size) (o := 3) (x := .slice ve n3p vf) R8.out.1 (by omega)); have RS2 := hide' (row_poke (b := w.heap.size) (o := 3) (x := .slice ve n3p vf) R8.out.2.1 (by omega)))
              | (at_builtin; refine appRow rfl (.tmp 109) (.tmp 110) 23 3 (.int .i64 0) 1 8 Tryz.underlying23 Tryz.info3 rfl (by decide) rfl (w.heap.size + 3) _ n4 _ rfl (by have := FS.out.b2.2; simp at this ⊢; omega) (by exact row_below RS2.out (below_alloc' _ _)) _ 1 [.int .i64 0] rfl (by exact HLY.out w8 _) (by intro x hx; simp at hx; subst hx; rfl) (by unfold maxLen; omega) (by omega) ?_; intro v9 w9 r9 g9; obtain ⟨vg, vh, hv9, R9⟩ := FIN4.out _ _ vb vd ve vf _ (by exact below_alloc' _ _) RS1.out RS2.out FS.out v9 w9 r9 g9; clear r9 g9; subst hv9; clear p0 pf0 s0 sf0 p1 pf1 s1 sf1 p2 pf2 s2 sf2 p3 pf3 s3 sf3 p4 pf4 s4 sf4 p5 pf5 s5 sf5 p6 pf6 s6 sf6 p7 pf7 s7 sf7 p8 pf8 s8 sf8 r0 r1 r2 r3; obtain ⟨⟨p0, p1, p2, p3, p4, p5, p6, p7, p8⟩, pf0, pf1, pf2, pf3, pf4, pf5, pf6, pf7, pf8⟩ := cells_9a R9.out.2.2.b0; obtain ⟨⟨s0, s1, s2, s3, s4, s5, s6, s7, s8⟩, sf0, sf1, sf2, sf3, sf4, sf5, sf6, sf7, sf8⟩ := cells_9a R9.out.2.2.b2; obtain ⟨⟨r0, r1, r2, r3⟩, _⟩ := cells_4 R9.out.2.2.b1))
            have FE0 := frm_set R9.out.2.2 4 (by simp) (.slice vg n4p vh)
            simp only [List.set] at FE0
            have FRE := hide' FE0
            have RE1 := hide' (row_poke (b := w.heap.size) (o := 4) (x := .slice vg n4p vh) R9.out.1 (by omega))
            have RE2 := hide' (row_poke (b := w.heap.size) (o := 4) (x := .slice vg n4p vh) R9.out.2.1 (by omega))
            generalize w9.setCell ⟨w.heap.size, 4, none⟩ (.slice vg n4p vh) = wE at FRE RE1 RE2 ⊢
            clear FE0 p0 pf0 s0 sf0 p1 pf1 s1 sf1 p2 pf2 s2 sf2 p3 pf3 s3 sf3 p4 pf4 s4 sf4 p5 pf5 s5 sf5 p6 pf6 s6 sf6 p7 pf7 s7 sf7 p8 pf8 s8 sf8 r0 r1 r2 r3
            obtain ⟨⟨p0, p1, p2, p3, p4, p5, p6, p7, p8⟩, pf0, pf1, pf2, pf3, pf4, pf5, pf6, pf7, pf8⟩ := cells_9a FRE.out.b0
            obtain ⟨⟨s0, s1, s2, s3, s4, s5, s6, s7, s8⟩, sf0, sf1, sf2, sf3, sf4, sf5, sf6, sf7, sf8⟩ := cells_9a FRE.out.b2
            obtain ⟨⟨r0, r1, r2, r3⟩, _⟩ := cells_4 FRE.out.b1
            obtain ⟨vs, hraw, hraw1, hraw2, hraw3, hraw4⟩ := heldL_raw HQM.out.pend
            replace hraw2 : n2 = s.pend.length := hraw2
            replace hraw : Held w (.slice a2 n2 c2) 1 n2 vs := held_sub (mask_sub S w) hraw
            have RAW := hide' hraw
            have RW1 := hide' hraw1
            have RW2 := hide' hraw2
            have RW3 := hide' hraw3
            have RW4 := hide' hraw4
            clear hraw hraw1 hraw2 hraw3 hraw4
            have hne1 : ¬ (w.heap.size = w.heap.size + 1 + 1) := by omega
            have hne2 : ¬ (w.heap.size + 1 + 1 = w.heap.size) := by omega
            have KP : Hid (∀ Wx, Below wE.heap.size wE Wx → (Wx.cell? ⟨w.heap.size, 0, none⟩ = some (.slice a0 n0 c0) ∧ Wx.cell? ⟨w.heap.size, 1, none⟩ = some (.slice a1 n1 c1) ∧ Wx.cell? ⟨w.heap.size, 2, none⟩ = some (.slice a2 n2 c2) ∧ Wx.cell? ⟨w.heap.size, 3, none⟩ = some (.slice ve n3p vf) ∧ Wx.cell? ⟨w.heap.size, 4, none⟩ = some (.slice vg n4p vh) ∧ Wx.cell? ⟨w.heap.size, 5, none⟩ = some (.int .i64 s.room) ∧ Wx.cell? ⟨w.heap.size, 6, none⟩ = some (.slice a6 n6 c6) ∧ Wx.cell? ⟨w.heap.size, 7, none⟩ = some (.int .i64 s.power) ∧ Wx.cell? ⟨w.heap.size, 8, none⟩ = some (.int .i64 (M : Int)) ∧ Wx.cell? ⟨w.heap.size + 1, 1, none⟩ = some (.string nm) ∧ Wx.cell? ⟨w.heap.size + 1, 2, none⟩ = some (.string to)) ∧ (Wx.cell? ⟨w.heap.size + 2, 0, none⟩ = some (.slice none 0 0) ∧ Wx.cell? ⟨w.heap.size + 2, 1, none⟩ = some (.slice none 0 0) ∧ Wx.cell? ⟨w.heap.size + 2, 2, none⟩ = some (.slice none 0 0) ∧ Wx.cell? ⟨w.heap.size + 2, 3, none⟩ = some (.slice none 0 0) ∧ Wx.cell? ⟨w.heap.size + 2, 4, none⟩ = some (.slice none 0 0) ∧ Wx.cell? ⟨w.heap.size + 2, 5, none⟩ = some (.int .i64 0) ∧ Wx.cell? ⟨w.heap.size + 2, 6, none⟩ = some (.slice none 0 0) ∧ Wx.cell? ⟨w.heap.size + 2, 7, none⟩ = some (.int .i64 0) ∧ Wx.cell? ⟨w.heap.size + 2, 8, none⟩ = some (.int .i64 0) ∧ Wx.frozen? ⟨w.heap.size + 2, 0, none⟩ = false ∧ Wx.frozen? ⟨w.heap.size + 2, 1, none⟩ = false ∧ Wx.frozen? ⟨w.heap.size + 2, 2, none⟩ = false ∧ Wx.frozen? ⟨w.heap.size + 2, 3, none⟩ = false ∧ Wx.frozen? ⟨w.heap.size + 2, 4, none⟩ = false ∧ Wx.frozen? ⟨w.heap.size + 2, 5, none⟩ = false ∧ Wx.frozen? ⟨w.heap.size + 2, 6, none⟩ = false ∧ Wx.frozen? ⟨w.heap.size + 2, 7, none⟩ = false ∧ Wx.frozen? ⟨w.heap.size + 2, 8, none⟩ = false)) := fun Wx hb => by
              have f := frm_below FRE.out hb
              obtain ⟨h0, h1, h2, h3, h4, h5, h6, h7, h8⟩ := cells_9 f.b0
              obtain ⟨⟨_, g1, g2, _⟩, _⟩ := cells_4 f.b1
              obtain ⟨⟨j0, j1, j2, j3, j4, j5, j6, j7, j8⟩, f0, f1, f2, f3, f4, f5, f6, f7, f8⟩ := cells_9a f.b2
              exact ⟨⟨h0, h1, h2, h3, h4, h5, h6, h7, h8, g1, g2⟩, ⟨j0, j1, j2, j3, j4, j5, j6, j7, j8, f0, f1, f2, f3, f4, f5, f6, f7, f8⟩⟩
            have CN1 : Hid (∀ Wx, Below wE.heap.size wE Wx →  Calls Tryz.prog 65 #[.slice a0 n0 c0, .string nm, .int .i64 (n3 : Int)] Wx fun e w' => ∃ ya yn yc, e = .returned (.slice ya yn yc) ∧ Hid (Below wE.heap.size wE w' ∧ HoldsNm (mask (fun x => x < wE.heap.size) w') (.slice ya yn yc) (putN s.now nm.data.toList n3)) ∧ ((w'.cell? ⟨w.heap.size, 0, none⟩ = some (.slice a0 n0 c0) ∧ w'.cell? ⟨w.heap.size, 1, none⟩ = some (.slice a1 n1 c1) ∧ w'.cell? ⟨w.heap.size, 2, none⟩ = some (.slice a2 n2 c2) ∧ w'.cell? ⟨w.heap.size, 3, none⟩ = some (.slice ve n3p vf) ∧ w'.cell? ⟨w.heap.size, 4, none⟩ = some (.slice vg n4p vh) ∧ w'.cell? ⟨w.heap.size, 5, none⟩ = some (.int .i64 s.room) ∧ w'.cell? ⟨w.heap.size, 6, none⟩ = some (.slice a6 n6 c6) ∧ w'.cell? ⟨w.heap.size, 7, none⟩ = some (.int .i64 s.power) ∧ w'.cell? ⟨w.heap.size, 8, none⟩ = some (.int .i64 (M : Int)) ∧ w'.cell? ⟨w.heap.size + 1, 1, none⟩ = some (.string nm) ∧ w'.cell? ⟨w.heap.size + 1, 2, none⟩ = some (.string to)) ∧ (w'.cell? ⟨w.heap.size + 2, 0, none⟩ = some (.slice none 0 0) ∧ w'.cell? ⟨w.heap.size + 2, 1, none⟩ = some (.slice none 0 0) ∧ w'.cell? ⟨w.heap.size + 2, 2, none⟩ = some (.slice none 0 0) ∧ w'.cell? ⟨w.heap.size + 2, 3, none⟩ = some (.slice none 0 0) ∧ w'.cell? ⟨w.heap.size + 2, 4, none⟩ = some (.slice none 0 0) ∧ w'.cell? ⟨w.heap.size + 2, 5, none⟩ = some (.int .i64 0) ∧ w'.cell? ⟨w.heap.size + 2, 6, none⟩ = some (.slice none 0 0) ∧ w'.cell? ⟨w.heap.size + 2, 7, none⟩ = some (.int .i64 0) ∧ w'.cell? ⟨w.heap.size + 2, 8, none⟩ = some (.int .i64 0) ∧ w'.frozen? ⟨w.heap.size + 2, 0, none⟩ = false ∧ w'.frozen? ⟨w.heap.size + 2, 1, none⟩ = false ∧ w'.frozen? ⟨w.heap.size + 2, 2, none⟩ = false ∧ w'.frozen? ⟨w.heap.size + 2, 3, none⟩ = false ∧ w'.frozen? ⟨w.heap.size + 2, 4, none⟩ = false ∧ w'.frozen? ⟨w.heap.size + 2, 5, none⟩ = false ∧ w'.frozen? ⟨w.heap.size + 2, 6, none⟩ = false ∧ w'.frozen? ⟨w.heap.size + 2, 7, none⟩ = false ∧ w'.frozen? ⟨w.heap.size + 2, 8, none⟩ = false))) := fun Wx hb => by
              refine (namedRC _ _ nm (n3 : Int) n3 false (.inr ⟨rfl, rfl⟩) Wx (held_mono HR.out.now (FRE.out.bel.trans (hb.mono FRE.out.bel.size))) (by have := HB.out.2.2.1; omega)).mono ?_
              rintro e w' ⟨u, rfl, ho⟩
              obtain ⟨ya, yc, hu⟩ := ownNm_slice ho
              subst hu
              have hb2 := hb.trans (ho.2.mono hb.size)
              have hm := held_mask ho hb.size
              refine ⟨ya, _, yc, rfl, ⟨hb2, ?_⟩, KP.out w' hb2⟩
              have e9 : nmGo nm.data.toList n3 [] false (s.now) = putN s.now nm.data.toList n3 := nmGo_put _ _ _
              rw [e9] at hm ⊢
              exact hm
            have CR : Hid (∀ Wx ya yn yc, Below wE.heap.size wE Wx → HoldsNm (mask (fun x => x < wE.heap.size) Wx) (.slice ya yn yc) (putN s.now nm.data.toList n3) → Calls Tryz.prog 64 #[.agg #[.slice a0 n0 c0, .slice a1 n1 c1, .slice a2 n2 c2, .slice ve n3p vf, .slice vg n4p vh, .int .i64 s.room, .slice a6 n6 c6, .int .i64 s.power, .int .i64 (M : Int)], .slice ya yn yc] Wx fun e w' => ∃ za zn zc, e = .returned (.agg #[.slice ya yn yc, .slice a1 n1 c1, .slice za zn zc, .slice ve n3p vf, .slice vg n4p vh, .int .i64 s.room, .slice a6 n6 c6, .int .i64 s.power, .int .i64 (M : Int)]) ∧ Hid (Below wE.heap.size wE w' ∧ HoldsNm (mask (fun x => x < wE.heap.size) w') (.slice ya yn yc) (putN s.now nm.data.toList n3) ∧ Held (mask (fun x => x < wE.heap.size) w') (.slice za zn zc) 1 (n2 + 1) (vs ++ [.slice ya yn yc])) ∧ ((w'.cell? ⟨w.heap.size, 0, none⟩ = some (.slice a0 n0 c0) ∧ w'.cell? ⟨w.heap.size, 1, none⟩ = some (.slice a1 n1 c1) ∧ w'.cell? ⟨w.heap.size, 2, none⟩ = some (.slice a2 n2 c2) ∧ w'.cell? ⟨w.heap.size, 3, none⟩ = some (.slice ve n3p vf) ∧ w'.cell? ⟨w.heap.size, 4, none⟩ = some (.slice vg n4p vh) ∧ w'.cell? ⟨w.heap.size, 5, none⟩ = some (.int .i64 s.room) ∧ w'.cell? ⟨w.heap.size, 6, none⟩ = some (.slice a6 n6 c6) ∧ w'.cell? ⟨w.heap.size, 7, none⟩ = some (.int .i64 s.power) ∧ w'.cell? ⟨w.heap.size, 8, none⟩ = some (.int .i64 (M : Int)) ∧ w'.cell? ⟨w.heap.size + 1, 1, none⟩ = some (.string nm) ∧ w'.cell? ⟨w.heap.size + 1, 2, none⟩ = some (.string to)) ∧ (w'.cell? ⟨w.heap.size + 2, 0, none⟩ = some (.slice none 0 0) ∧ w'.cell? ⟨w.heap.size + 2, 1, none⟩ = some (.slice none 0 0) ∧ w'.cell? ⟨w.heap.size + 2, 2, none⟩ = some (.slice none 0 0) ∧ w'.cell? ⟨w.heap.size + 2, 3, none⟩ = some (.slice none 0 0) ∧ w'.cell? ⟨w.heap.size + 2, 4, none⟩ = some (.slice none 0 0) ∧ w'.cell? ⟨w.heap.size + 2, 5, none⟩ = some (.int .i64 0) ∧ w'.cell? ⟨w.heap.size + 2, 6, none⟩ = some (.slice none 0 0) ∧ w'.cell? ⟨w.heap.size + 2, 7, none⟩ = some (.int .i64 0) ∧ w'.cell? ⟨w.heap.size + 2, 8, none⟩ = some (.int .i64 0) ∧ w'.frozen? ⟨w.heap.size + 2, 0, none⟩ = false ∧ w'.frozen? ⟨w.heap.size + 2, 1, none⟩ = false ∧ w'.frozen? ⟨w.heap.size + 2, 2, none⟩ = false ∧ w'.frozen? ⟨w.heap.size + 2, 3, none⟩ = false ∧ w'.frozen? ⟨w.heap.size + 2, 4, none⟩ = false ∧ w'.frozen? ⟨w.heap.size + 2, 5, none⟩ = false ∧ w'.frozen? ⟨w.heap.size + 2, 6, none⟩ = false ∧ w'.frozen? ⟨w.heap.size + 2, 7, none⟩ = false ∧ w'.frozen? ⟨w.heap.size + 2, 8, none⟩ = false))) := fun Wx ya yn yc hb hy => by
              refine (renamedRC ⟨a0, n0, c0⟩ ⟨a1, n1, c1⟩ ⟨a2, n2, c2⟩ ⟨ve, n3p, vf⟩ ⟨vg, n4p, vh⟩ ⟨a6, n6, c6⟩ ⟨ya, yn, yc⟩ s.room s.power M vs Wx (held_mono RAW.out (FRE.out.bel.trans (hb.mono FRE.out.bel.size))) RW1.out (by have := RW2.out; have := HB.out.2.2.2.2.1; show n2 ≤ 900000000; omega)).mono ?_
              rintro e w' ⟨z, rfl, h1, h2⟩
              have hb2 := hb.trans (h2.mono hb.size)
              refine ⟨z.a, z.n, z.c, rfl, ⟨hb2, ?_, ?_⟩, KP.out w' hb2⟩
              · exact held_sub (off_mask (S := fun x => x < wE.heap.size) (S' := fun x => x < wE.heap.size) (off_of h2) (fun _ hk => .inl hk)) hy
              · exact held_sub (mask_mono (fun x hx => Nat.lt_of_lt_of_le hx hb.size)) h1
            go_wp2_with fail
            go_region_held3 (fun w' => w'.cell? ⟨w.heap.size, 0, none⟩ = some (.slice a0 n0 c0) ∧ w'.cell? ⟨w.heap.size, 1, none⟩ = some (.slice a1 n1 c1) ∧ w'.cell? ⟨w.heap.size, 2, none⟩ = some (.slice a2 n2 c2) ∧ w'.cell? ⟨w.heap.size, 3, none⟩ = some (.slice ve n3p vf) ∧ w'.cell? ⟨w.heap.size, 4, none⟩ = some (.slice vg n4p vh) ∧ w'.cell? ⟨w.heap.size, 5, none⟩ = some (.int .i64 s.room) ∧ w'.cell? ⟨w.heap.size, 6, none⟩ = some (.slice a6 n6 c6) ∧ w'.cell? ⟨w.heap.size, 7, none⟩ = some (.int .i64 s.power) ∧ w'.cell? ⟨w.heap.size, 8, none⟩ = some (.int .i64 (M : Int)) ∧ w'.cell? ⟨w.heap.size + 1, 1, none⟩ = some (.string nm) ∧ w'.cell? ⟨w.heap.size + 1, 2, none⟩ = some (.string to)) (go_keep)
              (first
                | (go_at_call 65; refine (CN1.out _ ?_).mono ?_; (first | exact (Below.refl _ _).drew | exact Below.refl _ _); rintro e w11 ⟨ya, yn, yc, rfl, B11, ⟨⟨k0, k1, k2, k3, k4, k5, k6, k7, k8, k9, k10⟩, ⟨j0, j1, j2, j3, j4, j5, j6, j7, j8, f0, f1, f2, f3, f4, f5, f6, f7, f8⟩⟩⟩)
                | (go_at_call 64; refine (CR.out _ _ _ _ B11.out.1 B11.out.2).mono ?_; rintro e w12 ⟨za, zn, zc, rfl, B12, ⟨⟨m0, k1, k2, k3, k4, k5, k6, k7, k8, k9, k10⟩, ⟨j0, j1, j2, j3, j4, j5, j6, j7, j8, f0, f1, f2, f3, f4, f5, f6, f7, f8⟩⟩⟩))
            have FMAP : Hid (((s.firm ++ [0]).map (fun n : Nat => (n : Int))).map I = ((s.firm.map (fun n : Nat => (n : Int))).map I) ++ [.int .i64 0]) := by unfold Hid; rw [List.map_append, List.map_append]; rfl
            all_goals
              have FRZ := hide' (frm_below FRE.out B12.out.1)
              have NSUB : Hid (Sub (mask (fun x => x < wE.heap.size) w12) (hidM S w w12)) := new_sub HSS.out (by have := FRE.out.b2.2; omega)
              go_wp2_with fail
              have qe := frm_end (S := S) (s' := ({ s with n := s.n + 1, data := s.data ++ [[]], firm := s.firm ++ [0] } : Dk).named (putN s.now nm.data.toList s.data.length)) (x0 := ⟨ya, yn, yc⟩) (x1 := ⟨a1, n1, c1⟩) (x2 := ⟨za, zn, zc⟩) (x3 := ⟨ve, n3p, vf⟩) (x4 := ⟨vg, n4p, vh⟩) (x6 := ⟨a6, n6, c6⟩) (v0 := .slice ya yn yc) (v1 := .slice a1 n1 c1) (v2 := .slice za zn zc) (v3 := .slice ve n3p vf) (v4 := .slice vg n4p vh) (v5 := .int .i64 s.room) (v6 := .slice a6 n6 c6) (v7 := .int .i64 s.power) (v8 := .int .i64 (M : Int)) FRZ.out rfl (⟨(by rw [← DR2.out]; exact held_sub NSUB.out B12.out.2.1), (refV_sub HQM.out (old_sub FRZ.out.bel)).safe, heldL_more nm_sub RW3.out RW2.out RW4.out (old_sub FRZ.out.bel) (held_sub NSUB.out B12.out.2.2) (by rw [← DR2.out]; exact held_sub NSUB.out B12.out.2.1), heldL_more by_sub DR3.out DR2.out DR4.out (old_sub FRZ.out.bel) (held_sub (new_sub (w := w) HSS.out (Nat.le_refl _)) (by have h9 := held_base (row_below RE2.out B12.out.1) (Nat.le_refl _); rw [H3P.out] at h9; rw [H3P.out]; exact h9)) ⟨_, 0, rfl, fun e => (by cases e), Nat.le_refl _, fun h => absurd rfl h⟩, held_to_I (zs := (s.firm ++ [0]).map (fun n : Nat => (n : Int))) (by rw [FMAP.out]; exact held_sub (new_sub (w := w) HSS.out (Nat.le_refl _)) (held_base (row_below RE1.out B12.out.1) (Nat.le_refl _))), (refV_sub HQM.out (old_sub FRZ.out.bel)).fails⟩)
              obtain ⟨qb, qr, ql⟩ := qe
              obtain ⟨q0, q1, q2, q3, q4, q5, q6, q7, q8⟩ := cells_9 qb
              simp only [putFrom] at q0 q1 q2 q3 q4 q5 q6 q7 q8
              exact bodyPost_ret (v := .tuple #[.agg #[.slice ya yn yc, .slice a1 n1 c1, .slice za zn zc, .slice ve n3p vf, .slice vg n4p vh, .int .i64 s.room, .slice a6 n6 c6, .int .i64 s.power, .int .i64 (M : Int)], .int .i64 (0)]) (by simp [results, Tryz.results29, go_sem, q0, q1, q2, q3, q4, q5, q6, q7, q8]) rfl (stepR_mk (s' := ({ s with n := s.n + 1, data := s.data ++ [[]], firm := s.firm ++ [0] } : Dk).named (putN s.now nm.data.toList s.data.length)) (by rw [HST.out]; rfl) ⟨ya, yn, yc⟩ ⟨a1, n1, c1⟩ ⟨za, zn, zc⟩ ⟨ve, n3p, vf⟩ ⟨vg, n4p, vh⟩ ⟨a6, n6, c6⟩ qr ql _ _ _ rfl rfl HM.out)
          | some kk =>
            have EA : atI s.now nm.data.toList = (kk : Int) := by unfold atI; rw [ha]
            rw [EA]
            clear EA
            have HST := hide' (st_some ⟨1, nm.data.toList, to.data.toList, d⟩ DN.out FT.out GN.out ha)
            have HKM := hide' (HW.out.now.2 _ (at_some ha))
            rw [if_pos (by show (1 : Int) = 1; rfl)] at HST
            go_wp2_with fail
            have qe := frm_end (S := S) (s' := { s with n := s.n + 1 }) (x0 := ⟨a0, n0, c0⟩) (x1 := ⟨a1, n1, c1⟩) (x2 := ⟨a2, n2, c2⟩) (x3 := ⟨a3, n3, c3⟩) (x4 := ⟨a4, n4, c4⟩) (x6 := ⟨a6, n6, c6⟩) (v0 := .slice a0 n0 c0) (v1 := .slice a1 n1 c1) (v2 := .slice a2 n2 c2) (v3 := .slice a3 n3 c3) (v4 := .slice a4 n4 c4) (v5 := .int .i64 s.room) (v6 := .slice a6 n6 c6) (v7 := .int .i64 s.power) (v8 := .int .i64 (M : Int)) FRA.out rfl (refV_n (refV_sub HQM.out (old_sub FRA.out.bel)) (s.n + 1))
            obtain ⟨qb, qr, ql⟩ := qe
            obtain ⟨q0, q1, q2, q3, q4, q5, q6, q7, q8⟩ := cells_9 qb
            simp only [putFrom] at q0 q1 q2 q3 q4 q5 q6 q7 q8
            exact bodyPost_ret (v := .tuple #[.agg #[.slice a0 n0 c0, .slice a1 n1 c1, .slice a2 n2 c2, .slice a3 n3 c3, .slice a4 n4 c4, .int .i64 s.room, .slice a6 n6 c6, .int .i64 s.power, .int .i64 (M : Int)], .int .i64 (91)]) (by simp [results, Tryz.results29, go_sem, q0, q1, q2, q3, q4, q5, q6, q7, q8]) rfl (stepR_mk (s' := { s with n := s.n + 1 }) (by rw [HST.out]) ⟨a0, n0, c0⟩ ⟨a1, n1, c1⟩ ⟨a2, n2, c2⟩ ⟨a3, n3, c3⟩ ⟨a4, n4, c4⟩ ⟨a6, n6, c6⟩ qr ql _ _ _ rfl rfl HM.out)
end Go.Proofs.YtijnjgnckipghaaGreat
