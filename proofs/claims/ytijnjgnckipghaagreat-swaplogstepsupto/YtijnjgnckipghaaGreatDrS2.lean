/- The contract of the document's Step, of the op 2. -/
import Derived.Test.YtijnjgnckipghaaGreatBdG
import Derived.Deep.RegionHeld3
import Derived.Deep.RegionWith
namespace Go.Proofs.YtijnjgnckipghaaGreat
open Go.RowKit
set_option maxRecDepth 20000 in
set_option maxHeartbeats 16000000 in
theorem step2RC {S : Nat → Prop} {w : World} (hS : ∀ k, S k → k < w.heap.size) {x0 x1 x2 x3 x4 x6 : Sl} {s : Dk} (h : RefV (mask S w) x0 x1 x2 x3 x4 x6 s) (hw : Wf s) (hB : Bd 80000000 s) (nm to : ByteArray) (da : Option Addr) (dl dc : Nat) (d : List UInt8) (hd : HoldsB w (.slice da dl dc) d) (hs : nm.size ≤ 140737488351232) (ht : to.size ≤ 140737488351232) (hdl : d.length ≤ 1000000000) (hfl : s.fails.length ≤ 1000000000) :
    Calls Tryz.prog 29 #[stV x0 x1 x2 x3 x4 x6 s.room s.power s.n, .agg #[.int .i64 2, .string nm, .string to, .slice da dl dc]] w fun e w' => StepR S s ⟨2, nm.data.toList, to.data.toList, d⟩ w e w' := by
  obtain ⟨a0, n0, c0⟩ := x0
  obtain ⟨a1, n1, c1⟩ := x1
  obtain ⟨a2, n2, c2⟩ := x2
  obtain ⟨a3, n3, c3⟩ := x3
  obtain ⟨a4, n4, c4⟩ := x4
  obtain ⟨a6, n6, c6⟩ := x6
  unfold stV
  dsimp only
  have FR := hide' (frm_start w (.slice a0 n0 c0) (.slice a1 n1 c1) (.slice a2 n2 c2) (.slice a3 n3 c3) (.slice a4 n4 c4) (.int .i64 s.room) (.slice a6 n6 c6) (.int .i64 s.power) (.int .i64 (s.n : Int)) (.int .i64 2) (.string nm) (.string to) (.slice da dl dc) (.slice none 0 0) (.slice none 0 0) (.slice none 0 0) (.slice none 0 0) (.slice none 0 0) (.int .i64 0) (.slice none 0 0) (.int .i64 0) (.int .i64 0) 38 83)
  have HQM := hide' h
  have HSS := hide' hS
  replace h := refV_sub h (mask_sub S w)
  have HR := hide' h
  have HW := hide' hw
  have HB := hide' hB
  have HD := hide' hd
  have HS := hide' hs
  have HT := hide' ht
  have HDL := hide' hdl
  obtain ⟨M, hM⟩ : ∃ M, M = s.n + 1 := ⟨_, rfl⟩
  have HM := hide' hM
  have hsn : s.n ≤ 80000000 := hB.1
  have qn : IntKind.i64.wrap ((s.n : Int) + 1) = (M : Int) := by rw [wrap_small _ (by omega) (by omega)]; omega
  have hMl : M ≤ 80000001 := by omega
  obtain ⟨e6, hc6⟩ := i_at h.fails
  replace e6 : n6 = s.fails.length := e6
  have HC6 := hide' hc6
  have E6 := hide' e6
  have hl6 : n6 ≤ 1000000000 := by omega
  clear h hw hB hd hs ht hdl hM hc6 e6 hfl
  go_enter Tryz.func29, Tryz.ntmps29
  go_wp2_with fail
  generalize ((w.alloc (.cells #[.slice a0 n0 c0, .slice a1 n1 c1, .slice a2 n2 c2, .slice a3 n3 c3, .slice a4 n4 c4, .int .i64 s.room, .slice a6 n6 c6, .int .i64 s.power, .int .i64 (s.n : Int)] 38)).alloc (.cells #[.int .i64 2, .string nm, .string to, .slice da dl dc] 83)).alloc (.cells #[.slice none 0 0, .slice none 0 0, .slice none 0 0, .slice none 0 0, .slice none 0 0, .int .i64 0, .slice none 0 0, .int .i64 0, .int .i64 0] 38) = W3 at FR ⊢
  have CD := hide' (downRC (s := s) (w := W3) (v := .agg #[.slice a0 n0 c0, .slice a1 n1 c1, .slice a2 n2 c2, .slice a3 n3 c3, .slice a4 n4 c4, .int .i64 s.room, .slice a6 n6 c6, .int .i64 s.power, .int .i64 (s.n : Int)]) ⟨⟨a0, n0, c0⟩, ⟨a1, n1, c1⟩, ⟨a2, n2, c2⟩, ⟨a3, n3, c3⟩, ⟨a4, n4, c4⟩, ⟨a6, n6, c6⟩, rfl, refV_mono HR.out FR.out.bel⟩)
  cases hdn : s.down with
  | true =>
    rw [hdn] at CD
    refine CD.out.mono ?_
    rintro e w4 ⟨rfl, hb4⟩
    have FR4 := hide' (frm_below FR.out hb4)
    clear CD hb4 FR
    obtain ⟨⟨p0, p1, p2, p3, p4, p5, p6, p7, p8⟩, pf0, pf1, pf2, pf3, pf4, pf5, pf6, pf7, pf8⟩ := cells_9a FR4.out.b0
    obtain ⟨⟨s0, s1, s2, s3, s4, s5, s6, s7, s8⟩, sf0, sf1, sf2, sf3, sf4, sf5, sf6, sf7, sf8⟩ := cells_9a FR4.out.b2
    go_wp2_with fail
    have qe := frm_end (S := S) (s' := s) (x0 := ⟨a0, n0, c0⟩) (x1 := ⟨a1, n1, c1⟩) (x2 := ⟨a2, n2, c2⟩) (x3 := ⟨a3, n3, c3⟩) (x4 := ⟨a4, n4, c4⟩) (x6 := ⟨a6, n6, c6⟩) (v0 := .slice a0 n0 c0) (v1 := .slice a1 n1 c1) (v2 := .slice a2 n2 c2) (v3 := .slice a3 n3 c3) (v4 := .slice a4 n4 c4) (v5 := .int .i64 s.room) (v6 := .slice a6 n6 c6) (v7 := .int .i64 s.power) (v8 := .int .i64 (s.n : Int)) FR4.out rfl (refV_sub HQM.out (old_sub FR4.out.bel))
    obtain ⟨qb, qr, ql⟩ := qe
    obtain ⟨q0, q1, q2, q3, q4, q5, q6, q7, q8⟩ := cells_9 qb
    simp only [putFrom] at q0 q1 q2 q3 q4 q5 q6 q7 q8
    exact bodyPost_ret (v := .tuple #[.agg #[.slice a0 n0 c0, .slice a1 n1 c1, .slice a2 n2 c2, .slice a3 n3 c3, .slice a4 n4 c4, .int .i64 s.room, .slice a6 n6 c6, .int .i64 s.power, .int .i64 (s.n : Int)], .int .i64 (93)]) (by simp [results, Tryz.results29, go_sem, q0, q1, q2, q3, q4, q5, q6, q7, q8]) rfl (stepR_mk (s' := s) (st_down _ hdn) ⟨a0, n0, c0⟩ ⟨a1, n1, c1⟩ ⟨a2, n2, c2⟩ ⟨a3, n3, c3⟩ ⟨a4, n4, c4⟩ ⟨a6, n6, c6⟩ qr ql _ _ _ rfl rfl rfl)
  | false =>
    rw [hdn] at CD
    have DN := hide' hdn
    clear hdn
    refine CD.out.mono ?_
    rintro e w4 ⟨rfl, hb4⟩
    have FR4 := hide' (frm_below FR.out hb4)
    have FR5 := hide' (frm_set FR4.out 8 (by simp) (.int .i64 (M : Int)))
    clear CD hb4 FR
    obtain ⟨⟨p0, p1, p2, p3, p4, p5, p6, p7, p8⟩, pf0, pf1, pf2, pf3, pf4, pf5, pf6, pf7, pf8⟩ := cells_9a FR4.out.b0
    go_wp2_with fail
    generalize w4.setCell ⟨w.heap.size, 8, none⟩ (.int .i64 (M : Int)) = w5 at FR5 ⊢
    simp only [List.set] at FR5
    clear FR4 p0 pf0 p1 pf1 p2 pf2 p3 pf3 p4 pf4 p5 pf5 p6 pf6 p7 pf7 p8 pf8
    go_loopw [6] (fun i wr => ∃ k : Nat, k ≤ n6 ∧ i = .int .i64 k ∧ Hid (∀ z ∈ s.fails.take k, z ≠ (M : Int)) ∧ Hid (Below w5.heap.size w5 wr)) (fun i _ => n6 - (intOf i).toNat)
    case atStart => exact ⟨0, by omega, rfl, fun z hz => by simp at hz, Below.refl _ _⟩
    case round =>
      obtain ⟨k, hk, rfl, NOT, HBl⟩ := hrel
      have FR6 := hide' (frm_below FR5.out HBl.out)
      obtain ⟨⟨p0, p1, p2, p3, p4, p5, p6, p7, p8⟩, pf0, pf1, pf2, pf3, pf4, pf5, pf6, pf7, pf8⟩ := cells_9a FR6.out.b0
      obtain ⟨⟨s0, s1, s2, s3, s4, s5, s6, s7, s8⟩, sf0, sf1, sf2, sf3, sf4, sf5, sf6, sf7, sf8⟩ := cells_9a FR6.out.b2
      obtain ⟨⟨r0, r1, r2, r3⟩, _⟩ := cells_4 FR6.out.b1
      by_cases hlt : k < n6
      · have hk' : k < s.fails.length := by rw [← E6.out]; exact hlt
        obtain ⟨b, off, rfl, hb, hcell⟩ := HC6.out (by omega)
        have y1 := hcell k hk'
        rw [← FR6.out.bel.cell (p := ⟨b, off + k, none⟩) hb] at y1
        have qk0 : (0 : Int) ≤ (k : Int) := by omega
        have qk1 : (k : Int) < (n6 : Int) := by omega
        by_cases he : s.fails[k]'hk' = (M : Int)
        · have HST := hide' (st_fault ⟨2, nm.data.toList, to.data.toList, d⟩ DN.out (fault_yes HM.out hk' he))
          have qf : ((s.fails[k]'hk') == (M : Int)) = true := by simpa using he
          generalize s.fails[k]'hk' = fz at y1 qf
          clear hcell he
          go_wp2_with fail
          go_quiet (fail)
          have FR7 := hide' (frm_below FR6.out (below_drewN wr nq))
          clear FR6 p0 p1 p2 p3 p4 p5 p6 p7 p8 s0 s1 s2 s3 s4 s5 s6 s7 s8 pf0 pf1 pf2 pf3 pf4 pf5 pf6 pf7 pf8 sf0 sf1 sf2 sf3 sf4 sf5 sf6 sf7 sf8
          generalize wr.drewN nq = w7 at FR7 ⊢
          obtain ⟨⟨p0, p1, p2, p3, p4, p5, p6, p7, p8⟩, pf0, pf1, pf2, pf3, pf4, pf5, pf6, pf7, pf8⟩ := cells_9a FR7.out.b0
          obtain ⟨⟨s0, s1, s2, s3, s4, s5, s6, s7, s8⟩, sf0, sf1, sf2, sf3, sf4, sf5, sf6, sf7, sf8⟩ := cells_9a FR7.out.b2
          go_wp2_with fail
          have qe := frm_end (S := S) (s' := { s with n := s.n + 1 }) (x0 := ⟨a0, n0, c0⟩) (x1 := ⟨a1, n1, c1⟩) (x2 := ⟨a2, n2, c2⟩) (x3 := ⟨a3, n3, c3⟩) (x4 := ⟨a4, n4, c4⟩) (x6 := ⟨some ⟨b, off, none⟩, n6, c6⟩) (v0 := .slice a0 n0 c0) (v1 := .slice a1 n1 c1) (v2 := .slice a2 n2 c2) (v3 := .slice a3 n3 c3) (v4 := .slice a4 n4 c4) (v5 := .int .i64 s.room) (v6 := .slice (some ⟨b, off, none⟩) n6 c6) (v7 := .int .i64 s.power) (v8 := .int .i64 (M : Int)) FR7.out rfl (refV_n (refV_sub HQM.out (old_sub FR7.out.bel)) (s.n + 1))
          obtain ⟨qb, qr, ql⟩ := qe
          obtain ⟨q0, q1, q2, q3, q4, q5, q6, q7, q8⟩ := cells_9 qb
          simp only [putFrom] at q0 q1 q2 q3 q4 q5 q6 q7 q8
          exact bodyPost_ret (v := .tuple #[.agg #[.slice a0 n0 c0, .slice a1 n1 c1, .slice a2 n2 c2, .slice a3 n3 c3, .slice a4 n4 c4, .int .i64 s.room, .slice (some ⟨b, off, none⟩) n6 c6, .int .i64 s.power, .int .i64 (M : Int)], .int .i64 (94)]) (by simp [results, Tryz.results29, go_sem, q0, q1, q2, q3, q4, q5, q6, q7, q8]) rfl (stepR_mk (s' := { s with n := s.n + 1 }) (HST.out) ⟨a0, n0, c0⟩ ⟨a1, n1, c1⟩ ⟨a2, n2, c2⟩ ⟨a3, n3, c3⟩ ⟨a4, n4, c4⟩ ⟨some ⟨b, off, none⟩, n6, c6⟩ qr ql _ _ _ rfl rfl HM.out)
        · have qf : ((s.fails[k]'hk') == (M : Int)) = false := by simpa using he
          have NOT2 := hide' (mem_take_succ (P := fun z : Int => z ≠ (M : Int)) hk' NOT.out he)
          generalize s.fails[k]'hk' = fz at y1 qf
          clear hcell he FR6
          go_wp2_with fail
          go_quiet (fail)
          go_wp2_with fail
          go_roundw
          case rel => exact ⟨k + 1, by omega, by go_num, NOT2, below_drawn HBl.out _⟩
          case measure => simp [intOf]; omega
      · have FT : Hid (s.fault = false) := fault_no HM.out (fun z hz => NOT.out z (by rw [List.take_of_length_le (by rw [← E6.out]; omega)]; exact hz))
        obtain ⟨wB, hwB⟩ : ∃ x, x = wr := ⟨_, rfl⟩
        subst hwB
        have CG := hide' (goodRC nm wB HS.out)
        cases hg : goodN nm.data.toList with
        | false =>
          rw [hg] at CG
          have HST := hide' (st_name ⟨2, nm.data.toList, to.data.toList, d⟩ DN.out FT.out (.inl ⟨by show (2 : Int) ≠ 4; decide, hg⟩))
          go_wp2_with fail
          refine CG.out.mono ?_
          rintro e w9 ⟨rfl, ew⟩
          rw [ew]
          clear ew w9
          go_wp2_with fail
          have qe := frm_end (S := S) (s' := { s with n := s.n + 1 }) (x0 := ⟨a0, n0, c0⟩) (x1 := ⟨a1, n1, c1⟩) (x2 := ⟨a2, n2, c2⟩) (x3 := ⟨a3, n3, c3⟩) (x4 := ⟨a4, n4, c4⟩) (x6 := ⟨a6, n6, c6⟩) (v0 := .slice a0 n0 c0) (v1 := .slice a1 n1 c1) (v2 := .slice a2 n2 c2) (v3 := .slice a3 n3 c3) (v4 := .slice a4 n4 c4) (v5 := .int .i64 s.room) (v6 := .slice a6 n6 c6) (v7 := .int .i64 s.power) (v8 := .int .i64 (M : Int)) FR6.out rfl (refV_n (refV_sub HQM.out (old_sub FR6.out.bel)) (s.n + 1))
          obtain ⟨qb, qr, ql⟩ := qe
          obtain ⟨q0, q1, q2, q3, q4, q5, q6, q7, q8⟩ := cells_9 qb
          simp only [putFrom] at q0 q1 q2 q3 q4 q5 q6 q7 q8
          exact bodyPost_ret (v := .tuple #[.agg #[.slice a0 n0 c0, .slice a1 n1 c1, .slice a2 n2 c2, .slice a3 n3 c3, .slice a4 n4 c4, .int .i64 s.room, .slice a6 n6 c6, .int .i64 s.power, .int .i64 (M : Int)], .int .i64 (95)]) (by simp [results, Tryz.results29, go_sem, q0, q1, q2, q3, q4, q5, q6, q7, q8]) rfl (stepR_mk (s' := { s with n := s.n + 1 }) (HST.out) ⟨a0, n0, c0⟩ ⟨a1, n1, c1⟩ ⟨a2, n2, c2⟩ ⟨a3, n3, c3⟩ ⟨a4, n4, c4⟩ ⟨a6, n6, c6⟩ qr ql _ _ _ rfl rfl HM.out)
        | true =>
          rw [hg] at CG
          have GN : Hid (¬ (((⟨2, nm.data.toList, to.data.toList, d⟩ : DOp).what ≠ 4 ∧ goodN (⟨2, nm.data.toList, to.data.toList, d⟩ : DOp).name = false) ∨ ((⟨2, nm.data.toList, to.data.toList, d⟩ : DOp).what = 5 ∧ goodN (⟨2, nm.data.toList, to.data.toList, d⟩ : DOp).to = false))) := by
            rintro (⟨h1, h2⟩ | ⟨h1, h2⟩)
            · rw [show (⟨2, nm.data.toList, to.data.toList, d⟩ : DOp).name = nm.data.toList from rfl, hg] at h2; cases h2
            · exact absurd h1 (by show ¬ (2 : Int) = 5; decide)
          go_wp2_with fail
          refine CG.out.mono ?_
          rintro e w9 ⟨rfl, ew⟩
          rw [ew]
          clear ew w9
          have CA := hide' (atRC (s := { s with n := M }) (w := wB) (v := .agg #[.slice a0 n0 c0, .slice a1 n1 c1, .slice a2 n2 c2, .slice a3 n3 c3, .slice a4 n4 c4, .int .i64 s.room, .slice a6 n6 c6, .int .i64 s.power, .int .i64 (M : Int)]) ⟨⟨a0, n0, c0⟩, ⟨a1, n1, c1⟩, ⟨a2, n2, c2⟩, ⟨a3, n3, c3⟩, ⟨a4, n4, c4⟩, ⟨a6, n6, c6⟩, rfl, refV_n (refV_mono HR.out FR6.out.bel) _⟩ nm (by have := HB.out.2.2.1; show s.now.length ≤ _; omega))
          replace CA : Hid (Calls Tryz.prog 63 #[.agg #[.slice a0 n0 c0, .slice a1 n1 c1, .slice a2 n2 c2, .slice a3 n3 c3, .slice a4 n4 c4, .int .i64 s.room, .slice a6 n6 c6, .int .i64 s.power, .int .i64 (M : Int)], .string nm] wB fun e w' => e = .returned (.int .i64 (atI s.now nm.data.toList)) ∧ Below wB.heap.size wB w') := CA
          go_wp2_with fail
          refine CA.out.mono ?_
          rintro e w10 ⟨rfl, hb10⟩
          have FRA := hide' (frm_below FR6.out hb10)
          clear CA hb10 FR6 HBl NOT p0 pf0 s0 sf0 p1 pf1 s1 sf1 p2 pf2 s2 sf2 p3 pf3 s3 sf3 p4 pf4 s4 sf4 p5 pf5 s5 sf5 p6 pf6 s6 sf6 p7 pf7 s7 sf7 p8 pf8 s8 sf8 r0 r1 r2 r3
          obtain ⟨⟨p0, p1, p2, p3, p4, p5, p6, p7, p8⟩, pf0, pf1, pf2, pf3, pf4, pf5, pf6, pf7, pf8⟩ := cells_9a FRA.out.b0
          obtain ⟨⟨s0, s1, s2, s3, s4, s5, s6, s7, s8⟩, sf0, sf1, sf2, sf3, sf4, sf5, sf6, sf7, sf8⟩ := cells_9a FRA.out.b2
          obtain ⟨⟨r0, r1, r2, r3⟩, _⟩ := cells_4 FRA.out.b1
          cases ha : atN s.now nm.data.toList with
          | none =>
            have EA : atI s.now nm.data.toList = -1 := by unfold atI; rw [ha]
            rw [EA]
            clear EA
            have HST := hide' (st_none ⟨2, nm.data.toList, to.data.toList, d⟩ DN.out FT.out GN.out ha)
            rw [if_neg (by show ¬ ((2 : Int) = 1 ∨ (2 : Int) = 4); decide)] at HST
            go_wp2_with fail
            have qe := frm_end (S := S) (s' := { s with n := s.n + 1 }) (x0 := ⟨a0, n0, c0⟩) (x1 := ⟨a1, n1, c1⟩) (x2 := ⟨a2, n2, c2⟩) (x3 := ⟨a3, n3, c3⟩) (x4 := ⟨a4, n4, c4⟩) (x6 := ⟨a6, n6, c6⟩) (v0 := .slice a0 n0 c0) (v1 := .slice a1 n1 c1) (v2 := .slice a2 n2 c2) (v3 := .slice a3 n3 c3) (v4 := .slice a4 n4 c4) (v5 := .int .i64 s.room) (v6 := .slice a6 n6 c6) (v7 := .int .i64 s.power) (v8 := .int .i64 (M : Int)) FRA.out rfl (refV_n (refV_sub HQM.out (old_sub FRA.out.bel)) (s.n + 1))
            obtain ⟨qb, qr, ql⟩ := qe
            obtain ⟨q0, q1, q2, q3, q4, q5, q6, q7, q8⟩ := cells_9 qb
            simp only [putFrom] at q0 q1 q2 q3 q4 q5 q6 q7 q8
            exact bodyPost_ret (v := .tuple #[.agg #[.slice a0 n0 c0, .slice a1 n1 c1, .slice a2 n2 c2, .slice a3 n3 c3, .slice a4 n4 c4, .int .i64 s.room, .slice a6 n6 c6, .int .i64 s.power, .int .i64 (M : Int)], .int .i64 (90)]) (by simp [results, Tryz.results29, go_sem, q0, q1, q2, q3, q4, q5, q6, q7, q8]) rfl (stepR_mk (s' := { s with n := s.n + 1 }) (by rw [HST.out]) ⟨a0, n0, c0⟩ ⟨a1, n1, c1⟩ ⟨a2, n2, c2⟩ ⟨a3, n3, c3⟩ ⟨a4, n4, c4⟩ ⟨a6, n6, c6⟩ qr ql _ _ _ rfl rfl HM.out)
          | some kk =>
            have EA : atI s.now nm.data.toList = (kk : Int) := by unfold atI; rw [ha]
            rw [EA]
            clear EA
            have HST := hide' (st_some ⟨2, nm.data.toList, to.data.toList, d⟩ DN.out FT.out GN.out ha)
            have HKM := hide' (HW.out.now.2 _ (at_some ha))
            rw [if_neg (by show ¬ (2 : Int) = 1; decide)] at HST
            obtain ⟨dvs, hd0, hd1, hd2, hd3, hd4⟩ := heldL_raw HQM.out.data
            replace hd2 : n3 = s.data.length := hd2
            replace hd3 : dvs.length = n3 := hd3
            replace hd0 : Held w (.slice a3 n3 c3) 1 n3 dvs := held_sub (mask_sub S w) hd0
            have hkd : kk < dvs.length := by have := HKM.out.1; omega
            obtain ⟨hBk, ua, un, uc, hdk⟩ := hd4 kk (dvs[kk]'hkd) (s.data[kk]'HKM.out.1) (by simp [hkd]) (by simp [HKM.out.1])
            have eg : s.data.getD kk [] = s.data[kk]'HKM.out.1 := by simp [List.getD, HKM.out.1]
            rw [hdk, ← eg] at hBk
            replace hBk := holdsB_sub (mask_sub S w) hBk
            have DK : Hid (dvs[kk]? = some (.slice ua un uc)) := by unfold Hid; rw [List.getElem?_eq_getElem hkd, hdk]
            have DR := hide' hd0
            have DR1 := hide' hd1
            have DR2 := hide' hd2
            have DR3 := hide' hd3
            have DR4 := hide' hd4
            have HBK := hide' hBk
            have HDR0 := held_of_B HD.out
            have hdl2 : dl = d.length := hold_len HD.out
            rw [← hdl2] at HDR0
            have HDR := hide' HDR0
            have hdl3 : dl ≤ 1000000000 := by rw [hdl2]; exact HDL.out
            have HD2 := hide' hdl2
            have hn3 : n3 ≤ 80000000 := by have := HB.out.2.1; omega
            have hkk : kk < n3 := by have := HKM.out.1; omega
            have qk0 : (0 : Int) ≤ (kk : Int) := by omega
            have qk3 : (kk : Int) < (n3 : Int) := by omega
            have US : Hid (s.used ≤ 10000000000000000) := used_bd8 HB.out
            clear hd0 hd1 hd2 hd3 hd4 hBk HDR0 hdl2 hkd hdk eg
            by_cases hz : dl = 0
            · have HA2 := hide' (act2_ok { s with n := s.n + 1 } nm.data.toList to.data.toList d kk (fun h => h.1 (List.eq_nil_of_length_eq_zero (by rw [← HD2.out]; exact hz))))
              have qz : decide ((0 : Int) < (dl : Int)) = false := by simp; omega
              have qz3 : decide (0 < dl) = false := by simp; omega
              clear hz
              go_wp2_with fail
              go_quiet (fail)
              have FRX := hide' (frm_below FRA.out (below_drewN w10 nq))
              clear FRA p0 pf0 s0 sf0 p1 pf1 s1 sf1 p2 pf2 s2 sf2 p3 pf3 s3 sf3 p4 pf4 s4 sf4 p5 pf5 s5 sf5 p6 pf6 s6 sf6 p7 pf7 s7 sf7 p8 pf8 s8 sf8 r0 r1 r2 r3
              generalize w10.drewN nq = wX at FRX ⊢
              obtain ⟨⟨p0, p1, p2, p3, p4, p5, p6, p7, p8⟩, pf0, pf1, pf2, pf3, pf4, pf5, pf6, pf7, pf8⟩ := cells_9a FRX.out.b0
              obtain ⟨⟨s0, s1, s2, s3, s4, s5, s6, s7, s8⟩, sf0, sf1, sf2, sf3, sf4, sf5, sf6, sf7, sf8⟩ := cells_9a FRX.out.b2
              obtain ⟨⟨r0, r1, r2, r3⟩, _⟩ := cells_4 FRX.out.b1
              have FIN : Hid (∀ v6 w6, w6.ownsRow (w.heap.size + 3) 67 1 v6 (0 + n3) ([] ++ dvs) → (wX.alloc (.cells #[] 67)).grownBy w6 (some wX.heap.size) → ∃ g6 c6x, v6 = .slice (some ⟨g6, 0, none⟩) n3 c6x ∧ Hid (w6.ownsRow (w.heap.size + 3) 67 1 (.slice (some ⟨g6, 0, none⟩) n3 c6x) n3 dvs ∧ Frm w [.slice a0 n0 c0, .slice a1 n1 c1, .slice a2 n2 c2, .slice a3 n3 c3, .slice a4 n4 c4, .int .i64 s.room, .slice a6 n6 c6, .int .i64 s.power, .int .i64 (M : Int)] [.int .i64 2, .string nm, .string to, .slice da dl dc] [.slice none 0 0, .slice none 0 0, .slice none 0 0, .slice none 0 0, .slice none 0 0, .int .i64 0, .slice none 0 0, .int .i64 0, .int .i64 0] w6)) := fun v6 w6 r g => by
                rw [Nat.zero_add, List.nil_append] at r
                obtain ⟨g6, c6x, hv, _⟩ := row_addr r (by omega)
                subst hv
                exact ⟨g6, c6x, rfl, r, frm_grown (frm_below FRX.out (below_alloc' _ _)) g (fun k e => by have := Option.some.inj e; have := FRX.out.b2.2; omega)⟩
              have pa3 := (cells_9 (frm_below FRX.out (below_alloc' wX (.cells #[] 67))).b0).2.2.2.1
              have hlt0 : w.heap.size < wX.heap.size := FRX.out.b0.2
              go_wp2_with (at_builtin; refine appRow rfl (.tmp 140) (.tmp 142) 36 67 (.slice none 0 0) 1 24 Tryz.underlying36 Tryz.info67 rfl (by decide) rfl (w.heap.size + 3) _ 0 [] rfl (by have := FRX.out.b2.2; simp; omega) (by exact row_lit0 _ wX 1 (by have := FRX.out.b2.2; omega)) _ n3 _ rfl (held_mono DR.out (by exact FRX.out.bel.trans ((below_alloc' _ _).mono FRX.out.bel.size))) DR1.out (by unfold maxLen; omega) (by omega) ?_; intro v6 w6 r6 g6; obtain ⟨g6x, c6x, hv6, R6⟩ := FIN.out v6 w6 r6 g6; clear r6 g6; subst hv6; have hg0 : ¬ (w.heap.size = g6x) := (by have := (R6.out.1.lt g6x rfl).1; omega); have hg1 : ¬ (g6x = w.heap.size) := (by have := (R6.out.1.lt g6x rfl).1; omega); have hg2 : ¬ (w.heap.size + 1 + 1 = g6x) := (by have := (R6.out.1.lt g6x rfl).1; omega); have hg3 : ¬ (g6x = w.heap.size + 1 + 1) := (by have := (R6.out.1.lt g6x rfl).1; omega); clear p0 pf0 s0 sf0 p1 pf1 s1 sf1 p2 pf2 s2 sf2 p3 pf3 s3 sf3 p4 pf4 s4 sf4 p5 pf5 s5 sf5 p6 pf6 s6 sf6 p7 pf7 s7 sf7 p8 pf8 s8 sf8 r0 r1 r2 r3 pa3; obtain ⟨⟨p0, p1, p2, p3, p4, p5, p6, p7, p8⟩, pf0, pf1, pf2, pf3, pf4, pf5, pf6, pf7, pf8⟩ := cells_9a R6.out.2.b0; obtain ⟨⟨s0, s1, s2, s3, s4, s5, s6, s7, s8⟩, sf0, sf1, sf2, sf3, sf4, sf5, sf6, sf7, sf8⟩ := cells_9a R6.out.2.b2; obtain ⟨⟨r0, r1, r2, r3⟩, _⟩ := cells_4 R6.out.2.b1; have cz := R6.out.1.cellAt kk (by omega); rw [DK.out] at cz)
              have CB := hide' (copyB (.slice ua un uc) _ w6 (holdsB_mono HBK.out R6.out.2.bel) (by have := HB.out.2.2.2.2.2 kk; omega))
              refine CB.out.mono ?_
              rintro e w7 ⟨bv, rfl, ho7⟩
              obtain ⟨va, vc, hbv⟩ := row_slk ho7.1
              subst hbv
              have R7 := hide' (row_below R6.out.1 ho7.2)
              have F7 := hide' (frm_below R6.out.2 ho7.2)
              have h67 : g6x < w6.heap.size := (R6.out.1.lt g6x rfl).2
              obtain ⟨BL, hBL⟩ : ∃ BL, BL = (s.data.getD kk []).length := ⟨_, rfl⟩
              have HBL := hide' hBL
              have hbl : BL ≤ 80000000 := by rw [hBL]; exact HB.out.2.2.2.2.2 kk
              have O7 : Hid (w7.ownsRow w6.heap.size 5 1 (.slice va BL vc) BL ((s.data.getD kk []).map B) ∧ Below w6.heap.size w6 w7) := by unfold Hid; rw [hBL]; exact ho7
              rw [← hBL]
              clear hBL CB ho7 p0 pf0 s0 sf0 p1 pf1 s1 sf1 p2 pf2 s2 sf2 p3 pf3 s3 sf3 p4 pf4 s4 sf4 p5 pf5 s5 sf5 p6 pf6 s6 sf6 p7 pf7 s7 sf7 p8 pf8 s8 sf8 r0 r1 r2 r3 cz
              obtain ⟨⟨r0, r1, r2, r3⟩, _⟩ := cells_4 F7.out.b1
              have FIN2 : Hid (∀ v8 w8, w8.ownsRow w6.heap.size 5 1 v8 (BL + dl) ((s.data.getD kk []).map B ++ d.map B) → w7.grownBy w8 (Value.slice va BL vc).ownBlock → ∃ vb vd, v8 = .slice vb (BL + dl) vd ∧ Hid (w8.ownsRow w6.heap.size 5 1 (.slice vb (BL + dl) vd) (BL + dl) ((s.data.getD kk [] ++ d).map B) ∧ w8.ownsRow (w.heap.size + 3) 67 1 (.slice (some ⟨g6x, 0, none⟩) n3 c6x) n3 dvs ∧ Frm w [.slice a0 n0 c0, .slice a1 n1 c1, .slice a2 n2 c2, .slice a3 n3 c3, .slice a4 n4 c4, .int .i64 s.room, .slice a6 n6 c6, .int .i64 s.power, .int .i64 (M : Int)] [.int .i64 2, .string nm, .string to, .slice da dl dc] [.slice none 0 0, .slice none 0 0, .slice none 0 0, .slice none 0 0, .slice none 0 0, .int .i64 0, .slice none 0 0, .int .i64 0, .int .i64 0] w8)) := fun v8 w8 r g => by
                rw [← List.map_append] at r
                obtain ⟨vb, vd, hv⟩ := row_slk r
                subst hv
                have hlo : w.heap.size + 3 ≤ w6.heap.size := by have := R6.out.2.b2.2; omega
                exact ⟨vb, vd, rfl, r, R7.out.kept g (rows_apart R7.out O7.out.1 (by decide)), frm_grown F7.out g (fun k e => by have := (O7.out.1.lt k e).1; omega)⟩
              go_wp2_with (at_builtin; refine appRow rfl (.tmp 151) (.tmp 153) 67 5 (.int .u8 0) 1 1 Tryz.underlying67 Tryz.info5 rfl (by decide) rfl w6.heap.size _ BL _ rfl (by exact O7.out.2.size) (by exact O7.out.1) _ dl _ rfl (held_mono HDR.out (by exact F7.out.bel)) (oneB _) (by unfold maxLen; omega) (by omega) ?_; intro v8 w8 r8 g8; obtain ⟨vb, vd, hv8, R8⟩ := FIN2.out v8 w8 r8 g8; clear r8 g8; subst hv8; clear r0 r1 r2 r3; obtain ⟨⟨p0, p1, p2, p3, p4, p5, p6, p7, p8⟩, pf0, pf1, pf2, pf3, pf4, pf5, pf6, pf7, pf8⟩ := cells_9a R8.out.2.2.b0; obtain ⟨⟨s0, s1, s2, s3, s4, s5, s6, s7, s8⟩, sf0, sf1, sf2, sf3, sf4, sf5, sf6, sf7, sf8⟩ := cells_9a R8.out.2.2.b2; obtain ⟨⟨r0, r1, r2, r3⟩, _⟩ := cells_4 R8.out.2.2.b1; have cz := R8.out.2.1.cellAt kk (by omega); rw [DK.out] at cz; have cf := R8.out.2.1.frozenAt kk)
              have RST := R8.out.2.1.stored kk (.slice vb (BL + dl) vd)
              have FRB := hide' (frm_set (frm_poke R8.out.2.2 (g := g6x) (j := kk) (R8.out.2.1.lt g6x rfl).1 (.slice vb (BL + dl) vd)) 3 (by simp) (.slice (some ⟨g6x, 0, none⟩) n3 c6x))
              simp only [List.set] at FRB
              have RB := row_poke (b := w.heap.size) (o := 3) (x := .slice (some ⟨g6x, 0, none⟩) n3 c6x) RST.1 (by omega)
              have RV := row_poke (b := w.heap.size) (o := 3) (x := .slice (some ⟨g6x, 0, none⟩) n3 c6x) (row_poke (b := g6x) (o := kk) (x := .slice vb (BL + dl) vd) R8.out.1 h67) (by have := R6.out.2.b2.2; omega)
              have HZD := hide' (heldL_put by_sub DR3.out DR2.out DR4.out (old_sub FRB.out.bel) (k := kk) (held_sub (new_sub (w := w) HSS.out (Nat.le_refl _)) (held_base RB (Nat.le_refl _))) (held_to_B (held_sub (new_sub (w := w) HSS.out (by have := R6.out.2.b2.2; omega)) (held_base RV (Nat.le_refl _)))))
              have qe := frm_end (S := S) (s' := { s with n := s.n + 1, data := s.data.set kk (s.data.getD kk [] ++ d) }) (x0 := ⟨a0, n0, c0⟩) (x1 := ⟨a1, n1, c1⟩) (x2 := ⟨a2, n2, c2⟩) (x3 := ⟨some ⟨g6x, 0, none⟩, n3, c6x⟩) (x4 := ⟨a4, n4, c4⟩) (x6 := ⟨a6, n6, c6⟩) (v0 := .slice a0 n0 c0) (v1 := .slice a1 n1 c1) (v2 := .slice a2 n2 c2) (v3 := .slice (some ⟨g6x, 0, none⟩) n3 c6x) (v4 := .slice a4 n4 c4) (v5 := .int .i64 s.room) (v6 := .slice a6 n6 c6) (v7 := .int .i64 s.power) (v8 := .int .i64 (M : Int)) FRB.out rfl (⟨(refV_sub HQM.out (old_sub FRB.out.bel)).now, (refV_sub HQM.out (old_sub FRB.out.bel)).safe, (refV_sub HQM.out (old_sub FRB.out.bel)).pend, HZD.out, (refV_sub HQM.out (old_sub FRB.out.bel)).firm, (refV_sub HQM.out (old_sub FRB.out.bel)).fails⟩)
              obtain ⟨qb, qr, ql⟩ := qe
              obtain ⟨q0, q1, q2, q3, q4, q5, q6, q7, q8⟩ := cells_9 qb
              simp only [putFrom] at q0 q1 q2 q3 q4 q5 q6 q7 q8
              exact bodyPost_ret (v := .tuple #[.agg #[.slice a0 n0 c0, .slice a1 n1 c1, .slice a2 n2 c2, .slice (some ⟨g6x, 0, none⟩) n3 c6x, .slice a4 n4 c4, .int .i64 s.room, .slice a6 n6 c6, .int .i64 s.power, .int .i64 (M : Int)], .int .i64 (0)]) (by simp [results, Tryz.results29, go_sem, q0, q1, q2, q3, q4, q5, q6, q7, q8]) rfl (stepR_mk (s' := { s with n := s.n + 1, data := s.data.set kk (s.data.getD kk [] ++ d) }) (by rw [HST.out, HA2.out]) ⟨a0, n0, c0⟩ ⟨a1, n1, c1⟩ ⟨a2, n2, c2⟩ ⟨some ⟨g6x, 0, none⟩, n3, c6x⟩ ⟨a4, n4, c4⟩ ⟨a6, n6, c6⟩ qr ql _ _ _ rfl rfl HM.out)
            · have qz : (0 : Int) < (dl : Int) := by omega
              have qz2 : decide ((0 : Int) < (dl : Int)) = true := by simp; omega
              have qz3 : decide (0 < dl) = true := by simp; omega
              have qz4 : 0 < dl := by omega
              have CU : Hid (∀ Wx, Below w10.heap.size w10 Wx → Calls Tryz.prog 33 #[.agg #[.slice a0 n0 c0, .slice a1 n1 c1, .slice a2 n2 c2, .slice a3 n3 c3, .slice a4 n4 c4, .int .i64 s.room, .slice a6 n6 c6, .int .i64 s.power, .int .i64 (M : Int)]] Wx fun e w' => e = .returned (.int .i64 (s.used : Int)) ∧ Hid (Below w10.heap.size w10 w') ∧ (w'.cell? ⟨w.heap.size, 0, none⟩ = some (.slice a0 n0 c0) ∧ w'.cell? ⟨w.heap.size, 1, none⟩ = some (.slice a1 n1 c1) ∧ w'.cell? ⟨w.heap.size, 2, none⟩ = some (.slice a2 n2 c2) ∧ w'.cell? ⟨w.heap.size, 3, none⟩ = some (.slice a3 n3 c3) ∧ w'.cell? ⟨w.heap.size, 4, none⟩ = some (.slice a4 n4 c4) ∧ w'.cell? ⟨w.heap.size, 5, none⟩ = some (.int .i64 s.room) ∧ w'.cell? ⟨w.heap.size, 6, none⟩ = some (.slice a6 n6 c6) ∧ w'.cell? ⟨w.heap.size, 7, none⟩ = some (.int .i64 s.power) ∧ w'.cell? ⟨w.heap.size, 8, none⟩ = some (.int .i64 (M : Int)) ∧ w'.cell? ⟨w.heap.size + 1, 3, none⟩ = some (.slice da dl dc))) := fun Wx hb => by
                have hbw := FRA.out.bel.trans (hb.mono FRA.out.bel.size)
                refine (usedRC (s := { s with n := M }) (w := Wx) ⟨⟨a0, n0, c0⟩, ⟨a1, n1, c1⟩, ⟨a2, n2, c2⟩, ⟨a3, n3, c3⟩, ⟨a4, n4, c4⟩, ⟨a6, n6, c6⟩, rfl, refV_n (refV_mono HR.out hbw) _⟩ (wf_count HW.out M) (by have := HB.out.2.2.1; show s.now.length ≤ _; omega) (by have := US.out; show s.used ≤ _; omega)).mono ?_
                rintro e w' ⟨rfl, hb2⟩
                have hb3 := hb.trans (hb2.mono hb.size)
                have f := frm_below FRA.out hb3
                obtain ⟨h0, h1, h2, h3, h4, h5, h6, h7, h8⟩ := cells_9 f.b0
                obtain ⟨⟨_, _, _, g3⟩, _⟩ := cells_4 f.b1
                exact ⟨rfl, hb3, h0, h1, h2, h3, h4, h5, h6, h7, h8, g3⟩
              obtain ⟨U, hU⟩ : ∃ U, U = s.used := ⟨_, rfl⟩
              have HU := hide' hU
              rw [← hU] at CU
              have hUb : U ≤ 10000000000000000 := by rw [hU]; exact US.out
              clear hU
              have qw : IntKind.i64.wrap ((U : Int) + (dl : Int)) = ((U + dl : Nat) : Int) := by rw [wrap_small _ (by omega) (by omega)]; omega
              obtain ⟨T, hT⟩ : ∃ T, T = U + dl := ⟨_, rfl⟩
              have HTT := hide' hT
              rw [← hT] at qw
              clear hT
              by_cases hf : s.room < (T : Int)
              · have HA2 := hide' (act2_full { s with n := s.n + 1 } nm.data.toList to.data.toList d kk ⟨fun e => hz (by rw [HD2.out, e]; rfl), by show s.room < ((s.used + d.length : Nat) : Int); rw [← HD2.out, ← HU.out, ← HTT.out]; exact hf⟩)
                have qf : decide (s.room < (T : Int)) = true := by simpa using hf
                clear hf
                go_wp2_with fail
                go_region_held3 (fun w' => w'.cell? ⟨w.heap.size, 0, none⟩ = some (.slice a0 n0 c0) ∧ w'.cell? ⟨w.heap.size, 1, none⟩ = some (.slice a1 n1 c1) ∧ w'.cell? ⟨w.heap.size, 2, none⟩ = some (.slice a2 n2 c2) ∧ w'.cell? ⟨w.heap.size, 3, none⟩ = some (.slice a3 n3 c3) ∧ w'.cell? ⟨w.heap.size, 4, none⟩ = some (.slice a4 n4 c4) ∧ w'.cell? ⟨w.heap.size, 5, none⟩ = some (.int .i64 s.room) ∧ w'.cell? ⟨w.heap.size, 6, none⟩ = some (.slice a6 n6 c6) ∧ w'.cell? ⟨w.heap.size, 7, none⟩ = some (.int .i64 s.power) ∧ w'.cell? ⟨w.heap.size, 8, none⟩ = some (.int .i64 (M : Int)) ∧ w'.cell? ⟨w.heap.size + 1, 3, none⟩ = some (.slice da dl dc)) (go_keep)
                  (first | (go_at_call 33; refine (CU.out _ ?_).mono ?_; (first | exact (Below.refl _ _).drew | exact Below.refl _ _); rintro e wX ⟨rfl, BX, k0, k1, k2, k3, k4, k5, k6, k7, k8, k9⟩))
                all_goals
                  have FRX := hide' (frm_below FRA.out BX.out)
                  clear FRA p0 pf0 s0 sf0 p1 pf1 s1 sf1 p2 pf2 s2 sf2 p3 pf3 s3 sf3 p4 pf4 s4 sf4 p5 pf5 s5 sf5 p6 pf6 s6 sf6 p7 pf7 s7 sf7 p8 pf8 s8 sf8 r0 r1 r2 r3 k0 k1 k2 k3 k4 k5 k6 k7 k8 k9
                  obtain ⟨⟨p0, p1, p2, p3, p4, p5, p6, p7, p8⟩, pf0, pf1, pf2, pf3, pf4, pf5, pf6, pf7, pf8⟩ := cells_9a FRX.out.b0
                  obtain ⟨⟨s0, s1, s2, s3, s4, s5, s6, s7, s8⟩, sf0, sf1, sf2, sf3, sf4, sf5, sf6, sf7, sf8⟩ := cells_9a FRX.out.b2
                  obtain ⟨⟨r0, r1, r2, r3⟩, _⟩ := cells_4 FRX.out.b1
                  go_wp2_with fail
                  have qe := frm_end (S := S) (s' := { s with n := s.n + 1 }) (x0 := ⟨a0, n0, c0⟩) (x1 := ⟨a1, n1, c1⟩) (x2 := ⟨a2, n2, c2⟩) (x3 := ⟨a3, n3, c3⟩) (x4 := ⟨a4, n4, c4⟩) (x6 := ⟨a6, n6, c6⟩) (v0 := .slice a0 n0 c0) (v1 := .slice a1 n1 c1) (v2 := .slice a2 n2 c2) (v3 := .slice a3 n3 c3) (v4 := .slice a4 n4 c4) (v5 := .int .i64 s.room) (v6 := .slice a6 n6 c6) (v7 := .int .i64 s.power) (v8 := .int .i64 (M : Int)) FRX.out rfl (refV_n (refV_sub HQM.out (old_sub FRX.out.bel)) (s.n + 1))
                  obtain ⟨qb, qr, ql⟩ := qe
                  obtain ⟨q0, q1, q2, q3, q4, q5, q6, q7, q8⟩ := cells_9 qb
                  simp only [putFrom] at q0 q1 q2 q3 q4 q5 q6 q7 q8
                  exact bodyPost_ret (v := .tuple #[.agg #[.slice a0 n0 c0, .slice a1 n1 c1, .slice a2 n2 c2, .slice a3 n3 c3, .slice a4 n4 c4, .int .i64 s.room, .slice a6 n6 c6, .int .i64 s.power, .int .i64 (M : Int)], .int .i64 (92)]) (by simp [results, Tryz.results29, go_sem, q0, q1, q2, q3, q4, q5, q6, q7, q8]) rfl (stepR_mk (s' := { s with n := s.n + 1 }) (by rw [HST.out, HA2.out]) ⟨a0, n0, c0⟩ ⟨a1, n1, c1⟩ ⟨a2, n2, c2⟩ ⟨a3, n3, c3⟩ ⟨a4, n4, c4⟩ ⟨a6, n6, c6⟩ qr ql _ _ _ rfl rfl HM.out)
              · have HA2 := hide' (act2_ok { s with n := s.n + 1 } nm.data.toList to.data.toList d kk (fun h => hf (by have h2 := h.2; rw [HTT.out, HU.out, HD2.out]; exact h2)))
                have qf : decide (s.room < (T : Int)) = false := by simpa using hf
                clear hf
                go_wp2_with fail
                go_region_held3 (fun w' => w'.cell? ⟨w.heap.size, 0, none⟩ = some (.slice a0 n0 c0) ∧ w'.cell? ⟨w.heap.size, 1, none⟩ = some (.slice a1 n1 c1) ∧ w'.cell? ⟨w.heap.size, 2, none⟩ = some (.slice a2 n2 c2) ∧ w'.cell? ⟨w.heap.size, 3, none⟩ = some (.slice a3 n3 c3) ∧ w'.cell? ⟨w.heap.size, 4, none⟩ = some (.slice a4 n4 c4) ∧ w'.cell? ⟨w.heap.size, 5, none⟩ = some (.int .i64 s.room) ∧ w'.cell? ⟨w.heap.size, 6, none⟩ = some (.slice a6 n6 c6) ∧ w'.cell? ⟨w.heap.size, 7, none⟩ = some (.int .i64 s.power) ∧ w'.cell? ⟨w.heap.size, 8, none⟩ = some (.int .i64 (M : Int)) ∧ w'.cell? ⟨w.heap.size + 1, 3, none⟩ = some (.slice da dl dc)) (go_keep)
                  (first | (go_at_call 33; refine (CU.out _ ?_).mono ?_; (first | exact (Below.refl _ _).drew | exact Below.refl _ _); rintro e wX ⟨rfl, BX, k0, k1, k2, k3, k4, k5, k6, k7, k8, k9⟩))
                all_goals
                  have FRX := hide' (frm_below FRA.out BX.out)
                  clear FRA p0 pf0 s0 sf0 p1 pf1 s1 sf1 p2 pf2 s2 sf2 p3 pf3 s3 sf3 p4 pf4 s4 sf4 p5 pf5 s5 sf5 p6 pf6 s6 sf6 p7 pf7 s7 sf7 p8 pf8 s8 sf8 r0 r1 r2 r3 k0 k1 k2 k3 k4 k5 k6 k7 k8 k9
                  obtain ⟨⟨p0, p1, p2, p3, p4, p5, p6, p7, p8⟩, pf0, pf1, pf2, pf3, pf4, pf5, pf6, pf7, pf8⟩ := cells_9a FRX.out.b0
                  obtain ⟨⟨s0, s1, s2, s3, s4, s5, s6, s7, s8⟩, sf0, sf1, sf2, sf3, sf4, sf5, sf6, sf7, sf8⟩ := cells_9a FRX.out.b2
                  obtain ⟨⟨r0, r1, r2, r3⟩, _⟩ := cells_4 FRX.out.b1
                  have FIN : Hid (∀ v6 w6, w6.ownsRow (w.heap.size + 3) 67 1 v6 (0 + n3) ([] ++ dvs) → (wX.alloc (.cells #[] 67)).grownBy w6 (some wX.heap.size) → ∃ g6 c6x, v6 = .slice (some ⟨g6, 0, none⟩) n3 c6x ∧ Hid (w6.ownsRow (w.heap.size + 3) 67 1 (.slice (some ⟨g6, 0, none⟩) n3 c6x) n3 dvs ∧ Frm w [.slice a0 n0 c0, .slice a1 n1 c1, .slice a2 n2 c2, .slice a3 n3 c3, .slice a4 n4 c4, .int .i64 s.room, .slice a6 n6 c6, .int .i64 s.power, .int .i64 (M : Int)] [.int .i64 2, .string nm, .string to, .slice da dl dc] [.slice none 0 0, .slice none 0 0, .slice none 0 0, .slice none 0 0, .slice none 0 0, .int .i64 0, .slice none 0 0, .int .i64 0, .int .i64 0] w6)) := fun v6 w6 r g => by
                    rw [Nat.zero_add, List.nil_append] at r
                    obtain ⟨g6, c6x, hv, _⟩ := row_addr r (by omega)
                    subst hv
                    exact ⟨g6, c6x, rfl, r, frm_grown (frm_below FRX.out (below_alloc' _ _)) g (fun k e => by have := Option.some.inj e; have := FRX.out.b2.2; omega)⟩
                  have pa3 := (cells_9 (frm_below FRX.out (below_alloc' wX (.cells #[] 67))).b0).2.2.2.1
                  have hlt0 : w.heap.size < wX.heap.size := FRX.out.b0.2
                  go_wp2_with (at_builtin; refine appRow rfl (.tmp 140) (.tmp 142) 36 67 (.slice none 0 0) 1 24 Tryz.underlying36 Tryz.info67 rfl (by decide) rfl (w.heap.size + 3) _ 0 [] rfl (by have := FRX.out.b2.2; simp; omega) (by exact row_lit0 _ wX 1 (by have := FRX.out.b2.2; omega)) _ n3 _ rfl (held_mono DR.out (by exact FRX.out.bel.trans ((below_alloc' _ _).mono FRX.out.bel.size))) DR1.out (by unfold maxLen; omega) (by omega) ?_; intro v6 w6 r6 g6; obtain ⟨g6x, c6x, hv6, R6⟩ := FIN.out v6 w6 r6 g6; clear r6 g6; subst hv6; have hg0 : ¬ (w.heap.size = g6x) := (by have := (R6.out.1.lt g6x rfl).1; omega); have hg1 : ¬ (g6x = w.heap.size) := (by have := (R6.out.1.lt g6x rfl).1; omega); have hg2 : ¬ (w.heap.size + 1 + 1 = g6x) := (by have := (R6.out.1.lt g6x rfl).1; omega); have hg3 : ¬ (g6x = w.heap.size + 1 + 1) := (by have := (R6.out.1.lt g6x rfl).1; omega); clear p0 pf0 s0 sf0 p1 pf1 s1 sf1 p2 pf2 s2 sf2 p3 pf3 s3 sf3 p4 pf4 s4 sf4 p5 pf5 s5 sf5 p6 pf6 s6 sf6 p7 pf7 s7 sf7 p8 pf8 s8 sf8 r0 r1 r2 r3 pa3; obtain ⟨⟨p0, p1, p2, p3, p4, p5, p6, p7, p8⟩, pf0, pf1, pf2, pf3, pf4, pf5, pf6, pf7, pf8⟩ := cells_9a R6.out.2.b0; obtain ⟨⟨s0, s1, s2, s3, s4, s5, s6, s7, s8⟩, sf0, sf1, sf2, sf3, sf4, sf5, sf6, sf7, sf8⟩ := cells_9a R6.out.2.b2; obtain ⟨⟨r0, r1, r2, r3⟩, _⟩ := cells_4 R6.out.2.b1; have cz := R6.out.1.cellAt kk (by omega); rw [DK.out] at cz)
                  have CB := hide' (copyB (.slice ua un uc) _ w6 (holdsB_mono HBK.out R6.out.2.bel) (by have := HB.out.2.2.2.2.2 kk; omega))
                  refine CB.out.mono ?_
                  rintro e w7 ⟨bv, rfl, ho7⟩
                  obtain ⟨va, vc, hbv⟩ := row_slk ho7.1
                  subst hbv
                  have R7 := hide' (row_below R6.out.1 ho7.2)
                  have F7 := hide' (frm_below R6.out.2 ho7.2)
                  have h67 : g6x < w6.heap.size := (R6.out.1.lt g6x rfl).2
                  obtain ⟨BL, hBL⟩ : ∃ BL, BL = (s.data.getD kk []).length := ⟨_, rfl⟩
                  have HBL := hide' hBL
                  have hbl : BL ≤ 80000000 := by rw [hBL]; exact HB.out.2.2.2.2.2 kk
                  have O7 : Hid (w7.ownsRow w6.heap.size 5 1 (.slice va BL vc) BL ((s.data.getD kk []).map B) ∧ Below w6.heap.size w6 w7) := by unfold Hid; rw [hBL]; exact ho7
                  rw [← hBL]
                  clear hBL CB ho7 p0 pf0 s0 sf0 p1 pf1 s1 sf1 p2 pf2 s2 sf2 p3 pf3 s3 sf3 p4 pf4 s4 sf4 p5 pf5 s5 sf5 p6 pf6 s6 sf6 p7 pf7 s7 sf7 p8 pf8 s8 sf8 r0 r1 r2 r3 cz
                  obtain ⟨⟨r0, r1, r2, r3⟩, _⟩ := cells_4 F7.out.b1
                  have FIN2 : Hid (∀ v8 w8, w8.ownsRow w6.heap.size 5 1 v8 (BL + dl) ((s.data.getD kk []).map B ++ d.map B) → w7.grownBy w8 (Value.slice va BL vc).ownBlock → ∃ vb vd, v8 = .slice vb (BL + dl) vd ∧ Hid (w8.ownsRow w6.heap.size 5 1 (.slice vb (BL + dl) vd) (BL + dl) ((s.data.getD kk [] ++ d).map B) ∧ w8.ownsRow (w.heap.size + 3) 67 1 (.slice (some ⟨g6x, 0, none⟩) n3 c6x) n3 dvs ∧ Frm w [.slice a0 n0 c0, .slice a1 n1 c1, .slice a2 n2 c2, .slice a3 n3 c3, .slice a4 n4 c4, .int .i64 s.room, .slice a6 n6 c6, .int .i64 s.power, .int .i64 (M : Int)] [.int .i64 2, .string nm, .string to, .slice da dl dc] [.slice none 0 0, .slice none 0 0, .slice none 0 0, .slice none 0 0, .slice none 0 0, .int .i64 0, .slice none 0 0, .int .i64 0, .int .i64 0] w8)) := fun v8 w8 r g => by
                    rw [← List.map_append] at r
                    obtain ⟨vb, vd, hv⟩ := row_slk r
                    subst hv
                    have hlo : w.heap.size + 3 ≤ w6.heap.size := by have := R6.out.2.b2.2; omega
                    exact ⟨vb, vd, rfl, r, R7.out.kept g (rows_apart R7.out O7.out.1 (by decide)), frm_grown F7.out g (fun k e => by have := (O7.out.1.lt k e).1; omega)⟩
                  go_wp2_with (at_builtin; refine appRow rfl (.tmp 151) (.tmp 153) 67 5 (.int .u8 0) 1 1 Tryz.underlying67 Tryz.info5 rfl (by decide) rfl w6.heap.size _ BL _ rfl (by exact O7.out.2.size) (by exact O7.out.1) _ dl _ rfl (held_mono HDR.out (by exact F7.out.bel)) (oneB _) (by unfold maxLen; omega) (by omega) ?_; intro v8 w8 r8 g8; obtain ⟨vb, vd, hv8, R8⟩ := FIN2.out v8 w8 r8 g8; clear r8 g8; subst hv8; clear r0 r1 r2 r3; obtain ⟨⟨p0, p1, p2, p3, p4, p5, p6, p7, p8⟩, pf0, pf1, pf2, pf3, pf4, pf5, pf6, pf7, pf8⟩ := cells_9a R8.out.2.2.b0; obtain ⟨⟨s0, s1, s2, s3, s4, s5, s6, s7, s8⟩, sf0, sf1, sf2, sf3, sf4, sf5, sf6, sf7, sf8⟩ := cells_9a R8.out.2.2.b2; obtain ⟨⟨r0, r1, r2, r3⟩, _⟩ := cells_4 R8.out.2.2.b1; have cz := R8.out.2.1.cellAt kk (by omega); rw [DK.out] at cz; have cf := R8.out.2.1.frozenAt kk)
                  have RST := R8.out.2.1.stored kk (.slice vb (BL + dl) vd)
                  have FRB := hide' (frm_set (frm_poke R8.out.2.2 (g := g6x) (j := kk) (R8.out.2.1.lt g6x rfl).1 (.slice vb (BL + dl) vd)) 3 (by simp) (.slice (some ⟨g6x, 0, none⟩) n3 c6x))
                  simp only [List.set] at FRB
                  have RB := row_poke (b := w.heap.size) (o := 3) (x := .slice (some ⟨g6x, 0, none⟩) n3 c6x) RST.1 (by omega)
                  have RV := row_poke (b := w.heap.size) (o := 3) (x := .slice (some ⟨g6x, 0, none⟩) n3 c6x) (row_poke (b := g6x) (o := kk) (x := .slice vb (BL + dl) vd) R8.out.1 h67) (by have := R6.out.2.b2.2; omega)
                  have HZD := hide' (heldL_put by_sub DR3.out DR2.out DR4.out (old_sub FRB.out.bel) (k := kk) (held_sub (new_sub (w := w) HSS.out (Nat.le_refl _)) (held_base RB (Nat.le_refl _))) (held_to_B (held_sub (new_sub (w := w) HSS.out (by have := R6.out.2.b2.2; omega)) (held_base RV (Nat.le_refl _)))))
                  have qe := frm_end (S := S) (s' := { s with n := s.n + 1, data := s.data.set kk (s.data.getD kk [] ++ d) }) (x0 := ⟨a0, n0, c0⟩) (x1 := ⟨a1, n1, c1⟩) (x2 := ⟨a2, n2, c2⟩) (x3 := ⟨some ⟨g6x, 0, none⟩, n3, c6x⟩) (x4 := ⟨a4, n4, c4⟩) (x6 := ⟨a6, n6, c6⟩) (v0 := .slice a0 n0 c0) (v1 := .slice a1 n1 c1) (v2 := .slice a2 n2 c2) (v3 := .slice (some ⟨g6x, 0, none⟩) n3 c6x) (v4 := .slice a4 n4 c4) (v5 := .int .i64 s.room) (v6 := .slice a6 n6 c6) (v7 := .int .i64 s.power) (v8 := .int .i64 (M : Int)) FRB.out rfl (⟨(refV_sub HQM.out (old_sub FRB.out.bel)).now, (refV_sub HQM.out (old_sub FRB.out.bel)).safe, (refV_sub HQM.out (old_sub FRB.out.bel)).pend, HZD.out, (refV_sub HQM.out (old_sub FRB.out.bel)).firm, (refV_sub HQM.out (old_sub FRB.out.bel)).fails⟩)
                  obtain ⟨qb, qr, ql⟩ := qe
                  obtain ⟨q0, q1, q2, q3, q4, q5, q6, q7, q8⟩ := cells_9 qb
                  simp only [putFrom] at q0 q1 q2 q3 q4 q5 q6 q7 q8
                  exact bodyPost_ret (v := .tuple #[.agg #[.slice a0 n0 c0, .slice a1 n1 c1, .slice a2 n2 c2, .slice (some ⟨g6x, 0, none⟩) n3 c6x, .slice a4 n4 c4, .int .i64 s.room, .slice a6 n6 c6, .int .i64 s.power, .int .i64 (M : Int)], .int .i64 (0)]) (by simp [results, Tryz.results29, go_sem, q0, q1, q2, q3, q4, q5, q6, q7, q8]) rfl (stepR_mk (s' := { s with n := s.n + 1, data := s.data.set kk (s.data.getD kk [] ++ d) }) (by rw [HST.out, HA2.out]) ⟨a0, n0, c0⟩ ⟨a1, n1, c1⟩ ⟨a2, n2, c2⟩ ⟨some ⟨g6x, 0, none⟩, n3, c6x⟩ ⟨a4, n4, c4⟩ ⟨a6, n6, c6⟩ qr ql _ _ _ rfl rfl HM.out)
end Go.Proofs.YtijnjgnckipghaaGreat
