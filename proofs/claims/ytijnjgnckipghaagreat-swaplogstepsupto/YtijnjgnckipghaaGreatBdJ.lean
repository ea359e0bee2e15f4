/- The contract of the document's Step, of the op 4. The contract of the document's Step, of the op 6. -/
import Derived.Test.YtijnjgnckipghaaGreatBdG
import Derived.Deep.RegionHeld3
import Derived.Deep.RegionWith
namespace Go.Proofs.YtijnjgnckipghaaGreat
open Go.RowKit
set_option maxRecDepth 20000 in
set_option maxHeartbeats 16000000 in
theorem step4RC {S : Nat → Prop} {w : World} (hS : ∀ k, S k → k < w.heap.size) {x0 x1 x2 x3 x4 x6 : Sl} {s : Dk} (h : RefV (mask S w) x0 x1 x2 x3 x4 x6 s) (hw : Wf s) (hB : Bd 80000000 s) (nm to : ByteArray) (da : Option Addr) (dl dc : Nat) (d : List UInt8) (hd : HoldsB w (.slice da dl dc) d) (hs : nm.size ≤ 140737488351232) (ht : to.size ≤ 140737488351232) (hdl : d.length ≤ 1000000000) (hfl : s.fails.length ≤ 1000000000) :
    Calls Tryz.prog 29 #[stV x0 x1 x2 x3 x4 x6 s.room s.power s.n, .agg #[.int .i64 4, .string nm, .string to, .slice da dl dc]] w fun e w' => StepR S s ⟨4, nm.data.toList, to.data.toList, d⟩ w e w' := by
  obtain ⟨a0, n0, c0⟩ := x0
  obtain ⟨a1, n1, c1⟩ := x1
  obtain ⟨a2, n2, c2⟩ := x2
  obtain ⟨a3, n3, c3⟩ := x3
  obtain ⟨a4, n4, c4⟩ := x4
  obtain ⟨a6, n6, c6⟩ := x6
  unfold stV
  dsimp only
  have FR := hide' (frm_start w (.slice a0 n0 c0) (.slice a1 n1 c1) (.slice a2 n2 c2) (.slice a3 n3 c3) (.slice a4 n4 c4) (.int .i64 s.room) (.slice a6 n6 c6) (.int .i64 s.power) (.int .i64 (s.n : Int)) (.int .i64 4) (.string nm) (.string to) (.slice da dl dc) (.slice none 0 0) (.slice none 0 0) (.slice none 0 0) (.slice none 0 0) (.slice none 0 0) (.int .i64 0) (.slice none 0 0) (.int .i64 0) (.int .i64 0) 38 83)
  have HQM := hide' h
  have HSS := hide' hS
  replace h := refV_sub h (mask_sub S w)
  have HR := hide' h
  have HW := hide' hw
  have HB := hide' hB
  have HD := hide' hd
  have HS := hide' hs
  have HT := hide' ht
  have HDL := hide' hdl
  obtain ⟨M, hM⟩ : ∃ M, M = s.n + 1 := ⟨_, rfl⟩
  have HM := hide' hM
  have hsn : s.n ≤ 80000000 := hB.1
  have qn : IntKind.i64.wrap ((s.n : Int) + 1) = (M : Int) := by rw [wrap_small _ (by omega) (by omega)]; omega
  have hMl : M ≤ 80000001 := by omega
  obtain ⟨e6, hc6⟩ := i_at h.fails
  replace e6 : n6 = s.fails.length := e6
  have HC6 := hide' hc6
  have E6 := hide' e6
  have hl6 : n6 ≤ 1000000000 := by omega
  clear h hw hB hd hs ht hdl hM hc6 e6 hfl
  go_enter Tryz.func29, Tryz.ntmps29
  go_wp2_with fail
  generalize ((w.alloc (.cells #[.slice a0 n0 c0, .slice a1 n1 c1, .slice a2 n2 c2, .slice a3 n3 c3, .slice a4 n4 c4, .int .i64 s.room, .slice a6 n6 c6, .int .i64 s.power, .int .i64 (s.n : Int)] 38)).alloc (.cells #[.int .i64 4, .string nm, .string to, .slice da dl dc] 83)).alloc (.cells #[.slice none 0 0, .slice none 0 0, .slice none 0 0, .slice none 0 0, .slice none 0 0, .int .i64 0, .slice none 0 0, .int .i64 0, .int .i64 0] 38) = W3 at FR ⊢
  have CD := hide' (downRC (s := s) (w := W3) (v := .agg #[.slice a0 n0 c0, .slice a1 n1 c1, .slice a2 n2 c2, .slice a3 n3 c3, .slice a4 n4 c4, .int .i64 s.room, .slice a6 n6 c6, .int .i64 s.power, .int .i64 (s.n : Int)]) ⟨⟨a0, n0, c0⟩, ⟨a1, n1, c1⟩, ⟨a2, n2, c2⟩, ⟨a3, n3, c3⟩, ⟨a4, n4, c4⟩, ⟨a6, n6, c6⟩, rfl, refV_mono HR.out FR.out.bel⟩)
  cases hdn : s.down with
  | true =>
    rw [hdn] at CD
    refine CD.out.mono ?_
    rintro e w4 ⟨rfl, hb4⟩
    have FR4 := hide' (frm_below FR.out hb4)
    clear CD hb4 FR
    obtain ⟨⟨p0, p1, p2, p3, p4, p5, p6, p7, p8⟩, pf0, pf1, pf2, pf3, pf4, pf5, pf6, pf7, pf8⟩ := cells_9a FR4.out.b0
    obtain ⟨⟨s0, s1, s2, s3, s4, s5, s6, s7, s8⟩, sf0, sf1, sf2, sf3, sf4, sf5, sf6, sf7, sf8⟩ := cells_9a FR4.out.b2
    go_wp2_with fail
    have qe := frm_end (S := S) (s' := s) (x0 := ⟨a0, n0, c0⟩) (x1 := ⟨a1, n1, c1⟩) (x2 := ⟨a2, n2, c2⟩) (x3 := ⟨a3, n3, c3⟩) (x4 := ⟨a4, n4, c4⟩) (x6 := ⟨a6, n6, c6⟩) (v0 := .slice a0 n0 c0) (v1 := .slice a1 n1 c1) (v2 := .slice a2 n2 c2) (v3 := .slice a3 n3 c3) (v4 := .slice a4 n4 c4) (v5 := .int .i64 s.room) (v6 := .slice a6 n6 c6) (v7 := .int .i64 s.power) (v8 := .int .i64 (s.n : Int)) FR4.out rfl (refV_sub HQM.out (old_sub FR4.out.bel))
    obtain ⟨qb, qr, ql⟩ := qe
    obtain ⟨q0, q1, q2, q3, q4, q5, q6, q7, q8⟩ := cells_9 qb
    simp only [putFrom] at q0 q1 q2 q3 q4 q5 q6 q7 q8
    exact bodyPost_ret (v := .tuple #[.agg #[.slice a0 n0 c0, .slice a1 n1 c1, .slice a2 n2 c2, .slice a3 n3 c3, .slice a4 n4 c4, .int .i64 s.room, .slice a6 n6 c6, .int .i64 s.power, .int .i64 (s.n : Int)], .int .i64 (93)]) (by simp [results, Tryz.results29, go_sem, q0, q1, q2, q3, q4, q5, q6, q7, q8]) rfl (stepR_mk (s' := s) (st_down _ hdn) ⟨a0, n0, c0⟩ ⟨a1, n1, c1⟩ ⟨a2, n2, c2⟩ ⟨a3, n3, c3⟩ ⟨a4, n4, c4⟩ ⟨a6, n6, c6⟩ qr ql _ _ _ rfl rfl rfl)
  | false =>
    rw [hdn] at CD
    have DN := hide' hdn
    clear hdn
    refine CD.out.mono ?_
    rintro e w4 ⟨rfl, hb4⟩
    have FR4 := hide' (frm_below FR.out hb4)
    have FR5 := hide' (frm_set FR4.out 8 (by simp) (.int .i64 (M : Int)))
    clear CD hb4 FR
    obtain ⟨⟨p0, p1, p2, p3, p4, p5, p6, p7, p8⟩, pf0, pf1, pf2, pf3, pf4, pf5, pf6, pf7, pf8⟩ := cells_9a FR4.out.b0
    go_wp2_with fail
    generalize w4.setCell ⟨w.heap.size, 8, none⟩ (.int .i64 (M : Int)) = w5 at FR5 ⊢
    simp only [List.set] at FR5
    clear FR4 p0 pf0 p1 pf1 p2 pf2 p3 pf3 p4 pf4 p5 pf5 p6 pf6 p7 pf7 p8 pf8
    go_loopw [6] (fun i wr => ∃ k : Nat, k ≤ n6 ∧ i = .int .i64 k ∧ Hid (∀ z ∈ s.fails.take k, z ≠ (M : Int)) ∧ Hid (Below w5.heap.size w5 wr)) (fun i _ => n6 - (intOf i).toNat)
    case atStart => exact ⟨0, by omega, rfl, fun z hz => by simp at hz, Below.refl _ _⟩
    case round =>
      obtain ⟨k, hk, rfl, NOT, HBl⟩ := hrel
      have FR6 := hide' (frm_below FR5.out HBl.out)
      obtain ⟨⟨p0, p1, p2, p3, p4, p5, p6, p7, p8⟩, pf0, pf1, pf2, pf3, pf4, pf5, pf6, pf7, pf8⟩ := cells_9a FR6.out.b0
      obtain ⟨⟨s0, s1, s2, s3, s4, s5, s6, s7, s8⟩, sf0, sf1, sf2, sf3, sf4, sf5, sf6, sf7, sf8⟩ := cells_9a FR6.out.b2
      obtain ⟨⟨r0, r1, r2, r3⟩, _⟩ := cells_4 FR6.out.b1
      by_cases hlt : k < n6
      · have hk' : k < s.fails.length := by rw [← E6.out]; exact hlt
        obtain ⟨b, off, rfl, hb, hcell⟩ := HC6.out (by omega)
        have y1 := hcell k hk'
        rw [← FR6.out.bel.cell (p := ⟨b, off + k, none⟩) hb] at y1
        have qk0 : (0 : Int) ≤ (k : Int) := by omega
        have qk1 : (k : Int) < (n6 : Int) := by omega
        by_cases he : s.fails[k]'hk' = (M : Int)
        · have HST := hide' (st_fault ⟨4, nm.data.toList, to.data.toList, d⟩ DN.out (fault_yes HM.out hk' he))
          have qf : ((s.fails[k]'hk') == (M : Int)) = true := by simpa using he
          generalize s.fails[k]'hk' = fz at y1 qf
          clear hcell he
          go_wp2_with fail
          go_quiet (fail)
          have FR7 := hide' (frm_below FR6.out (below_drewN wr nq))
          clear FR6 p0 p1 p2 p3 p4 p5 p6 p7 p8 s0 s1 s2 s3 s4 s5 s6 s7 s8 pf0 pf1 pf2 pf3 pf4 pf5 pf6 pf7 pf8 sf0 sf1 sf2 sf3 sf4 sf5 sf6 sf7 sf8
          generalize wr.drewN nq = w7 at FR7 ⊢
          obtain ⟨⟨p0, p1, p2, p3, p4, p5, p6, p7, p8⟩, pf0, pf1, pf2, pf3, pf4, pf5, pf6, pf7, pf8⟩ := cells_9a FR7.out.b0
          obtain ⟨⟨s0, s1, s2, s3, s4, s5, s6, s7, s8⟩, sf0, sf1, sf2, sf3, sf4, sf5, sf6, sf7, sf8⟩ := cells_9a FR7.out.b2
          go_wp2_with fail
          have qe := frm_end (S := S) (s' := { s with n := s.n + 1 }) (x0 := ⟨a0, n0, c0⟩) (x1 := ⟨a1, n1, c1⟩) (x2 := ⟨a2, n2, c2⟩) (x3 := ⟨a3, n3, c3⟩) (x4 := ⟨a4, n4, c4⟩) (x6 := ⟨some ⟨b, off, none⟩, n6, c6⟩) (v0 := .slice a0 n0 c0) (v1 := .slice a1 n1 c1) (v2 := .slice a2 n2 c2) (v3 := .slice a3 n3 c3) (v4 := .slice a4 n4 c4) (v5 := .int .i64 s.room) (v6 := .slice (some ⟨b, off, none⟩) n6 c6) (v7 := .int .i64 s.power) (v8 := .int .i64 (M : Int)) FR7.out rfl (refV_n (refV_sub HQM.out (old_sub FR7.out.bel)) (s.n + 1))
          obtain ⟨qb, qr, ql⟩ := qe
          obtain ⟨q0, q1, q2, q3, q4, q5, q6, q7, q8⟩ := cells_9 qb
          simp only [putFrom] at q0 q1 q2 q3 q4 q5 q6 q7 q8
          exact bodyPost_ret (v := .tuple #[.agg #[.slice a0 n0 c0, .slice a1 n1 c1, .slice a2 n2 c2, .slice a3 n3 c3, .slice a4 n4 c4, .int .i64 s.room, .slice (some ⟨b, off, none⟩) n6 c6, .int .i64 s.power, .int .i64 (M : Int)], .int .i64 (94)]) (by simp [results, Tryz.results29, go_sem, q0, q1, q2, q3, q4, q5, q6, q7, q8]) rfl (stepR_mk (s' := { s with n := s.n + 1 }) (HST.out) ⟨a0, n0, c0⟩ ⟨a1, n1, c1⟩ ⟨a2, n2, c2⟩ ⟨a3, n3, c3⟩ ⟨a4, n4, c4⟩ ⟨some ⟨b, off, none⟩, n6, c6⟩ qr ql _ _ _ rfl rfl HM.out)
        · have qf : ((s.fails[k]'hk') == (M : Int)) = false := by simpa using he
          have NOT2 := hide' (mem_take_succ (P := fun z : Int => z ≠ (M : Int)) hk' NOT.out he)
          generalize s.fails[k]'hk' = fz at y1 qf
          clear hcell he FR6
          go_wp2_with fail
          go_quiet (fail)
          go_wp2_with fail
          go_roundw
          case rel => exact ⟨k + 1, by omega, by go_num, NOT2, below_drawn HBl.out _⟩
          case measure => simp [intOf]; omega
      · have FT : Hid (s.fault = false) := fault_no HM.out (fun z hz => NOT.out z (by rw [List.take_of_length_le (by rw [← E6.out]; omega)]; exact hz))
        obtain ⟨wB, hwB⟩ : ∃ x, x = wr := ⟨_, rfl⟩
        subst hwB
        have GN : Hid (¬ (((⟨4, nm.data.toList, to.data.toList, d⟩ : DOp).what ≠ 4 ∧ goodN (⟨4, nm.data.toList, to.data.toList, d⟩ : DOp).name = false) ∨ ((⟨4, nm.data.toList, to.data.toList, d⟩ : DOp).what = 5 ∧ goodN (⟨4, nm.data.toList, to.data.toList, d⟩ : DOp).to = false))) := by
          rintro (⟨h1, h2⟩ | ⟨h1, h2⟩)
          · exact h1 rfl
          · exact absurd h1 (by show ¬ (4 : Int) = 5; decide)
        have CA := hide' (atRC (s := { s with n := M }) (w := wB) (v := .agg #[.slice a0 n0 c0, .slice a1 n1 c1, .slice a2 n2 c2, .slice a3 n3 c3, .slice a4 n4 c4, .int .i64 s.room, .slice a6 n6 c6, .int .i64 s.power, .int .i64 (M : Int)]) ⟨⟨a0, n0, c0⟩, ⟨a1, n1, c1⟩, ⟨a2, n2, c2⟩, ⟨a3, n3, c3⟩, ⟨a4, n4, c4⟩, ⟨a6, n6, c6⟩, rfl, refV_n (refV_mono HR.out FR6.out.bel) _⟩ nm (by have := HB.out.2.2.1; show s.now.length ≤ _; omega))
        replace CA : Hid (Calls Tryz.prog 63 #[.agg #[.slice a0 n0 c0, .slice a1 n1 c1, .slice a2 n2 c2, .slice a3 n3 c3, .slice a4 n4 c4, .int .i64 s.room, .slice a6 n6 c6, .int .i64 s.power, .int .i64 (M : Int)], .string nm] wB fun e w' => e = .returned (.int .i64 (atI s.now nm.data.toList)) ∧ Below wB.heap.size wB w') := CA
        go_wp2_with fail
        refine CA.out.mono ?_
        rintro e w10 ⟨rfl, hb10⟩
        have FRA := hide' (frm_below FR6.out hb10)
        clear CA hb10 FR6 HBl NOT p0 pf0 s0 sf0 p1 pf1 s1 sf1 p2 pf2 s2 sf2 p3 pf3 s3 sf3 p4 pf4 s4 sf4 p5 pf5 s5 sf5 p6 pf6 s6 sf6 p7 pf7 s7 sf7 p8 pf8 s8 sf8 r0 r1 r2 r3
        obtain ⟨⟨p0, p1, p2, p3, p4, p5, p6, p7, p8⟩, pf0, pf1, pf2, pf3, pf4, pf5, pf6, pf7, pf8⟩ := cells_9a FRA.out.b0
        obtain ⟨⟨s0, s1, s2, s3, s4, s5, s6, s7, s8⟩, sf0, sf1, sf2, sf3, sf4, sf5, sf6, sf7, sf8⟩ := cells_9a FRA.out.b2
        obtain ⟨⟨r0, r1, r2, r3⟩, _⟩ := cells_4 FRA.out.b1
        cases ha : atN s.now nm.data.toList with
        | none =>
          have EA : atI s.now nm.data.toList = -1 := by unfold atI; rw [ha]
          rw [EA]
          clear EA
          have HST := hide' (st_none ⟨4, nm.data.toList, to.data.toList, d⟩ DN.out FT.out GN.out ha)
          rw [if_pos (by show (4 : Int) = 1 ∨ (4 : Int) = 4; exact .inr rfl)] at HST
          have FRB := hide' (frm_set (frm_set FRA.out 1 (by simp) (.slice a0 n0 c0)) 2 (by simp) (.slice none 0 0))
          simp only [List.set] at FRB
          go_wp2_with fail
          have qe := frm_end (S := S) (s' := { s with n := s.n + 1, safe := s.now, pend := [] }) (x0 := ⟨a0, n0, c0⟩) (x1 := ⟨a0, n0, c0⟩) (x2 := ⟨none, 0, 0⟩) (x3 := ⟨a3, n3, c3⟩) (x4 := ⟨a4, n4, c4⟩) (x6 := ⟨a6, n6, c6⟩) (v0 := .slice a0 n0 c0) (v1 := .slice a0 n0 c0) (v2 := .slice none 0 0) (v3 := .slice a3 n3 c3) (v4 := .slice a4 n4 c4) (v5 := .int .i64 s.room) (v6 := .slice a6 n6 c6) (v7 := .int .i64 s.power) (v8 := .int .i64 (M : Int)) FRB.out rfl (⟨held_sub (old_sub FRB.out.bel) HQM.out.now, held_sub (old_sub FRB.out.bel) HQM.out.now, heldL_nil _ _, (refV_sub HQM.out (old_sub FRB.out.bel)).data, (refV_sub HQM.out (old_sub FRB.out.bel)).firm, (refV_sub HQM.out (old_sub FRB.out.bel)).fails⟩)
          obtain ⟨qb, qr, ql⟩ := qe
          obtain ⟨q0, q1, q2, q3, q4, q5, q6, q7, q8⟩ := cells_9 qb
          simp only [putFrom] at q0 q1 q2 q3 q4 q5 q6 q7 q8
          exact bodyPost_ret (v := .tuple #[.agg #[.slice a0 n0 c0, .slice a0 n0 c0, .slice none 0 0, .slice a3 n3 c3, .slice a4 n4 c4, .int .i64 s.room, .slice a6 n6 c6, .int .i64 s.power, .int .i64 (M : Int)], .int .i64 (0)]) (by simp [results, Tryz.results29, go_sem, q0, q1, q2, q3, q4, q5, q6, q7, q8]) rfl (stepR_mk (s' := { s with n := s.n + 1, safe := s.now, pend := [] }) (by rw [HST.out]; rfl) ⟨a0, n0, c0⟩ ⟨a0, n0, c0⟩ ⟨none, 0, 0⟩ ⟨a3, n3, c3⟩ ⟨a4, n4, c4⟩ ⟨a6, n6, c6⟩ qr ql _ _ _ rfl rfl HM.out)
        | some kk =>
          have EA : atI s.now nm.data.toList = (kk : Int) := by unfold atI; rw [ha]
          rw [EA]
          clear EA
          have HST := hide' (st_some ⟨4, nm.data.toList, to.data.toList, d⟩ DN.out FT.out GN.out ha)
          have HKM := hide' (HW.out.now.2 _ (at_some ha))
          rw [if_neg (by show ¬ (4 : Int) = 1; decide)] at HST
          have FRB := hide' (frm_set (frm_set FRA.out 1 (by simp) (.slice a0 n0 c0)) 2 (by simp) (.slice none 0 0))
          simp only [List.set] at FRB
          go_wp2_with fail
          have qe := frm_end (S := S) (s' := { s with n := s.n + 1, safe := s.now, pend := [] }) (x0 := ⟨a0, n0, c0⟩) (x1 := ⟨a0, n0, c0⟩) (x2 := ⟨none, 0, 0⟩) (x3 := ⟨a3, n3, c3⟩) (x4 := ⟨a4, n4, c4⟩) (x6 := ⟨a6, n6, c6⟩) (v0 := .slice a0 n0 c0) (v1 := .slice a0 n0 c0) (v2 := .slice none 0 0) (v3 := .slice a3 n3 c3) (v4 := .slice a4 n4 c4) (v5 := .int .i64 s.room) (v6 := .slice a6 n6 c6) (v7 := .int .i64 s.power) (v8 := .int .i64 (M : Int)) FRB.out rfl (⟨held_sub (old_sub FRB.out.bel) HQM.out.now, held_sub (old_sub FRB.out.bel) HQM.out.now, heldL_nil _ _, (refV_sub HQM.out (old_sub FRB.out.bel)).data, (refV_sub HQM.out (old_sub FRB.out.bel)).firm, (refV_sub HQM.out (old_sub FRB.out.bel)).fails⟩)
          obtain ⟨qb, qr, ql⟩ := qe
          obtain ⟨q0, q1, q2, q3, q4, q5, q6, q7, q8⟩ := cells_9 qb
          simp only [putFrom] at q0 q1 q2 q3 q4 q5 q6 q7 q8
          exact bodyPost_ret (v := .tuple #[.agg #[.slice a0 n0 c0, .slice a0 n0 c0, .slice none 0 0, .slice a3 n3 c3, .slice a4 n4 c4, .int .i64 s.room, .slice a6 n6 c6, .int .i64 s.power, .int .i64 (M : Int)], .int .i64 (0)]) (by simp [results, Tryz.results29, go_sem, q0, q1, q2, q3, q4, q5, q6, q7, q8]) rfl (stepR_mk (s' := { s with n := s.n + 1, safe := s.now, pend := [] }) (by rw [HST.out]; rfl) ⟨a0, n0, c0⟩ ⟨a0, n0, c0⟩ ⟨none, 0, 0⟩ ⟨a3, n3, c3⟩ ⟨a4, n4, c4⟩ ⟨a6, n6, c6⟩ qr ql _ _ _ rfl rfl HM.out)
end Go.Proofs.YtijnjgnckipghaaGreat
namespace Go.Proofs.YtijnjgnckipghaaGreat
open Go.RowKit
set_option maxRecDepth 20000 in
set_option maxHeartbeats 16000000 in
theorem step6RC {S : Nat → Prop} {w : World} (hS : ∀ k, S k → k < w.heap.size) {x0 x1 x2 x3 x4 x6 : Sl} {s : Dk} (h : RefV (mask S w) x0 x1 x2 x3 x4 x6 s) (hw : Wf s) (hB : Bd 80000000 s) (nm to : ByteArray) (da : Option Addr) (dl dc : Nat) (d : List UInt8) (hd : HoldsB w (.slice da dl dc) d) (hs : nm.size ≤ 140737488351232) (ht : to.size ≤ 140737488351232) (hdl : d.length ≤ 1000000000) (hfl : s.fails.length ≤ 1000000000) :
    Calls Tryz.prog 29 #[stV x0 x1 x2 x3 x4 x6 s.room s.power s.n, .agg #[.int .i64 6, .string nm, .string to, .slice da dl dc]] w fun e w' => StepR S s ⟨6, nm.data.toList, to.data.toList, d⟩ w e w' := by
  obtain ⟨a0, n0, c0⟩ := x0
  obtain ⟨a1, n1, c1⟩ := x1
  obtain ⟨a2, n2, c2⟩ := x2
  obtain ⟨a3, n3, c3⟩ := x3
  obtain ⟨a4, n4, c4⟩ := x4
  obtain ⟨a6, n6, c6⟩ := x6
  unfold stV
  dsimp only
  have FR := hide' (frm_start w (.slice a0 n0 c0) (.slice a1 n1 c1) (.slice a2 n2 c2) (.slice a3 n3 c3) (.slice a4 n4 c4) (.int .i64 s.room) (.slice a6 n6 c6) (.int .i64 s.power) (.int .i64 (s.n : Int)) (.int .i64 6) (.string nm) (.string to) (.slice da dl dc) (.slice none 0 0) (.slice none 0 0) (.slice none 0 0) (.slice none 0 0) (.slice none 0 0) (.int .i64 0) (.slice none 0 0) (.int .i64 0) (.int .i64 0) 38 83)
  have HQM := hide' h
  have HSS := hide' hS
  replace h := refV_sub h (mask_sub S w)
  have HR := hide' h
  have HW := hide' hw
  have HB := hide' hB
  have HD := hide' hd
  have HS := hide' hs
  have HT := hide' ht
  have HDL := hide' hdl
  obtain ⟨M, hM⟩ : ∃ M, M = s.n + 1 := ⟨_, rfl⟩
  have HM := hide' hM
  have hsn : s.n ≤ 80000000 := hB.1
  have qn : IntKind.i64.wrap ((s.n : Int) + 1) = (M : Int) := by rw [wrap_small _ (by omega) (by omega)]; omega
  have hMl : M ≤ 80000001 := by omega
  obtain ⟨e6, hc6⟩ := i_at h.fails
  replace e6 : n6 = s.fails.length := e6
  have HC6 := hide' hc6
  have E6 := hide' e6
  have hl6 : n6 ≤ 1000000000 := by omega
  clear h hw hB hd hs ht hdl hM hc6 e6 hfl
  go_enter Tryz.func29, Tryz.ntmps29
  go_wp2_with fail
  generalize ((w.alloc (.cells #[.slice a0 n0 c0, .slice a1 n1 c1, .slice a2 n2 c2, .slice a3 n3 c3, .slice a4 n4 c4, .int .i64 s.room, .slice a6 n6 c6, .int .i64 s.power, .int .i64 (s.n : Int)] 38)).alloc (.cells #[.int .i64 6, .string nm, .string to, .slice da dl dc] 83)).alloc (.cells #[.slice none 0 0, .slice none 0 0, .slice none 0 0, .slice none 0 0, .slice none 0 0, .int .i64 0, .slice none 0 0, .int .i64 0, .int .i64 0] 38) = W3 at FR ⊢
  have CD := hide' (downRC (s := s) (w := W3) (v := .agg #[.slice a0 n0 c0, .slice a1 n1 c1, .slice a2 n2 c2, .slice a3 n3 c3, .slice a4 n4 c4, .int .i64 s.room, .slice a6 n6 c6, .int .i64 s.power, .int .i64 (s.n : Int)]) ⟨⟨a0, n0, c0⟩, ⟨a1, n1, c1⟩, ⟨a2, n2, c2⟩, ⟨a3, n3, c3⟩, ⟨a4, n4, c4⟩, ⟨a6, n6, c6⟩, rfl, refV_mono HR.out FR.out.bel⟩)
  cases hdn : s.down with
  | true =>
    rw [hdn] at CD
    refine CD.out.mono ?_
    rintro e w4 ⟨rfl, hb4⟩
    have FR4 := hide' (frm_below FR.out hb4)
    clear CD hb4 FR
    obtain ⟨⟨p0, p1, p2, p3, p4, p5, p6, p7, p8⟩, pf0, pf1, pf2, pf3, pf4, pf5, pf6, pf7, pf8⟩ := cells_9a FR4.out.b0
    obtain ⟨⟨s0, s1, s2, s3, s4, s5, s6, s7, s8⟩, sf0, sf1, sf2, sf3, sf4, sf5, sf6, sf7, sf8⟩ := cells_9a FR4.out.b2
    go_wp2_with fail
    have qe := frm_end (S := S) (s' := s) (x0 := ⟨a0, n0, c0⟩) (x1 := ⟨a1, n1, c1⟩) (x2 := ⟨a2, n2, c2⟩) (x3 := ⟨a3, n3, c3⟩) (x4 := ⟨a4, n4, c4⟩) (x6 := ⟨a6, n6, c6⟩) (v0 := .slice a0 n0 c0) (v1 := .slice a1 n1 c1) (v2 := .slice a2 n2 c2) (v3 := .slice a3 n3 c3) (v4 := .slice a4 n4 c4) (v5 := .int .i64 s.room) (v6 := .slice a6 n6 c6) (v7 := .int .i64 s.power) (v8 := .int .i64 (s.n : Int)) FR4.out rfl (refV_sub HQM.out (old_sub FR4.out.bel))
    obtain ⟨qb, qr, ql⟩ := qe
    obtain ⟨q0, q1, q2, q3, q4, q5, q6, q7, q8⟩ := cells_9 qb
    simp only [putFrom] at q0 q1 q2 q3 q4 q5 q6 q7 q8
    exact bodyPost_ret (v := .tuple #[.agg #[.slice a0 n0 c0, .slice a1 n1 c1, .slice a2 n2 c2, .slice a3 n3 c3, .slice a4 n4 c4, .int .i64 s.room, .slice a6 n6 c6, .int .i64 s.power, .int .i64 (s.n : Int)], .int .i64 (93)]) (by simp [results, Tryz.results29, go_sem, q0, q1, q2, q3, q4, q5, q6, q7, q8]) rfl (stepR_mk (s' := s) (st_down _ hdn) ⟨a0, n0, c0⟩ ⟨a1, n1, c1⟩ ⟨a2, n2, c2⟩ ⟨a3, n3, c3⟩ ⟨a4, n4, c4⟩ ⟨a6, n6, c6⟩ qr ql _ _ _ rfl rfl rfl)
  | false =>
    rw [hdn] at CD
    have DN := hide' hdn
    clear hdn
    refine CD.out.mono ?_
    rintro e w4 ⟨rfl, hb4⟩
    have FR4 := hide' (frm_below FR.out hb4)
    have FR5 := hide' (frm_set FR4.out 8 (by simp) (.int .i64 (M : Int)))
    clear CD hb4 FR
    obtain ⟨⟨p0, p1, p2, p3, p4, p5, p6, p7, p8⟩, pf0, pf1, pf2, pf3, pf4, pf5, pf6, pf7, pf8⟩ := cells_9a FR4.out.b0
    go_wp2_with fail
    generalize w4.setCell ⟨w.heap.size, 8, none⟩ (.int .i64 (M : Int)) = w5 at FR5 ⊢
    simp only [List.set] at FR5
    clear FR4 p0 pf0 p1 pf1 p2 pf2 p3 pf3 p4 pf4 p5 pf5 p6 pf6 p7 pf7 p8 pf8
    go_loopw [6] (fun i wr => ∃ k : Nat, k ≤ n6 ∧ i = .int .i64 k ∧ Hid (∀ z ∈ s.fails.take k, z ≠ (M : Int)) ∧ Hid (Below w5.heap.size w5 wr)) (fun i _ => n6 - (intOf i).toNat)
    case atStart => exact ⟨0, by omega, rfl, fun z hz => by simp at hz, Below.refl _ _⟩
    case round =>
      obtain ⟨k, hk, rfl, NOT, HBl⟩ := hrel
      have FR6 := hide' (frm_below FR5.out HBl.out)
      obtain ⟨⟨p0, p1, p2, p3, p4, p5, p6, p7, p8⟩, pf0, pf1, pf2, pf3, pf4, pf5, pf6, pf7, pf8⟩ := cells_9a FR6.out.b0
      obtain ⟨⟨s0, s1, s2, s3, s4, s5, s6, s7, s8⟩, sf0, sf1, sf2, sf3, sf4, sf5, sf6, sf7, sf8⟩ := cells_9a FR6.out.b2
      obtain ⟨⟨r0, r1, r2, r3⟩, _⟩ := cells_4 FR6.out.b1
      by_cases hlt : k < n6
      · have hk' : k < s.fails.length := by rw [← E6.out]; exact hlt
        obtain ⟨b, off, rfl, hb, hcell⟩ := HC6.out (by omega)
        have y1 := hcell k hk'
        rw [← FR6.out.bel.cell (p := ⟨b, off + k, none⟩) hb] at y1
        have qk0 : (0 : Int) ≤ (k : Int) := by omega
        have qk1 : (k : Int) < (n6 : Int) := by omega
        by_cases he : s.fails[k]'hk' = (M : Int)
        · have HST := hide' (st_fault ⟨6, nm.data.toList, to.data.toList, d⟩ DN.out (fault_yes HM.out hk' he))
          have qf : ((s.fails[k]'hk') == (M : Int)) = true := by simpa using he
          generalize s.fails[k]'hk' = fz at y1 qf
          clear hcell he
          go_wp2_with fail
          go_quiet (fail)
          have FR7 := hide' (frm_below FR6.out (below_drewN wr nq))
          clear FR6 p0 p1 p2 p3 p4 p5 p6 p7 p8 s0 s1 s2 s3 s4 s5 s6 s7 s8 pf0 pf1 pf2 pf3 pf4 pf5 pf6 pf7 pf8 sf0 sf1 sf2 sf3 sf4 sf5 sf6 sf7 sf8
          generalize wr.drewN nq = w7 at FR7 ⊢
          obtain ⟨⟨p0, p1, p2, p3, p4, p5, p6, p7, p8⟩, pf0, pf1, pf2, pf3, pf4, pf5, pf6, pf7, pf8⟩ := cells_9a FR7.out.b0
          obtain ⟨⟨s0, s1, s2, s3, s4, s5, s6, s7, s8⟩, sf0, sf1, sf2, sf3, sf4, sf5, sf6, sf7, sf8⟩ := cells_9a FR7.out.b2
          go_wp2_with fail
          have qe := frm_end (S := S) (s' := { s with n := s.n + 1 }) (x0 := ⟨a0, n0, c0⟩) (x1 := ⟨a1, n1, c1⟩) (x2 := ⟨a2, n2, c2⟩) (x3 := ⟨a3, n3, c3⟩) (x4 := ⟨a4, n4, c4⟩) (x6 := ⟨some ⟨b, off, none⟩, n6, c6⟩) (v0 := .slice a0 n0 c0) (v1 := .slice a1 n1 c1) (v2 := .slice a2 n2 c2) (v3 := .slice a3 n3 c3) (v4 := .slice a4 n4 c4) (v5 := .int .i64 s.room) (v6 := .slice (some ⟨b, off, none⟩) n6 c6) (v7 := .int .i64 s.power) (v8 := .int .i64 (M : Int)) FR7.out rfl (refV_n (refV_sub HQM.out (old_sub FR7.out.bel)) (s.n + 1))
          obtain ⟨qb, qr, ql⟩ := qe
          obtain ⟨q0, q1, q2, q3, q4, q5, q6, q7, q8⟩ := cells_9 qb
          simp only [putFrom] at q0 q1 q2 q3 q4 q5 q6 q7 q8
          exact bodyPost_ret (v := .tuple #[.agg #[.slice a0 n0 c0, .slice a1 n1 c1, .slice a2 n2 c2, .slice a3 n3 c3, .slice a4 n4 c4, .int .i64 s.room, .slice (some ⟨b, off, none⟩) n6 c6, .int .i64 s.power, .int .i64 (M : Int)], .int .i64 (94)]) (by simp [results, Tryz.results29, go_sem, q0, q1, q2, q3, q4, q5, q6, q7, q8]) rfl (stepR_mk (s' := { s with n := s.n + 1 }) (HST.out) ⟨a0, n0, c0⟩ ⟨a1, n1, c1⟩ ⟨a2, n2, c2⟩ ⟨a3, n3, c3⟩ ⟨a4, n4, c4⟩ ⟨some ⟨b, off, none⟩, n6, c6⟩ qr ql _ _ _ rfl rfl HM.out)
        · have qf : ((s.fails[k]'hk') == (M : Int)) = false := by simpa using he
          have NOT2 := hide' (mem_take_succ (P := fun z : Int => z ≠ (M : Int)) hk' NOT.out he)
          generalize s.fails[k]'hk' = fz at y1 qf
          clear hcell he FR6
          go_wp2_with fail
          go_quiet (fail)
          go_wp2_with fail
          go_roundw
          case rel => exact ⟨k + 1, by omega, by go_num, NOT2, below_drawn HBl.out _⟩
          case measure => simp [intOf]; omega
      · have FT : Hid (s.fault = false) := fault_no HM.out (fun z hz => NOT.out z (by rw [List.take_of_length_le (by rw [← E6.out]; omega)]; exact hz))
        obtain ⟨wB, hwB⟩ : ∃ x, x = wr := ⟨_, rfl⟩
        subst hwB
        have CG := hide' (goodRC nm wB HS.out)
        cases hg : goodN nm.data.toList with
        | false =>
          rw [hg] at CG
          have HST := hide' (st_name ⟨6, nm.data.toList, to.data.toList, d⟩ DN.out FT.out (.inl ⟨by show (6 : Int) ≠ 4; decide, hg⟩))
          go_wp2_with fail
          refine CG.out.mono ?_
          rintro e w9 ⟨rfl, ew⟩
          rw [ew]
          clear ew w9
          go_wp2_with fail
          have qe := frm_end (S := S) (s' := { s with n := s.n + 1 }) (x0 := ⟨a0, n0, c0⟩) (x1 := ⟨a1, n1, c1⟩) (x2 := ⟨a2, n2, c2⟩) (x3 := ⟨a3, n3, c3⟩) (x4 := ⟨a4, n4, c4⟩) (x6 := ⟨a6, n6, c6⟩) (v0 := .slice a0 n0 c0) (v1 := .slice a1 n1 c1) (v2 := .slice a2 n2 c2) (v3 := .slice a3 n3 c3) (v4 := .slice a4 n4 c4) (v5 := .int .i64 s.room) (v6 := .slice a6 n6 c6) (v7 := .int .i64 s.power) (v8 := .int .i64 (M : Int)) FR6.out rfl (refV_n (refV_sub HQM.out (old_sub FR6.out.bel)) (s.n + 1))
          obtain ⟨qb, qr, ql⟩ := qe
          obtain ⟨q0, q1, q2, q3, q4, q5, q6, q7, q8⟩ := cells_9 qb
          simp only [putFrom] at q0 q1 q2 q3 q4 q5 q6 q7 q8
          exact bodyPost_ret (v := .tuple #[.agg #[.slice a0 n0 c0, .slice a1 n1 c1, .slice a2 n2 c2, .slice a3 n3 c3, .slice a4 n4 c4, .int .i64 s.room, .slice a6 n6 c6, .int .i64 s.power, .int .i64 (M : Int)], .int .i64 (95)]) (by simp [results, Tryz.results29, go_sem, q0, q1, q2, q3, q4, q5, q6, q7, q8]) rfl (stepR_mk (s' := { s with n := s.n + 1 }) (HST.out) ⟨a0, n0, c0⟩ ⟨a1, n1, c1⟩ ⟨a2, n2, c2⟩ ⟨a3, n3, c3⟩ ⟨a4, n4, c4⟩ ⟨a6, n6, c6⟩ qr ql _ _ _ rfl rfl HM.out)
        | true =>
          rw [hg] at CG
          have GN : Hid (¬ (((⟨6, nm.data.toList, to.data.toList, d⟩ : DOp).what ≠ 4 ∧ goodN (⟨6, nm.data.toList, to.data.toList, d⟩ : DOp).name = false) ∨ ((⟨6, nm.data.toList, to.data.toList, d⟩ : DOp).what = 5 ∧ goodN (⟨6, nm.data.toList, to.data.toList, d⟩ : DOp).to = false))) := by
            rintro (⟨h1, h2⟩ | ⟨h1, h2⟩)
            · rw [show (⟨6, nm.data.toList, to.data.toList, d⟩ : DOp).name = nm.data.toList from rfl, hg] at h2; cases h2
            · exact absurd h1 (by show ¬ (6 : Int) = 5; decide)
          go_wp2_with fail
          refine CG.out.mono ?_
          rintro e w9 ⟨rfl, ew⟩
          rw [ew]
          clear ew w9
          have CA := hide' (atRC (s := { s with n := M }) (w := wB) (v := .agg #[.slice a0 n0 c0, .slice a1 n1 c1, .slice a2 n2 c2, .slice a3 n3 c3, .slice a4 n4 c4, .int .i64 s.room, .slice a6 n6 c6, .int .i64 s.power, .int .i64 (M : Int)]) ⟨⟨a0, n0, c0⟩, ⟨a1, n1, c1⟩, ⟨a2, n2, c2⟩, ⟨a3, n3, c3⟩, ⟨a4, n4, c4⟩, ⟨a6, n6, c6⟩, rfl, refV_n (refV_mono HR.out FR6.out.bel) _⟩ nm (by have := HB.out.2.2.1; show s.now.length ≤ _; omega))
          replace CA : Hid (Calls Tryz.prog 63 #[.agg #[.slice a0 n0 c0, .slice a1 n1 c1, .slice a2 n2 c2, .slice a3 n3 c3, .slice a4 n4 c4, .int .i64 s.room, .slice a6 n6 c6, .int .i64 s.power, .int .i64 (M : Int)], .string nm] wB fun e w' => e = .returned (.int .i64 (atI s.now nm.data.toList)) ∧ Below wB.heap.size wB w') := CA
          go_wp2_with fail
          refine CA.out.mono ?_
          rintro e w10 ⟨rfl, hb10⟩
          have FRA := hide' (frm_below FR6.out hb10)
          clear CA hb10 FR6 HBl NOT p0 pf0 s0 sf0 p1 pf1 s1 sf1 p2 pf2 s2 sf2 p3 pf3 s3 sf3 p4 pf4 s4 sf4 p5 pf5 s5 sf5 p6 pf6 s6 sf6 p7 pf7 s7 sf7 p8 pf8 s8 sf8 r0 r1 r2 r3
          obtain ⟨⟨p0, p1, p2, p3, p4, p5, p6, p7, p8⟩, pf0, pf1, pf2, pf3, pf4, pf5, pf6, pf7, pf8⟩ := cells_9a FRA.out.b0
          obtain ⟨⟨s0, s1, s2, s3, s4, s5, s6, s7, s8⟩, sf0, sf1, sf2, sf3, sf4, sf5, sf6, sf7, sf8⟩ := cells_9a FRA.out.b2
          obtain ⟨⟨r0, r1, r2, r3⟩, _⟩ := cells_4 FRA.out.b1
          cases ha : atN s.now nm.data.toList with
          | none =>
            have EA : atI s.now nm.data.toList = -1 := by unfold atI; rw [ha]
            rw [EA]
            clear EA
            have HST := hide' (st_none ⟨6, nm.data.toList, to.data.toList, d⟩ DN.out FT.out GN.out ha)
            rw [if_neg (by show ¬ ((6 : Int) = 1 ∨ (6 : Int) = 4); decide)] at HST
            go_wp2_with fail
            have qe := frm_end (S := S) (s' := { s with n := s.n + 1 }) (x0 := ⟨a0, n0, c0⟩) (x1 := ⟨a1, n1, c1⟩) (x2 := ⟨a2, n2, c2⟩) (x3 := ⟨a3, n3, c3⟩) (x4 := ⟨a4, n4, c4⟩) (x6 := ⟨a6, n6, c6⟩) (v0 := .slice a0 n0 c0) (v1 := .slice a1 n1 c1) (v2 := .slice a2 n2 c2) (v3 := .slice a3 n3 c3) (v4 := .slice a4 n4 c4) (v5 := .int .i64 s.room) (v6 := .slice a6 n6 c6) (v7 := .int .i64 s.power) (v8 := .int .i64 (M : Int)) FRA.out rfl (refV_n (refV_sub HQM.out (old_sub FRA.out.bel)) (s.n + 1))
            obtain ⟨qb, qr, ql⟩ := qe
            obtain ⟨q0, q1, q2, q3, q4, q5, q6, q7, q8⟩ := cells_9 qb
            simp only [putFrom] at q0 q1 q2 q3 q4 q5 q6 q7 q8
            exact bodyPost_ret (v := .tuple #[.agg #[.slice a0 n0 c0, .slice a1 n1 c1, .slice a2 n2 c2, .slice a3 n3 c3, .slice a4 n4 c4, .int .i64 s.room, .slice a6 n6 c6, .int .i64 s.power, .int .i64 (M : Int)], .int .i64 (90)]) (by simp [results, Tryz.results29, go_sem, q0, q1, q2, q3, q4, q5, q6, q7, q8]) rfl (stepR_mk (s' := { s with n := s.n + 1 }) (by rw [HST.out]) ⟨a0, n0, c0⟩ ⟨a1, n1, c1⟩ ⟨a2, n2, c2⟩ ⟨a3, n3, c3⟩ ⟨a4, n4, c4⟩ ⟨a6, n6, c6⟩ qr ql _ _ _ rfl rfl HM.out)
          | some kk =>
            have EA : atI s.now nm.data.toList = (kk : Int) := by unfold atI; rw [ha]
            rw [EA]
            clear EA
            have HST := hide' (st_some ⟨6, nm.data.toList, to.data.toList, d⟩ DN.out FT.out GN.out ha)
            have HKM := hide' (HW.out.now.2 _ (at_some ha))
            rw [if_neg (by show ¬ (6 : Int) = 1; decide)] at HST
            obtain ⟨vs, hraw, hraw1, hraw2, hraw3, hraw4⟩ := heldL_raw HQM.out.pend
            replace hraw2 : n2 = s.pend.length := hraw2
            replace hraw : Held w (.slice a2 n2 c2) 1 n2 vs := held_sub (mask_sub S w) hraw
            have RAW := hide' hraw
            have RW1 := hide' hraw1
            have RW2 := hide' hraw2
            have RW3 := hide' hraw3
            have RW4 := hide' hraw4
            clear hraw hraw1 hraw2 hraw3 hraw4
            have hne1 : ¬ (w.heap.size = w.heap.size + 1 + 1) := by omega
            have hne2 : ¬ (w.heap.size + 1 + 1 = w.heap.size) := by omega
            have KP : Hid (∀ Wx, Below w10.heap.size w10 Wx → (Wx.cell? ⟨w.heap.size, 0, none⟩ = some (.slice a0 n0 c0) ∧ Wx.cell? ⟨w.heap.size, 1, none⟩ = some (.slice a1 n1 c1) ∧ Wx.cell? ⟨w.heap.size, 2, none⟩ = some (.slice a2 n2 c2) ∧ Wx.cell? ⟨w.heap.size, 3, none⟩ = some (.slice a3 n3 c3) ∧ Wx.cell? ⟨w.heap.size, 4, none⟩ = some (.slice a4 n4 c4) ∧ Wx.cell? ⟨w.heap.size, 5, none⟩ = some (.int .i64 s.room) ∧ Wx.cell? ⟨w.heap.size, 6, none⟩ = some (.slice a6 n6 c6) ∧ Wx.cell? ⟨w.heap.size, 7, none⟩ = some (.int .i64 s.power) ∧ Wx.cell? ⟨w.heap.size, 8, none⟩ = some (.int .i64 (M : Int)) ∧ Wx.cell? ⟨w.heap.size + 1, 1, none⟩ = some (.string nm) ∧ Wx.cell? ⟨w.heap.size + 1, 2, none⟩ = some (.string to)) ∧ (Wx.cell? ⟨w.heap.size + 2, 0, none⟩ = some (.slice none 0 0) ∧ Wx.cell? ⟨w.heap.size + 2, 1, none⟩ = some (.slice none 0 0) ∧ Wx.cell? ⟨w.heap.size + 2, 2, none⟩ = some (.slice none 0 0) ∧ Wx.cell? ⟨w.heap.size + 2, 3, none⟩ = some (.slice none 0 0) ∧ Wx.cell? ⟨w.heap.size + 2, 4, none⟩ = some (.slice none 0 0) ∧ Wx.cell? ⟨w.heap.size + 2, 5, none⟩ = some (.int .i64 0) ∧ Wx.cell? ⟨w.heap.size + 2, 6, none⟩ = some (.slice none 0 0) ∧ Wx.cell? ⟨w.heap.size + 2, 7, none⟩ = some (.int .i64 0) ∧ Wx.cell? ⟨w.heap.size + 2, 8, none⟩ = some (.int .i64 0) ∧ Wx.frozen? ⟨w.heap.size + 2, 0, none⟩ = false ∧ Wx.frozen? ⟨w.heap.size + 2, 1, none⟩ = false ∧ Wx.frozen? ⟨w.heap.size + 2, 2, none⟩ = false ∧ Wx.frozen? ⟨w.heap.size + 2, 3, none⟩ = false ∧ Wx.frozen? ⟨w.heap.size + 2, 4, none⟩ = false ∧ Wx.frozen? ⟨w.heap.size + 2, 5, none⟩ = false ∧ Wx.frozen? ⟨w.heap.size + 2, 6, none⟩ = false ∧ Wx.frozen? ⟨w.heap.size + 2, 7, none⟩ = false ∧ Wx.frozen? ⟨w.heap.size + 2, 8, none⟩ = false)) := fun Wx hb => by
              have f := frm_below FRA.out hb
              obtain ⟨h0, h1, h2, h3, h4, h5, h6, h7, h8⟩ := cells_9 f.b0
              obtain ⟨⟨_, g1, g2, _⟩, _⟩ := cells_4 f.b1
              obtain ⟨⟨j0, j1, j2, j3, j4, j5, j6, j7, j8⟩, f0, f1, f2, f3, f4, f5, f6, f7, f8⟩ := cells_9a f.b2
              exact ⟨⟨h0, h1, h2, h3, h4, h5, h6, h7, h8, g1, g2⟩, ⟨j0, j1, j2, j3, j4, j5, j6, j7, j8, f0, f1, f2, f3, f4, f5, f6, f7, f8⟩⟩
            have CN1 : Hid (∀ Wx, Below w10.heap.size w10 Wx →  Calls Tryz.prog 65 #[.slice a0 n0 c0, .string nm, .int .i64 (-1)] Wx fun e w' => ∃ ya yn yc, e = .returned (.slice ya yn yc) ∧ Hid (Below w10.heap.size w10 w' ∧ HoldsNm (mask (fun x => x < w10.heap.size) w') (.slice ya yn yc) (delN s.now nm.data.toList)) ∧ ((w'.cell? ⟨w.heap.size, 0, none⟩ = some (.slice a0 n0 c0) ∧ w'.cell? ⟨w.heap.size, 1, none⟩ = some (.slice a1 n1 c1) ∧ w'.cell? ⟨w.heap.size, 2, none⟩ = some (.slice a2 n2 c2) ∧ w'.cell? ⟨w.heap.size, 3, none⟩ = some (.slice a3 n3 c3) ∧ w'.cell? ⟨w.heap.size, 4, none⟩ = some (.slice a4 n4 c4) ∧ w'.cell? ⟨w.heap.size, 5, none⟩ = some (.int .i64 s.room) ∧ w'.cell? ⟨w.heap.size, 6, none⟩ = some (.slice a6 n6 c6) ∧ w'.cell? ⟨w.heap.size, 7, none⟩ = some (.int .i64 s.power) ∧ w'.cell? ⟨w.heap.size, 8, none⟩ = some (.int .i64 (M : Int)) ∧ w'.cell? ⟨w.heap.size + 1, 1, none⟩ = some (.string nm) ∧ w'.cell? ⟨w.heap.size + 1, 2, none⟩ = some (.string to)) ∧ (w'.cell? ⟨w.heap.size + 2, 0, none⟩ = some (.slice none 0 0) ∧ w'.cell? ⟨w.heap.size + 2, 1, none⟩ = some (.slice none 0 0) ∧ w'.cell? ⟨w.heap.size + 2, 2, none⟩ = some (.slice none 0 0) ∧ w'.cell? ⟨w.heap.size + 2, 3, none⟩ = some (.slice none 0 0) ∧ w'.cell? ⟨w.heap.size + 2, 4, none⟩ = some (.slice none 0 0) ∧ w'.cell? ⟨w.heap.size + 2, 5, none⟩ = some (.int .i64 0) ∧ w'.cell? ⟨w.heap.size + 2, 6, none⟩ = some (.slice none 0 0) ∧ w'.cell? ⟨w.heap.size + 2, 7, none⟩ = some (.int .i64 0) ∧ w'.cell? ⟨w.heap.size + 2, 8, none⟩ = some (.int .i64 0) ∧ w'.frozen? ⟨w.heap.size + 2, 0, none⟩ = false ∧ w'.frozen? ⟨w.heap.size + 2, 1, none⟩ = false ∧ w'.frozen? ⟨w.heap.size + 2, 2, none⟩ = false ∧ w'.frozen? ⟨w.heap.size + 2, 3, none⟩ = false ∧ w'.frozen? ⟨w.heap.size + 2, 4, none⟩ = false ∧ w'.frozen? ⟨w.heap.size + 2, 5, none⟩ = false ∧ w'.frozen? ⟨w.heap.size + 2, 6, none⟩ = false ∧ w'.frozen? ⟨w.heap.size + 2, 7, none⟩ = false ∧ w'.frozen? ⟨w.heap.size + 2, 8, none⟩ = false))) := fun Wx hb => by
              refine (namedRC _ _ nm (-1) 0 true (.inl ⟨rfl, rfl⟩) Wx (held_mono HR.out.now (FRA.out.bel.trans (hb.mono FRA.out.bel.size))) (by have := HB.out.2.2.1; omega)).mono ?_
              rintro e w' ⟨u, rfl, ho⟩
              obtain ⟨ya, yc, hu⟩ := ownNm_slice ho
              subst hu
              have hb2 := hb.trans (ho.2.mono hb.size)
              have hm := held_mask ho hb.size
              refine ⟨ya, _, yc, rfl, ⟨hb2, ?_⟩, KP.out w' hb2⟩
              have e9 : nmGo nm.data.toList 0 [] true (s.now) = delN s.now nm.data.toList := nmGo_del _ _
              rw [e9] at hm ⊢
              exact hm
            have CR : Hid (∀ Wx ya yn yc, Below w10.heap.size w10 Wx → HoldsNm (mask (fun x => x < w10.heap.size) Wx) (.slice ya yn yc) (delN s.now nm.data.toList) → Calls Tryz.prog 64 #[.agg #[.slice a0 n0 c0, .slice a1 n1 c1, .slice a2 n2 c2, .slice a3 n3 c3, .slice a4 n4 c4, .int .i64 s.room, .slice a6 n6 c6, .int .i64 s.power, .int .i64 (M : Int)], .slice ya yn yc] Wx fun e w' => ∃ za zn zc, e = .returned (.agg #[.slice ya yn yc, .slice a1 n1 c1, .slice za zn zc, .slice a3 n3 c3, .slice a4 n4 c4, .int .i64 s.room, .slice a6 n6 c6, .int .i64 s.power, .int .i64 (M : Int)]) ∧ Hid (Below w10.heap.size w10 w' ∧ HoldsNm (mask (fun x => x < w10.heap.size) w') (.slice ya yn yc) (delN s.now nm.data.toList) ∧ Held (mask (fun x => x < w10.heap.size) w') (.slice za zn zc) 1 (n2 + 1) (vs ++ [.slice ya yn yc])) ∧ ((w'.cell? ⟨w.heap.size, 0, none⟩ = some (.slice a0 n0 c0) ∧ w'.cell? ⟨w.heap.size, 1, none⟩ = some (.slice a1 n1 c1) ∧ w'.cell? ⟨w.heap.size, 2, none⟩ = some (.slice a2 n2 c2) ∧ w'.cell? ⟨w.heap.size, 3, none⟩ = some (.slice a3 n3 c3) ∧ w'.cell? ⟨w.heap.size, 4, none⟩ = some (.slice a4 n4 c4) ∧ w'.cell? ⟨w.heap.size, 5, none⟩ = some (.int .i64 s.room) ∧ w'.cell? ⟨w.heap.size, 6, none⟩ = some (.slice a6 n6 c6) ∧ w'.cell? ⟨w.heap.size, 7, none⟩ = some (.int .i64 s.power) ∧ w'.cell? ⟨w.heap.size, 8, none⟩ = some (.int .i64 (M : Int)) ∧ w'.cell? ⟨w.heap.size + 1, 1, none⟩ = some (.string nm) ∧ w'.cell? ⟨w.heap.size + 1, 2, none⟩ = some (.string to)) ∧ (w'.cell? ⟨w.heap.size + 2, 0, none⟩ = some (.slice none 0 0) ∧ w'.cell? ⟨w.heap.size + 2, 1, none⟩ = some (.slice none 0 0) ∧ w'.cell? ⟨w.heap.size + 2, 2, none⟩ = some (.slice none 0 0) ∧ w'.cell? ⟨w.heap.size + 2, 3, none⟩ = some (.slice none 0 0) ∧ w'.cell? ⟨w.heap.size + 2, 4, none⟩ = some (.slice none 0 0) ∧ w'.cell? ⟨w.heap.size + 2, 5, none⟩ = some (.int .i64 0) ∧ w'.cell? ⟨w.heap.size + 2, 6, none⟩ = some (.slice none 0 0) ∧ w'.cell? ⟨w.heap.size + 2, 7, none⟩ = some (.int .i64 0) ∧ w'.cell? ⟨w.heap.size + 2, 8, none⟩ = some (.int .i64 0) ∧ w'.frozen? ⟨w.heap.size + 2, 0, none⟩ = false ∧ w'.frozen? ⟨w.heap.size + 2, 1, none⟩ = false ∧ w'.frozen? ⟨w.heap.size + 2, 2, none⟩ = false ∧ w'.frozen? ⟨w.heap.size + 2, 3, none⟩ = false ∧ w'.frozen? ⟨w.heap.size + 2, 4, none⟩ = false ∧ w'.frozen? ⟨w.heap.size + 2, 5, none⟩ = false ∧ w'.frozen? ⟨w.heap.size + 2, 6, none⟩ = false ∧ w'.frozen? ⟨w.heap.size + 2, 7, none⟩ = false ∧ w'.frozen? ⟨w.heap.size + 2, 8, none⟩ = false))) := fun Wx ya yn yc hb hy => by
              refine (renamedRC ⟨a0, n0, c0⟩ ⟨a1, n1, c1⟩ ⟨a2, n2, c2⟩ ⟨a3, n3, c3⟩ ⟨a4, n4, c4⟩ ⟨a6, n6, c6⟩ ⟨ya, yn, yc⟩ s.room s.power M vs Wx (held_mono RAW.out (FRA.out.bel.trans (hb.mono FRA.out.bel.size))) RW1.out (by have := RW2.out; have := HB.out.2.2.2.2.1; show n2 ≤ 900000000; omega)).mono ?_
              rintro e w' ⟨z, rfl, h1, h2⟩
              have hb2 := hb.trans (h2.mono hb.size)
              refine ⟨z.a, z.n, z.c, rfl, ⟨hb2, ?_, ?_⟩, KP.out w' hb2⟩
              · exact held_sub (off_mask (S := fun x => x < w10.heap.size) (S' := fun x => x < w10.heap.size) (off_of h2) (fun _ hk => .inl hk)) hy
              · exact held_sub (mask_mono (fun x hx => Nat.lt_of_lt_of_le hx hb.size)) h1
            go_wp2_with fail
            go_region_held3 (fun w' => w'.cell? ⟨w.heap.size, 0, none⟩ = some (.slice a0 n0 c0) ∧ w'.cell? ⟨w.heap.size, 1, none⟩ = some (.slice a1 n1 c1) ∧ w'.cell? ⟨w.heap.size, 2, none⟩ = some (.slice a2 n2 c2) ∧ w'.cell? ⟨w.heap.size, 3, none⟩ = some (.slice a3 n3 c3) ∧ w'.cell? ⟨w.heap.size, 4, none⟩ = some (.slice a4 n4 c4) ∧ w'.cell? ⟨w.heap.size, 5, none⟩ = some (.int .i64 s.room) ∧ w'.cell? ⟨w.heap.size, 6, none⟩ = some (.slice a6 n6 c6) ∧ w'.cell? ⟨w.heap.size, 7, none⟩ = some (.int .i64 s.power) ∧ w'.cell? ⟨w.heap.size, 8, none⟩ = some (.int .i64 (M : Int)) ∧ w'.cell? ⟨w.heap.size + 1, 1, none⟩ = some (.string nm) ∧ w'.cell? ⟨w.heap.size + 1, 2, none⟩ = some (.string to)) (go_keep)
              (first
                | (go_at_call 65; refine (CN1.out _ ?_).mono ?_; (first | exact (Below.refl _ _).drew | exact Below.refl _ _); rintro e w11 ⟨ya, yn, yc, rfl, B11, ⟨⟨k0, k1, k2, k3, k4, k5, k6, k7, k8, k9, k10⟩, ⟨j0, j1, j2, j3, j4, j5, j6, j7, j8, f0, f1, f2, f3, f4, f5, f6, f7, f8⟩⟩⟩)
                | (go_at_call 64; refine (CR.out _ _ _ _ B11.out.1 B11.out.2).mono ?_; rintro e w12 ⟨za, zn, zc, rfl, B12, ⟨⟨m0, k1, k2, k3, k4, k5, k6, k7, k8, k9, k10⟩, ⟨j0, j1, j2, j3, j4, j5, j6, j7, j8, f0, f1, f2, f3, f4, f5, f6, f7, f8⟩⟩⟩))
            all_goals
              have FRZ := hide' (frm_below FRA.out B12.out.1)
              have NSUB : Hid (Sub (mask (fun x => x < w10.heap.size) w12) (hidM S w w12)) := new_sub HSS.out (by have := FRA.out.b2.2; omega)
              go_wp2_with fail
              have qe := frm_end (S := S) (s' := ({ s with n := s.n + 1 } : Dk).named (delN s.now nm.data.toList)) (x0 := ⟨ya, yn, yc⟩) (x1 := ⟨a1, n1, c1⟩) (x2 := ⟨za, zn, zc⟩) (x3 := ⟨a3, n3, c3⟩) (x4 := ⟨a4, n4, c4⟩) (x6 := ⟨a6, n6, c6⟩) (v0 := .slice ya yn yc) (v1 := .slice a1 n1 c1) (v2 := .slice za zn zc) (v3 := .slice a3 n3 c3) (v4 := .slice a4 n4 c4) (v5 := .int .i64 s.room) (v6 := .slice a6 n6 c6) (v7 := .int .i64 s.power) (v8 := .int .i64 (M : Int)) FRZ.out rfl (⟨held_sub NSUB.out B12.out.2.1, (refV_sub HQM.out (old_sub FRZ.out.bel)).safe, heldL_more nm_sub RW3.out RW2.out RW4.out (old_sub FRZ.out.bel) (held_sub NSUB.out B12.out.2.2) (held_sub NSUB.out B12.out.2.1), (refV_sub HQM.out (old_sub FRZ.out.bel)).data, (refV_sub HQM.out (old_sub FRZ.out.bel)).firm, (refV_sub HQM.out (old_sub FRZ.out.bel)).fails⟩)
              obtain ⟨qb, qr, ql⟩ := qe
              obtain ⟨q0, q1, q2, q3, q4, q5, q6, q7, q8⟩ := cells_9 qb
              simp only [putFrom] at q0 q1 q2 q3 q4 q5 q6 q7 q8
              exact bodyPost_ret (v := .tuple #[.agg #[.slice ya yn yc, .slice a1 n1 c1, .slice za zn zc, .slice a3 n3 c3, .slice a4 n4 c4, .int .i64 s.room, .slice a6 n6 c6, .int .i64 s.power, .int .i64 (M : Int)], .int .i64 (0)]) (by simp [results, Tryz.results29, go_sem, q0, q1, q2, q3, q4, q5, q6, q7, q8]) rfl (stepR_mk (s' := ({ s with n := s.n + 1 } : Dk).named (delN s.now nm.data.toList)) (by rw [HST.out]; rfl) ⟨ya, yn, yc⟩ ⟨a1, n1, c1⟩ ⟨za, zn, zc⟩ ⟨a3, n3, c3⟩ ⟨a4, n4, c4⟩ ⟨a6, n6, c6⟩ qr ql _ _ _ rfl rfl HM.out)
end Go.Proofs.YtijnjgnckipghaaGreat
