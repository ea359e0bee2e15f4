/- The contract of Request. -/
import Derived.Test.YtmikgpmnffdnnaaGreatDoorBd
import Derived.Test.YtmikgpmnffdnnaaGreatDoorBc
import Derived.Test.YtmikgpmnffdnnaaGreatDoorBa
namespace Go.Proofs.YtmikgpmnffdnnaaGreatDoor
open Go.RowKit
theorem parseF_fit : ∀ (n : Nat) (bs : List UInt8) (acc : FL) (N : Nat), bs.length ≤ N → (∀ f ∈ acc, f.1.length ≤ N ∧ f.2.length ≤ N) → ∀ f ∈ (parseF n bs acc).1, f.1.length ≤ N ∧ f.2.length ≤ N := by
  intro n
  induction n with
  | zero => intro bs acc N _ h; exact h
  | succ n ih =>
    intro bs acc N hN h
    unfold parseF
    split
    · exact h
    · cases hs : stepOf bs with
      | none => simp
      | some p =>
        obtain ⟨l, r⟩ := p
        have hl := step_len hs
        simp only
        split
        · simp
        · split
          · simp
          · refine ih r _ N (by omega) (fun f hf => ?_)
            rcases List.mem_append.1 hf with hf | hf
            · exact h f hf
            · obtain rfl := List.mem_singleton.1 hf
              have := line_len l
              omega
theorem parse_fit (bs : List UInt8) (hs : bs.length < 4294967281) : Fit (parseOf bs).1 := by
  intro f hf
  have := parseF_fit _ bs [] bs.length (Nat.le_refl _) (by simp) f hf
  omega
theorem blkH_len (h : List UInt8) : (blkH h).length ≤ h.length := by unfold blkH; rw [List.length_drop]; omega
theorem lineH_len (h : List UInt8) : (lineH h).length ≤ h.length := by unfold lineH; rw [List.length_take]; omega
theorem req_line (q : Rq × Int) (f : FL × Int) (n : Nat) (h : q.2 ≠ 0) : reqG q f n = (Rq.zero, 0, q.2) := by unfold reqG; rw [if_pos h]
theorem req_fields (q : Rq × Int) (f : FL × Int) (n : Nat) (h : q.2 = 0) (h2 : f.2 ≠ 0) : reqG q f n = (Rq.zero, 0, f.2) := by unfold reqG; rw [if_neg (by simpa using h), if_pos h2]
theorem req_hosts (q : Rq × Int) (f : FL × Int) (n : Nat) (h : q.2 = 0) (h2 : f.2 = 0) (h3 : hostBad f.1 q.1.k = true) : reqG q f n = (Rq.zero, 0, 40) := by unfold reqG; rw [if_neg (by simpa using h), if_neg (by simpa using h2), if_pos h3]
theorem req_good (q : Rq × Int) (f : FL × Int) (n : Nat) (h : q.2 = 0) (h2 : f.2 = 0) (h3 : hostBad f.1 q.1.k = false) : reqG q f n = (⟨q.1.m, q.1.t, q.1.k, f.1⟩, n, 0) := by unfold reqG; rw [if_neg (by simpa using h), if_neg (by simpa using h2), if_neg (by rw [h3]; simp)]
theorem lineQ_k (l : List UInt8) : (lineQ l).1.k = 0 ∨ (lineQ l).1.k = 1 := by
  unfold lineQ
  split
  · exact .inl rfl
  · split
    · rename_i h; rcases min_facts (past (past l)) with ⟨_, h3⟩ | ⟨h3, _⟩
      · exact h3
      · rw [h3] at h; cases h
    · exact .inl rfl
theorem lineQ_fs (l : List UInt8) : (lineQ l).1.fs = [] := by
  unfold lineQ
  split
  · rfl
  · split <;> rfl
def reqV (r : Rq × Nat × Int) (lv : Value) : Value := .tuple #[rqV r.1 lv, .int .i64 ((r.2.1 : Nat) : Int), .int .i64 r.2.2]
set_option maxRecDepth 20000 in
set_option maxHeartbeats 4000000 in
theorem reqC (v : Value) (bs : List UInt8) (w : World) (hv : HoldsB w v bs) (E : Env w) (hs : bs.length < 4294967281) :
    Calls Tryz.prog 30 #[v] w fun e w' => ∃ lv, e = .returned (reqV (reqOf bs) lv) ∧ OwnF w lv (reqOf bs).1.fs w' := by
  have b0 := below_alloc' w (.cells #[.string ⟨#[]⟩, .string ⟨#[]⟩, .int .i64 0, .slice none 0 0] 27)
  have Q0 := hide' (quad_lit w (.string ⟨#[]⟩) (.string ⟨#[]⟩) (.int .i64 0) (.slice none 0 0) 27)
  have B0 := hide' b0
  have HV := hide' (holdsB_mono hv b0)
  have EV := hide' (env_below E b0)
  have cL := hide' (leadTok v bs _ HV.out hs)
  have hpl := lead_bound bs
  obtain ⟨ao, cap, rfl, _⟩ := hv
  by_cases h0 : (endOf bs (leadOf bs)).1 = 0
  · have R := hide' (req_none bs h0)
    rw [R.out]
    have cS := hide' (fun W (hb : Below (w.alloc (.cells #[.string ⟨#[]⟩, .string ⟨#[]⟩, .int .i64 0, .slice none 0 0] 27)).heap.size (w.alloc (.cells #[.string ⟨#[]⟩, .string ⟨#[]⟩, .int .i64 0, .slice none 0 0] 27)) W) => splitNone _ bs (leadOf bs) W (holdsB_mono HV.out hb) (maxV_below EV.out.1 hb) hpl hs h0)
    generalize (endOf bs (leadOf bs)).2 = ee at cS ⊢
    obtain ⟨n, hn⟩ : ∃ n, n = bs.length := ⟨_, rfl⟩
    rw [← hn] at cL cS hs hpl ⊢
    generalize leadOf bs = p at cL cS hpl
    clear h0 R b0 hn EV HV E
    go_enter Tryz.func30, Tryz.ntmps30
    go_wp2_with fail
    refine cL.out.mono ?_
    rintro e w1 ⟨rfl, b1⟩
    have B1 := hide' (bt' B0.out b1)
    have Q1 := hide' (quad_below Q0.out b1)
    have N1 := hide' b1
    clear b1
    go_wp2_with fail
    refine (cS.out _ N1.out).mono ?_
    rintro e w2 ⟨rfl, b2⟩
    have B2 := hide' (bt' B1.out b2)
    have Q2 := hide' (quad_below Q1.out b2)
    clear b2
    obtain ⟨h0, h1, h2, h3, e0, e1, e2, e3, hz⟩ := Q2.out
    go_wp2_with fail
    obtain ⟨q0, q1, q2, q3⟩ := quad_store Q2.out (.string ⟨#[]⟩) (.string ⟨#[]⟩) (.int .i64 0) (.slice none 0 0)
    have qb := put4_below B2.out (Nat.le_refl _) (.string ⟨#[]⟩) (.string ⟨#[]⟩) (.int .i64 0) (.slice none 0 0)
    unfold put4 at q0 q1 q2 q3 qb
    exact bodyPost_ret (v := reqV (Rq.zero, 0, ee) (.slice none 0 0)) (by simp [results, Tryz.results30, go_sem, q0, q1, q2, q3, reqV, rqV, Rq.zero]) rfl ⟨_, rfl, ownF_nil _ _ qb⟩
  · obtain ⟨i, hi, he, hc, hl⟩ := end_facts bs _ h0
    have R := req_some bs (leadOf bs + i + 4) (by omega) he
    have cS := hide' (fun W (hb : Below (w.alloc (.cells #[.string ⟨#[]⟩, .string ⟨#[]⟩, .int .i64 0, .slice none 0 0] 27)).heap.size (w.alloc (.cells #[.string ⟨#[]⟩, .string ⟨#[]⟩, .int .i64 0, .slice none 0 0] 27)) W) => splitSome _ bs (leadOf bs) i W (holdsB_mono HV.out hb) (maxV_below EV.out.1 hb) hs hi hc hl)
    have hhl : (headH bs (leadOf bs) (leadOf bs + i + 4)).length ≤ bs.length := by unfold headH; rw [List.length_drop, List.length_take]; omega
    have l1 := lineH_len (headH bs (leadOf bs) (leadOf bs + i + 4))
    have l2 := blkH_len (headH bs (leadOf bs) (leadOf bs + i + 4))
    generalize lineH (headH bs (leadOf bs) (leadOf bs + i + 4)) = ln at R cS l1
    generalize blkH (headH bs (leadOf bs) (leadOf bs + i + 4)) = bk at R cS l2
    have hk := lineQ_k ln
    have hfs := lineQ_fs ln
    have cQ : ∀ W, MaxV W → Calls Tryz.prog 52 #[.string ⟨ln.toArray⟩] W fun e w' => e = .returned (lineQV (lineQ ln)) ∧ Below W.heap.size W w' := fun W hM => requestLineTok ⟨ln.toArray⟩ (by rw [size_l]; omega) W hM
    have hbk : bk.length < 4294967281 := by omega
    have ft := hide' (parse_fit bk hbk)
    have cF := hide' (fun W (bv : Value) (hb : HoldsB W bv bk) (hE : Env W) => parseC bv bk W hb hE hbk)
    have fl := parse_len bk
    generalize lineQ ln = q at R cQ hk hfs
    generalize parseOf bk = f at R cF ft fl
    obtain ⟨⟨qm, qt, qk, qf⟩, qe⟩ := q
    simp only at hk hfs
    subst hfs
    obtain ⟨fs, fe⟩ := f
    simp only at cF ft fl
    unfold lineQV rqV at cQ
    simp only at cQ
    obtain ⟨n, hn⟩ : ∃ n, n = bs.length := ⟨_, rfl⟩
    rw [← hn] at cL cS hs hpl hl ⊢
    obtain ⟨N, hN⟩ : ∃ N, N = leadOf bs + i + 4 := ⟨_, rfl⟩
    rw [← hN] at cS R
    have hNb : N ≤ 8192 := by omega
    have hN0 : ((N : Int) == 0) = false := by simp; omega
    generalize leadOf bs = p at cL cS hpl hN hc hl he hi R
    have CQ := hide' cQ
    have HC := hide' hc
    clear b0 hn E h0 hi he cQ HV hhl l1 l2 hN hc hl
    rw [R]
    by_cases g1 : qe = 0
    · subst g1
      by_cases g2 : fe = 0
      · subst g2
        have hfit := ft.out
        obtain ⟨nh, hnh⟩ : ∃ nh, nh = hostsOf fs := ⟨_, rfl⟩
        have HNH : Hid ((valsOf fs [72, 111, 115, 116]).length = nh) := hnh.symm
        have bad : Hid (hostBad fs qk = decide (1 < nh ∨ (nh = 0 ∧ qk = 1))) := by unfold Hid hostBad; rw [← hnh]
        have hfl : fs.length ≤ 100 := fl
        have hnl : nh ≤ 100 := by rw [hnh]; exact Nat.le_trans (vals_len _ _) fl
        by_cases n1 : 1 < nh
        · have t1 : decide ((1 : Int) < (nh : Int)) = true := by simp; omega
          have R' := hide' (req_hosts (⟨qm, qt, qk, []⟩, 0) (fs, 0) N rfl rfl (by rw [bad.out]; simp; omega))
          rw [R'.out]
          clear R' bad hnh R ft fl hk
          go_enter Tryz.func30, Tryz.ntmps30
          go_wp2_with fail
          refine cL.out.mono ?_
          rintro e w1 ⟨rfl, b1⟩
          have B1 := hide' (bt' B0.out b1)
          have Q1 := hide' (quad_below Q0.out b1)
          have E1 := hide' (env_below EV.out b1)
          have N1 := hide' b1
          clear b1
          go_wp2_with fail
          refine (cS.out _ N1.out).mono ?_
          rintro e w2 ⟨bv, rfl, hbv, b2⟩
          have B2 := hide' (bt' B1.out b2)
          have Q2 := hide' (quad_below Q1.out b2)
          have E2 := hide' (env_below E1.out b2)
          have H2 := hide' hbv
          clear b2 hbv
          go_wp2_with fail
          refine (CQ.out _ E2.out.1).mono ?_
          rintro e w3 ⟨rfl, b3⟩
          have B3 := hide' (bt' B2.out b3)
          have Q3 := hide' (quad_below Q2.out b3)
          have E3 := hide' (env_below E2.out b3)
          have H3 := hide' (holdsB_mono H2.out b3)
          clear b3
          have b4 := below_alloc' w3 (.cells #[.string ⟨qm.toArray⟩, .string ⟨qt.toArray⟩, .int .i64 qk, .slice none 0 0] 27)
          have B4 := hide' (bt' B3.out b4)
          have Q4 := hide' (quad_below Q3.out b4)
          have E4' := hide' (env_below E3.out b4)
          have H4 := hide' (holdsB_mono H3.out b4)
          have P4 := hide' (quad_lit w3 (.string ⟨qm.toArray⟩) (.string ⟨qt.toArray⟩) (.int .i64 qk) (.slice none 0 0) 27)
          clear b4
          go_wp2_with fail
          refine (cF.out _ _ H4.out E4'.out).mono ?_
          rintro e w5 ⟨lv, rfl, ho⟩
          obtain ⟨la, lc, lb, lo, hlv, _⟩ := holdsF_parts (holdsF_own ho)
          subst hlv
          have B5 := hide' (bt' B4.out ho.2)
          have Q5 := hide' (quad_below Q4.out ho.2)
          have P5' := hide' (quad_below P4.out ho.2)
          have R5 := hide' ho.1
          clear ho
          have hne : w.heap.size ≠ w3.heap.size := by have h := Q3.out.2.2.2.2.2.2.2.2; omega
          have B6 := hide' (B5.out.setCell (p := ⟨w3.heap.size, 3, none⟩) B3.out.size (.slice la fs.length lc))
          have Q6 := hide' (quad_other (o := 3) Q5.out hne (.slice la fs.length lc))
          have P6 := hide' (quad_set3 P5'.out (.slice la fs.length lc))
          have R6 := hide' (row_poke (o := 3) (x := (.slice la fs.length lc)) R5.out (b := w3.heap.size) (by simp))
          obtain ⟨h0, h1, h2, h3, e0, e1, e2, e3, hz⟩ := P5'.out
          obtain ⟨k0, k1, k2, k3, _⟩ := P6.out
          have cV := hide' (valuesTok (.slice la fs.length lc) fs hostN _ (holdsF_row R6.out) hfit (by decide) (by omega))
          unfold hostN at cV
          go_wp2_with fail
          refine cV.out.mono ?_
          rintro e w7 ⟨u, rfl, ho⟩
          have B7 := hide' (bt' B6.out ho.2)
          have Q7 := hide' (quad_below Q6.out ho.2)
          have P7 := hide' (quad_below P6.out ho.2)
          have R7 := hide' (row_below R6.out ho.2)
          obtain ⟨au, cu, bu, ou, hu, _⟩ := holds_parts (holds_own ho)
          have hun : (valsOf fs [72, 111, 115, 116]).length = nh := HNH.out
          rw [hun] at hu
          subst hu
          clear ho hun cV h0 h1 h2 h3 e0 e1 e2 e3 hz k0 k1 k2 k3
          obtain ⟨h0, h1, h2, h3, e0, e1, e2, e3, hz⟩ := P7.out
          obtain ⟨j0, j1, j2, j3, d0, d1, d2, d3, dz⟩ := Q7.out
          go_wp2_with fail
          obtain ⟨q0, q1, q2, q3⟩ := quad_store Q7.out (.string ⟨#[]⟩) (.string ⟨#[]⟩) (.int .i64 0) (.slice none 0 0)
          have qb := put4_below B7.out (Nat.le_refl _) (.string ⟨#[]⟩) (.string ⟨#[]⟩) (.int .i64 0) (.slice none 0 0)
          unfold put4 at q0 q1 q2 q3 qb
          exact bodyPost_ret (v := reqV (Rq.zero, 0, 40) (.slice none 0 0)) (by simp [results, Tryz.results30, go_sem, q0, q1, q2, q3, reqV, rqV, Rq.zero]) rfl ⟨_, rfl, ownF_nil _ _ qb⟩
        · have t1 : decide ((1 : Int) < (nh : Int)) = false := by simp; omega
          by_cases n0 : nh = 0
          · have t2 : ((nh : Int) == 0) = true := by rw [n0]; decide
            rcases hk with hk0 | hk0
            · have t3 : (qk == 1) = false := by rw [hk0]; decide
              have R' := hide' (req_good (⟨qm, qt, qk, []⟩, 0) (fs, 0) N rfl rfl (by rw [bad.out]; simp; omega))
              rw [R'.out]
              clear hk0 n0 R' bad hnh R ft fl
              go_enter Tryz.func30, Tryz.ntmps30
              go_wp2_with fail
              refine cL.out.mono ?_
              rintro e w1 ⟨rfl, b1⟩
              have B1 := hide' (bt' B0.out b1)
              have Q1 := hide' (quad_below Q0.out b1)
              have E1 := hide' (env_below EV.out b1)
              have N1 := hide' b1
              clear b1
              go_wp2_with fail
              refine (cS.out _ N1.out).mono ?_
              rintro e w2 ⟨bv, rfl, hbv, b2⟩
              have B2 := hide' (bt' B1.out b2)
              have Q2 := hide' (quad_below Q1.out b2)
              have E2 := hide' (env_below E1.out b2)
              have H2 := hide' hbv
              clear b2 hbv
              go_wp2_with fail
              refine (CQ.out _ E2.out.1).mono ?_
              rintro e w3 ⟨rfl, b3⟩
              have B3 := hide' (bt' B2.out b3)
              have Q3 := hide' (quad_below Q2.out b3)
              have E3 := hide' (env_below E2.out b3)
              have H3 := hide' (holdsB_mono H2.out b3)
              clear b3
              have b4 := below_alloc' w3 (.cells #[.string ⟨qm.toArray⟩, .string ⟨qt.toArray⟩, .int .i64 qk, .slice none 0 0] 27)
              have B4 := hide' (bt' B3.out b4)
              have Q4 := hide' (quad_below Q3.out b4)
              have E4' := hide' (env_below E3.out b4)
              have H4 := hide' (holdsB_mono H3.out b4)
              have P4 := hide' (quad_lit w3 (.string ⟨qm.toArray⟩) (.string ⟨qt.toArray⟩) (.int .i64 qk) (.slice none 0 0) 27)
              clear b4
              go_wp2_with fail
              refine (cF.out _ _ H4.out E4'.out).mono ?_
              rintro e w5 ⟨lv, rfl, ho⟩
              obtain ⟨la, lc, lb, lo, hlv, _⟩ := holdsF_parts (holdsF_own ho)
              subst hlv
              have B5 := hide' (bt' B4.out ho.2)
              have Q5 := hide' (quad_below Q4.out ho.2)
              have P5' := hide' (quad_below P4.out ho.2)
              have R5 := hide' ho.1
              clear ho
              have hne : w.heap.size ≠ w3.heap.size := by have h := Q3.out.2.2.2.2.2.2.2.2; omega
              have B6 := hide' (B5.out.setCell (p := ⟨w3.heap.size, 3, none⟩) B3.out.size (.slice la fs.length lc))
              have Q6 := hide' (quad_other (o := 3) Q5.out hne (.slice la fs.length lc))
              have P6 := hide' (quad_set3 P5'.out (.slice la fs.length lc))
              have R6 := hide' (row_poke (o := 3) (x := (.slice la fs.length lc)) R5.out (b := w3.heap.size) (by simp))
              obtain ⟨h0, h1, h2, h3, e0, e1, e2, e3, hz⟩ := P5'.out
              obtain ⟨k0, k1, k2, k3, _⟩ := P6.out
              have cV := hide' (valuesTok (.slice la fs.length lc) fs hostN _ (holdsF_row R6.out) hfit (by decide) (by omega))
              unfold hostN at cV
              go_wp2_with fail
              refine cV.out.mono ?_
              rintro e w7 ⟨u, rfl, ho⟩
              have B7 := hide' (bt' B6.out ho.2)
              have Q7 := hide' (quad_below Q6.out ho.2)
              have P7 := hide' (quad_below P6.out ho.2)
              have R7 := hide' (row_below R6.out ho.2)
              obtain ⟨au, cu, bu, ou, hu, _⟩ := holds_parts (holds_own ho)
              have hun : (valsOf fs [72, 111, 115, 116]).length = nh := HNH.out
              rw [hun] at hu
              subst hu
              clear ho hun cV h0 h1 h2 h3 e0 e1 e2 e3 hz k0 k1 k2 k3
              obtain ⟨h0, h1, h2, h3, e0, e1, e2, e3, hz⟩ := P7.out
              obtain ⟨j0, j1, j2, j3, d0, d1, d2, d3, dz⟩ := Q7.out
              go_wp2_with fail
              obtain ⟨q0, q1, q2, q3⟩ := quad_store Q7.out (.string ⟨qm.toArray⟩) (.string ⟨qt.toArray⟩) (.int .i64 qk) (.slice la fs.length lc)
              have qb := put4_below B7.out (Nat.le_refl _) (.string ⟨qm.toArray⟩) (.string ⟨qt.toArray⟩) (.int .i64 qk) (.slice la fs.length lc)
              have qr := row_base (row_put (v0 := .string ⟨qm.toArray⟩) (v1 := .string ⟨qt.toArray⟩) (v2 := .int .i64 qk) (v3 := (.slice la fs.length lc)) R7.out (b := w.heap.size) (by have h := Q4.out.2.2.2.2.2.2.2.2; exact h)) B4.out.size
              unfold put4 at q0 q1 q2 q3 qb qr
              exact bodyPost_ret (v := reqV (⟨qm, qt, qk, fs⟩, N, 0) (.slice la fs.length lc)) (by simp [results, Tryz.results30, go_sem, q0, q1, q2, q3, reqV, rqV]) rfl ⟨(.slice la fs.length lc), rfl, qr, qb⟩
            · have t3 : (qk == 1) = true := by rw [hk0]; decide
              have R' := hide' (req_hosts (⟨qm, qt, qk, []⟩, 0) (fs, 0) N rfl rfl (by rw [bad.out]; simp; omega))
              rw [R'.out]
              clear hk0 n0 R' bad hnh R ft fl
              go_enter Tryz.func30, Tryz.ntmps30
              go_wp2_with fail
              refine cL.out.mono ?_
              rintro e w1 ⟨rfl, b1⟩
              have B1 := hide' (bt' B0.out b1)
              have Q1 := hide' (quad_below Q0.out b1)
              have E1 := hide' (env_below EV.out b1)
              have N1 := hide' b1
              clear b1
              go_wp2_with fail
              refine (cS.out _ N1.out).mono ?_
              rintro e w2 ⟨bv, rfl, hbv, b2⟩
              have B2 := hide' (bt' B1.out b2)
              have Q2 := hide' (quad_below Q1.out b2)
              have E2 := hide' (env_below E1.out b2)
              have H2 := hide' hbv
              clear b2 hbv
              go_wp2_with fail
              refine (CQ.out _ E2.out.1).mono ?_
              rintro e w3 ⟨rfl, b3⟩
              have B3 := hide' (bt' B2.out b3)
              have Q3 := hide' (quad_below Q2.out b3)
              have E3 := hide' (env_below E2.out b3)
              have H3 := hide' (holdsB_mono H2.out b3)
              clear b3
              have b4 := below_alloc' w3 (.cells #[.string ⟨qm.toArray⟩, .string ⟨qt.toArray⟩, .int .i64 qk, .slice none 0 0] 27)
              have B4 := hide' (bt' B3.out b4)
              have Q4 := hide' (quad_below Q3.out b4)
              have E4' := hide' (env_below E3.out b4)
              have H4 := hide' (holdsB_mono H3.out b4)
              have P4 := hide' (quad_lit w3 (.string ⟨qm.toArray⟩) (.string ⟨qt.toArray⟩) (.int .i64 qk) (.slice none 0 0) 27)
              clear b4
              go_wp2_with fail
              refine (cF.out _ _ H4.out E4'.out).mono ?_
              rintro e w5 ⟨lv, rfl, ho⟩
              obtain ⟨la, lc, lb, lo, hlv, _⟩ := holdsF_parts (holdsF_own ho)
              subst hlv
              have B5 := hide' (bt' B4.out ho.2)
              have Q5 := hide' (quad_below Q4.out ho.2)
              have P5' := hide' (quad_below P4.out ho.2)
              have R5 := hide' ho.1
              clear ho
              have hne : w.heap.size ≠ w3.heap.size := by have h := Q3.out.2.2.2.2.2.2.2.2; omega
              have B6 := hide' (B5.out.setCell (p := ⟨w3.heap.size, 3, none⟩) B3.out.size (.slice la fs.length lc))
              have Q6 := hide' (quad_other (o := 3) Q5.out hne (.slice la fs.length lc))
              have P6 := hide' (quad_set3 P5'.out (.slice la fs.length lc))
              have R6 := hide' (row_poke (o := 3) (x := (.slice la fs.length lc)) R5.out (b := w3.heap.size) (by simp))
              obtain ⟨h0, h1, h2, h3, e0, e1, e2, e3, hz⟩ := P5'.out
              obtain ⟨k0, k1, k2, k3, _⟩ := P6.out
              have cV := hide' (valuesTok (.slice la fs.length lc) fs hostN _ (holdsF_row R6.out) hfit (by decide) (by omega))
              unfold hostN at cV
              go_wp2_with fail
              refine cV.out.mono ?_
              rintro e w7 ⟨u, rfl, ho⟩
              have B7 := hide' (bt' B6.out ho.2)
              have Q7 := hide' (quad_below Q6.out ho.2)
              have P7 := hide' (quad_below P6.out ho.2)
              have R7 := hide' (row_below R6.out ho.2)
              obtain ⟨au, cu, bu, ou, hu, _⟩ := holds_parts (holds_own ho)
              have hun : (valsOf fs [72, 111, 115, 116]).length = nh := HNH.out
              rw [hun] at hu
              subst hu
              clear ho hun cV h0 h1 h2 h3 e0 e1 e2 e3 hz k0 k1 k2 k3
              obtain ⟨h0, h1, h2, h3, e0, e1, e2, e3, hz⟩ := P7.out
              obtain ⟨j0, j1, j2, j3, d0, d1, d2, d3, dz⟩ := Q7.out
              go_wp2_with fail
              obtain ⟨q0, q1, q2, q3⟩ := quad_store Q7.out (.string ⟨#[]⟩) (.string ⟨#[]⟩) (.int .i64 0) (.slice none 0 0)
              have qb := put4_below B7.out (Nat.le_refl _) (.string ⟨#[]⟩) (.string ⟨#[]⟩) (.int .i64 0) (.slice none 0 0)
              unfold put4 at q0 q1 q2 q3 qb
              exact bodyPost_ret (v := reqV (Rq.zero, 0, 40) (.slice none 0 0)) (by simp [results, Tryz.results30, go_sem, q0, q1, q2, q3, reqV, rqV, Rq.zero]) rfl ⟨_, rfl, ownF_nil _ _ qb⟩
          · have t2 : ((nh : Int) == 0) = false := by simp; omega
            have R' := hide' (req_good (⟨qm, qt, qk, []⟩, 0) (fs, 0) N rfl rfl (by rw [bad.out]; simp; omega))
            rw [R'.out]
            clear R' bad hnh R ft fl hk
            go_enter Tryz.func30, Tryz.ntmps30
            go_wp2_with fail
            refine cL.out.mono ?_
            rintro e w1 ⟨rfl, b1⟩
            have B1 := hide' (bt' B0.out b1)
            have Q1 := hide' (quad_below Q0.out b1)
            have E1 := hide' (env_below EV.out b1)
            have N1 := hide' b1
            clear b1
            go_wp2_with fail
            refine (cS.out _ N1.out).mono ?_
            rintro e w2 ⟨bv, rfl, hbv, b2⟩
            have B2 := hide' (bt' B1.out b2)
            have Q2 := hide' (quad_below Q1.out b2)
            have E2 := hide' (env_below E1.out b2)
            have H2 := hide' hbv
            clear b2 hbv
            go_wp2_with fail
            refine (CQ.out _ E2.out.1).mono ?_
            rintro e w3 ⟨rfl, b3⟩
            have B3 := hide' (bt' B2.out b3)
            have Q3 := hide' (quad_below Q2.out b3)
            have E3 := hide' (env_below E2.out b3)
            have H3 := hide' (holdsB_mono H2.out b3)
            clear b3
            have b4 := below_alloc' w3 (.cells #[.string ⟨qm.toArray⟩, .string ⟨qt.toArray⟩, .int .i64 qk, .slice none 0 0] 27)
            have B4 := hide' (bt' B3.out b4)
            have Q4 := hide' (quad_below Q3.out b4)
            have E4' := hide' (env_below E3.out b4)
            have H4 := hide' (holdsB_mono H3.out b4)
            have P4 := hide' (quad_lit w3 (.string ⟨qm.toArray⟩) (.string ⟨qt.toArray⟩) (.int .i64 qk) (.slice none 0 0) 27)
            clear b4
            go_wp2_with fail
            refine (cF.out _ _ H4.out E4'.out).mono ?_
            rintro e w5 ⟨lv, rfl, ho⟩
            obtain ⟨la, lc, lb, lo, hlv, _⟩ := holdsF_parts (holdsF_own ho)
            subst hlv
            have B5 := hide' (bt' B4.out ho.2)
            have Q5 := hide' (quad_below Q4.out ho.2)
            have P5' := hide' (quad_below P4.out ho.2)
            have R5 := hide' ho.1
            clear ho
            have hne : w.heap.size ≠ w3.heap.size := by have h := Q3.out.2.2.2.2.2.2.2.2; omega
            have B6 := hide' (B5.out.setCell (p := ⟨w3.heap.size, 3, none⟩) B3.out.size (.slice la fs.length lc))
            have Q6 := hide' (quad_other (o := 3) Q5.out hne (.slice la fs.length lc))
            have P6 := hide' (quad_set3 P5'.out (.slice la fs.length lc))
            have R6 := hide' (row_poke (o := 3) (x := (.slice la fs.length lc)) R5.out (b := w3.heap.size) (by simp))
            obtain ⟨h0, h1, h2, h3, e0, e1, e2, e3, hz⟩ := P5'.out
            obtain ⟨k0, k1, k2, k3, _⟩ := P6.out
            have cV := hide' (valuesTok (.slice la fs.length lc) fs hostN _ (holdsF_row R6.out) hfit (by decide) (by omega))
            unfold hostN at cV
            go_wp2_with fail
            refine cV.out.mono ?_
            rintro e w7 ⟨u, rfl, ho⟩
            have B7 := hide' (bt' B6.out ho.2)
            have Q7 := hide' (quad_below Q6.out ho.2)
            have P7 := hide' (quad_below P6.out ho.2)
            have R7 := hide' (row_below R6.out ho.2)
            obtain ⟨au, cu, bu, ou, hu, _⟩ := holds_parts (holds_own ho)
            have hun : (valsOf fs [72, 111, 115, 116]).length = nh := HNH.out
            rw [hun] at hu
            subst hu
            clear ho hun cV h0 h1 h2 h3 e0 e1 e2 e3 hz k0 k1 k2 k3
            obtain ⟨h0, h1, h2, h3, e0, e1, e2, e3, hz⟩ := P7.out
            obtain ⟨j0, j1, j2, j3, d0, d1, d2, d3, dz⟩ := Q7.out
            go_wp2_with fail
            obtain ⟨q0, q1, q2, q3⟩ := quad_store Q7.out (.string ⟨qm.toArray⟩) (.string ⟨qt.toArray⟩) (.int .i64 qk) (.slice la fs.length lc)
            have qb := put4_below B7.out (Nat.le_refl _) (.string ⟨qm.toArray⟩) (.string ⟨qt.toArray⟩) (.int .i64 qk) (.slice la fs.length lc)
            have qr := row_base (row_put (v0 := .string ⟨qm.toArray⟩) (v1 := .string ⟨qt.toArray⟩) (v2 := .int .i64 qk) (v3 := (.slice la fs.length lc)) R7.out (b := w.heap.size) (by have h := Q4.out.2.2.2.2.2.2.2.2; exact h)) B4.out.size
            unfold put4 at q0 q1 q2 q3 qb qr
            exact bodyPost_ret (v := reqV (⟨qm, qt, qk, fs⟩, N, 0) (.slice la fs.length lc)) (by simp [results, Tryz.results30, go_sem, q0, q1, q2, q3, reqV, rqV]) rfl ⟨(.slice la fs.length lc), rfl, qr, qb⟩
      · have t2 : (fe != 0) = true := by simpa using g2
        have R' := hide' (req_fields (⟨qm, qt, qk, []⟩, 0) (fs, fe) N rfl g2)
        rw [R'.out]
        clear R' R ft fl hk g2
        go_enter Tryz.func30, Tryz.ntmps30
        go_wp2_with fail
        refine cL.out.mono ?_
        rintro e w1 ⟨rfl, b1⟩
        have B1 := hide' (bt' B0.out b1)
        have Q1 := hide' (quad_below Q0.out b1)
        have E1 := hide' (env_below EV.out b1)
        have N1 := hide' b1
        clear b1
        go_wp2_with fail
        refine (cS.out _ N1.out).mono ?_
        rintro e w2 ⟨bv, rfl, hbv, b2⟩
        have B2 := hide' (bt' B1.out b2)
        have Q2 := hide' (quad_below Q1.out b2)
        have E2 := hide' (env_below E1.out b2)
        have H2 := hide' hbv
        clear b2 hbv
        go_wp2_with fail
        refine (CQ.out _ E2.out.1).mono ?_
        rintro e w3 ⟨rfl, b3⟩
        have B3 := hide' (bt' B2.out b3)
        have Q3 := hide' (quad_below Q2.out b3)
        have E3 := hide' (env_below E2.out b3)
        have H3 := hide' (holdsB_mono H2.out b3)
        clear b3
        have b4 := below_alloc' w3 (.cells #[.string ⟨qm.toArray⟩, .string ⟨qt.toArray⟩, .int .i64 qk, .slice none 0 0] 27)
        have B4 := hide' (bt' B3.out b4)
        have Q4 := hide' (quad_below Q3.out b4)
        have E4' := hide' (env_below E3.out b4)
        have H4 := hide' (holdsB_mono H3.out b4)
        have P4 := hide' (quad_lit w3 (.string ⟨qm.toArray⟩) (.string ⟨qt.toArray⟩) (.int .i64 qk) (.slice none 0 0) 27)
        clear b4
        go_wp2_with fail
        refine (cF.out _ _ H4.out E4'.out).mono ?_
        rintro e w5 ⟨lv, rfl, ho⟩
        obtain ⟨la, lc, lb, lo, hlv, _⟩ := holdsF_parts (holdsF_own ho)
        subst hlv
        have B5 := hide' (bt' B4.out ho.2)
        have Q5 := hide' (quad_below Q4.out ho.2)
        have P5' := hide' (quad_below P4.out ho.2)
        have R5 := hide' ho.1
        clear ho
        have hne : w.heap.size ≠ w3.heap.size := by have h := Q3.out.2.2.2.2.2.2.2.2; omega
        have B6 := hide' (B5.out.setCell (p := ⟨w3.heap.size, 3, none⟩) B3.out.size (.slice la fs.length lc))
        have Q6 := hide' (quad_other (o := 3) Q5.out hne (.slice la fs.length lc))
        have P6 := hide' (quad_set3 P5'.out (.slice la fs.length lc))
        have R6 := hide' (row_poke (o := 3) (x := (.slice la fs.length lc)) R5.out (b := w3.heap.size) (by simp))
        obtain ⟨h0, h1, h2, h3, e0, e1, e2, e3, hz⟩ := P5'.out
        obtain ⟨k0, k1, k2, k3, _⟩ := P6.out
        obtain ⟨j0, j1, j2, j3, d0, d1, d2, d3, dz⟩ := Q6.out
        go_wp2_with fail
        obtain ⟨q0, q1, q2, q3⟩ := quad_store Q6.out (.string ⟨#[]⟩) (.string ⟨#[]⟩) (.int .i64 0) (.slice none 0 0)
        have qb := put4_below B6.out (Nat.le_refl _) (.string ⟨#[]⟩) (.string ⟨#[]⟩) (.int .i64 0) (.slice none 0 0)
        unfold put4 at q0 q1 q2 q3 qb
        exact bodyPost_ret (v := reqV (Rq.zero, 0, fe) (.slice none 0 0)) (by simp [results, Tryz.results30, go_sem, q0, q1, q2, q3, reqV, rqV, Rq.zero]) rfl ⟨_, rfl, ownF_nil _ _ qb⟩
    · have t2 : (qe != 0) = true := by simpa using g1
      have R' := hide' (req_line (⟨qm, qt, qk, []⟩, qe) (fs, fe) N g1)
      rw [R'.out]
      clear R' R ft fl hk g1
      go_enter Tryz.func30, Tryz.ntmps30
      go_wp2_with fail
      refine cL.out.mono ?_
      rintro e w1 ⟨rfl, b1⟩
      have B1 := hide' (bt' B0.out b1)
      have Q1 := hide' (quad_below Q0.out b1)
      have E1 := hide' (env_below EV.out b1)
      have N1 := hide' b1
      clear b1
      go_wp2_with fail
      refine (cS.out _ N1.out).mono ?_
      rintro e w2 ⟨bv, rfl, hbv, b2⟩
      have B2 := hide' (bt' B1.out b2)
      have Q2 := hide' (quad_below Q1.out b2)
      have E2 := hide' (env_below E1.out b2)
      have H2 := hide' hbv
      clear b2 hbv
      go_wp2_with fail
      refine (CQ.out _ E2.out.1).mono ?_
      rintro e w3 ⟨rfl, b3⟩
      have B3 := hide' (bt' B2.out b3)
      have Q3 := hide' (quad_below Q2.out b3)
      have E3 := hide' (env_below E2.out b3)
      have H3 := hide' (holdsB_mono H2.out b3)
      clear b3
      have b4 := below_alloc' w3 (.cells #[.string ⟨qm.toArray⟩, .string ⟨qt.toArray⟩, .int .i64 qk, .slice none 0 0] 27)
      have B4 := hide' (bt' B3.out b4)
      have Q4 := hide' (quad_below Q3.out b4)
      have E4' := hide' (env_below E3.out b4)
      have H4 := hide' (holdsB_mono H3.out b4)
      have P4 := hide' (quad_lit w3 (.string ⟨qm.toArray⟩) (.string ⟨qt.toArray⟩) (.int .i64 qk) (.slice none 0 0) 27)
      clear b4
      obtain ⟨j0, j1, j2, j3, d0, d1, d2, d3, dz⟩ := Q4.out
      go_wp2_with fail
      obtain ⟨q0, q1, q2, q3⟩ := quad_store Q4.out (.string ⟨#[]⟩) (.string ⟨#[]⟩) (.int .i64 0) (.slice none 0 0)
      have qb := put4_below B4.out (Nat.le_refl _) (.string ⟨#[]⟩) (.string ⟨#[]⟩) (.int .i64 0) (.slice none 0 0)
      unfold put4 at q0 q1 q2 q3 qb
      exact bodyPost_ret (v := reqV (Rq.zero, 0, qe) (.slice none 0 0)) (by simp [results, Tryz.results30, go_sem, q0, q1, q2, q3, reqV, rqV, Rq.zero]) rfl ⟨_, rfl, ownF_nil _ _ qb⟩
end Go.Proofs.YtmikgpmnffdnnaaGreatDoor
