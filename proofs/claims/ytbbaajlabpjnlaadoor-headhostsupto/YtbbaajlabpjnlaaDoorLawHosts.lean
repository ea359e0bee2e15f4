/- The walk of HeadHosts. -/
import Derived.Test.YtbbaajlabpjnlaaDoorHdJ
import Derived.Test.YtbbaajlabpjnlaaDoorHdG
namespace Go.Proofs.YtbbaajlabpjnlaaDoor
open Go.RowKit
namespace headHosts
theorem ne_isEmpty (l : List UInt8) (h : l ≠ []) : l.isEmpty = false := by cases l with | nil => exact absurd rfl h | cons _ _ => rfl
set_option maxRecDepth 20000 in
set_option maxHeartbeats 4000000 in
theorem walk (v : Value) (bs : List UInt8) (w : World) (hv : HoldsB w v bs) (hl : bs.length ≤ 1048576) (E : Env w) :
    Calls Tryd.prog 4 #[v] w fun e w' => e = .returned (.bool true) ∧ Below w.heap.size w w' := by
  have HV := hide' hv
  have EV := hide' E
  have c0 := hide' (aliveHC w E)
  have cR := hide' (fun W (u : Value) (hb : HoldsB W u bs) (hE : Env W) => reqC u bs W hb hE (by omega))
  unfold reqV rqV at cR
  have cC := hide' (fun W (hb : Below w.heap.size w W) => copyB v bs W (holdsB_mono HV.out hb) (by omega))
  have no := req_nothing bs
  have ho := req_host bs
  have hN : (reqOf bs).2.1 ≤ 8192 := by
    rcases Nat.eq_zero_or_pos (reqOf bs).2.1 with h | h
    · omega
    · exact (ho h).1
  have hfit : Hid (Fit (reqOf bs).1.fs) := by
    unfold Hid
    by_cases h0 : (endOf bs (leadOf bs)).1 = 0
    · rw [req_none bs h0]; intro f hf; cases hf
    · obtain ⟨i, hi, he, hc, hl2⟩ := end_facts bs _ h0
      have hs := req_some bs (leadOf bs + i + 4) (by omega) he
      rcases reqG_facts (lineQ (lineH (headH bs (leadOf bs) (leadOf bs + i + 4)))) (parseOf (blkH (headH bs (leadOf bs) (leadOf bs + i + 4)))) (leadOf bs + i + 4) with ⟨_, _, a3, _⟩ | ⟨_, a2⟩
      · rw [← hs] at a3
        rw [a3]
        refine parse_fit _ ?_
        have h1 := blkH_len (headH bs (leadOf bs) (leadOf bs + i + 4))
        have h2 : (headH bs (leadOf bs) (leadOf bs + i + 4)).length ≤ bs.length := by unfold headH; rw [List.length_drop, List.length_take]; omega
        omega
      · rw [← hs] at a2
        rw [a2]; intro f hf; cases hf
  generalize reqOf bs = R at cR no ho hN hfit
  obtain ⟨⟨qm, qt, qk, fs⟩, N, ee⟩ := R
  simp only at cR no ho hN hfit
  obtain ⟨ao, cap, rfl, _⟩ := hv
  obtain ⟨n, hn⟩ : ∃ n, n = bs.length := ⟨_, rfl⟩
  rw [← hn] at hl ho cC ⊢
  clear E hn
  by_cases hz : ee = 0 ∧ 0 < N
  · obtain ⟨he, hp⟩ := hz
    subst he
    obtain ⟨_, f2, f3, f4, f5, f6, f7, f8⟩ := ho hp
    have t0 : ((N : Int) == 0) = false := by simp; omega
    have t1 : decide ((N : Int) ≤ 8192) = true := by simp; omega
    have t2 : decide ((N : Int) ≤ (n : Int)) = true := by simp; omega
    have t3 := ne_isEmpty qm f3
    have t4 := ne_isEmpty qt f4
    have t8 : decide ((fs.length : Int) ≤ 100) = true := by simp; omega
    obtain ⟨nh, hnh⟩ : ∃ nh, nh = hostsOf fs := ⟨_, rfl⟩
    have HNH : Hid ((valsOf fs [104, 111, 115, 116]).length = nh) := by unfold Hid; rw [hnh]; unfold hostsOf; rw [← host_same]; rfl
    rw [← hnh] at f5 f6
    have t5 : decide ((nh : Int) ≤ 1) = true := by simp; omega
    have hfl : fs.length ≤ 100 := f8
    have key : (((nh : Int) == 1) = true ∧ ((qk == 0) = true ∨ ((qk == 0) = false ∧ (qk == 1) = true))) ∨ (((nh : Int) == 1) = false ∧ (qk == 0) = true) := by
      rcases f7 with h | h
      · rcases f6 with g | g
        · left; subst h; exact ⟨by simp; omega, .inl rfl⟩
        · by_cases g2 : nh = 1
          · left; subst h; exact ⟨by simp; omega, .inl rfl⟩
          · right; subst h; exact ⟨by simp; omega, rfl⟩
      · rcases f6 with g | g
        · left; subst h; exact ⟨by simp; omega, .inr ⟨by decide, by decide⟩⟩
        · omega
    clear no ho f3 f4 f5 f6 f7 f8 hnh hp
    rcases key with ⟨k1, k2 | ⟨k2, k3⟩⟩ | ⟨k1, k2⟩
    all_goals
      go_enter Tryd.func4, Tryd.ntmps4
      go_wp2_with fail
      refine c0.out.mono ?_
      rintro e w1 ⟨rfl, b1⟩
      have B1 := hide' b1
      clear b1
      go_wp2_with fail
      refine (cC.out _ B1.out).mono ?_
      rintro e w2 ⟨u2, rfl, ho2⟩
      have B2 := hide' (bt' B1.out ho2.2)
      have H2 := hide' (holdsB_own ho2)
      clear ho2
      go_wp2_with fail
      refine (cR.out _ _ H2.out (env_below EV.out B2.out)).mono ?_
      rintro e w3 ⟨lv, rfl, ho3⟩
      have B3 := hide' (bt' B2.out ho3.2)
      have F3 := hide' (holdsF_own ho3)
      obtain ⟨la, lc, lb, lo, hlv, _⟩ := holdsF_parts F3.out
      subst hlv
      clear ho3
      have b4 := below_alloc' w3 (.cells #[.string ⟨qm.toArray⟩, .string ⟨qt.toArray⟩, .int .i64 qk, .slice la fs.length lc] 27)
      have B4 := hide' (bt' B3.out b4)
      have F4 := hide' (holdsF_mono F3.out b4)
      have Q4 := hide' (quad_lit w3 (.string ⟨qm.toArray⟩) (.string ⟨qt.toArray⟩) (.int .i64 qk) (.slice la fs.length lc) 27)
      clear b4
      go_wp2_with fail
      refine (valuesTok _ fs [104, 111, 115, 116] _ F4.out hfit.out (by decide) (by omega)).mono ?_
      rintro e w5 ⟨u5, rfl, ho5⟩
      have B5 := hide' (bt' B4.out ho5.2)
      have Q5 := hide' (quad_below Q4.out ho5.2)
      obtain ⟨au, cu, bu, ou, hu, _⟩ := holds_parts (holds_own ho5)
      rw [HNH.out] at hu
      subst hu
      clear ho5
      obtain ⟨h0, h1, h2, h3, _⟩ := Q5.out
      go_wp2_with fail
      go_ret
      exact ⟨rfl, B5.out⟩
  · have h2 : ee ≠ 0 ∨ N = 0 := by
      by_cases h : ee = 0
      · right; rcases Nat.eq_zero_or_pos N with h' | h'
        · exact h'
        · exact absurd ⟨h, h'⟩ hz
      · exact .inl h
    obtain ⟨g1, g2⟩ := no h2
    subst g1 g2
    clear no ho hz h2
    by_cases he : ee = 0
    · subst he
      go_enter Tryd.func4, Tryd.ntmps4
      go_wp2_with fail
      refine c0.out.mono ?_
      rintro e w1 ⟨rfl, b1⟩
      have B1 := hide' b1
      clear b1
      go_wp2_with fail
      refine (cC.out _ B1.out).mono ?_
      rintro e w2 ⟨u2, rfl, ho2⟩
      have B2 := hide' (bt' B1.out ho2.2)
      have H2 := hide' (holdsB_own ho2)
      clear ho2
      go_wp2_with fail
      refine (cR.out _ _ H2.out (env_below EV.out B2.out)).mono ?_
      rintro e w3 ⟨lv, rfl, ho3⟩
      have B3 := hide' (bt' B2.out ho3.2)
      obtain ⟨la, lc, lb, lo, hlv, _⟩ := holdsF_parts (holdsF_own ho3)
      subst hlv
      clear ho3
      simp only [List.length_nil]
      go_wp2_with fail
      go_ret
      exact ⟨rfl, B3.out.alloc B3.out.size _⟩
    · have t1 : (ee != 0) = true := by simpa using he
      clear he
      go_enter Tryd.func4, Tryd.ntmps4
      go_wp2_with fail
      refine c0.out.mono ?_
      rintro e w1 ⟨rfl, b1⟩
      have B1 := hide' b1
      clear b1
      go_wp2_with fail
      refine (cC.out _ B1.out).mono ?_
      rintro e w2 ⟨u2, rfl, ho2⟩
      have B2 := hide' (bt' B1.out ho2.2)
      have H2 := hide' (holdsB_own ho2)
      clear ho2
      go_wp2_with fail
      refine (cR.out _ _ H2.out (env_below EV.out B2.out)).mono ?_
      rintro e w3 ⟨lv, rfl, ho3⟩
      have B3 := hide' (bt' B2.out ho3.2)
      obtain ⟨la, lc, lb, lo, hlv, _⟩ := holdsF_parts (holdsF_own ho3)
      subst hlv
      clear ho3
      simp only [List.length_nil]
      go_wp2_with fail
      go_ret
      exact ⟨rfl, B3.out.alloc B3.out.size _⟩
end headHosts
end Go.Proofs.YtbbaajlabpjnlaaDoor
