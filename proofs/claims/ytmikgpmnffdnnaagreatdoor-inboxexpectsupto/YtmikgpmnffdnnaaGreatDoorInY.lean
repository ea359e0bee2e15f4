/- The contracts of Expects, the document's. -/
import Derived.Test.YtmikgpmnffdnnaaGreatDoorInE
import Derived.Test.YtmikgpmnffdnnaaGreatDoorBn
import Derived.Test.YtmikgpmnffdnnaaGreatDoorBi
import Derived.Test.YtmikgpmnffdnnaaGreatDoorHdO
namespace Go.Proofs.YtmikgpmnffdnnaaGreatDoor
open Go.RowKit
theorem expOf_of2 (b : List UInt8) (r : Rq) (n : Nat) (er : Int) (h : reqOf b = (r, n, er)) : expOf b = if er ≠ 0 ∨ n = 0 then false else expG r.k r.fs := by unfold expOf; rw [h]
set_option maxRecDepth 20000 in
set_option maxHeartbeats 4000000 in
theorem expRef (v : Value) (bs : List UInt8) (w : World) (hv : HoldsB w v bs) (hs : bs.length < 4294967281) :
    Calls Tryz.prog 19 #[v] w fun e w' => e = .returned (.bool (expOf bs)) ∧ Below w.heap.size w w' := by
  have cQ := refReq v bs w hv hs
  have hb := req_bulk bs
  obtain ⟨⟨⟨mt, tg, k, fs⟩, n, er⟩, hq⟩ : ∃ q, q = reqOf bs := ⟨_, rfl⟩
  rw [expOf_of2 bs _ _ _ hq.symm]
  rw [← hq] at cQ hb
  unfold reqV rqV at cQ
  simp only at cQ hb ⊢
  have CQ := hide' cQ
  have cH := hide' (fun W (u : Value) (h : HoldsF W u fs) => by have c := hasRef u fs exb c100 W h (by omega) (by decide); rw [vals_ex] at c; exact c)
  have cO := hide' (fun W (u : Value) (h : HoldsF W u fs) => ofReqRef mt tg k fs u W h (by omega))
  unfold expG
  generalize ruleOf k fs 0 = Q at cO ⊢
  generalize decide (c100 ∈ toksOf (valsOf fs EXb)) = d1 at cH ⊢
  obtain ⟨x1, x2, x3⟩ := Q
  unfold ansV at cO
  unfold exb c100 at cH
  simp only at cO ⊢
  obtain ⟨ao, cap, rfl, h0, hcp, _⟩ := hv
  clear cQ h0 hcp hq
  go_enter Tryz.func19, Tryz.ntmps19
  go_wp2_with fail
  refine CQ.out.mono ?_
  rintro e w1 ⟨lv, rfl, ho⟩
  have B1 := hide' ho.2
  have F1 := hide' (holdsF_own ho)
  obtain ⟨ua, uc, ub, uo, hu, _⟩ := holdsF_parts F1.out
  subst hu
  have b2 := below_alloc' w1 (.cells #[.string ⟨mt.toArray⟩, .string ⟨tg.toArray⟩, .int .i64 k, .slice ua fs.length uc] 27)
  have Q2 := hide' (quad_lit w1 (.string ⟨mt.toArray⟩) (.string ⟨tg.toArray⟩) (.int .i64 k) (.slice ua fs.length uc) 27)
  have B2 := hide' (bt' B1.out b2)
  have F2 := hide' (holdsF_mono F1.out b2)
  clear ho b2 CQ F1 B1
  by_cases h1 : er = 0
  · subst h1
    by_cases h2 : n = 0
    · subst h2
      clear cH cO
      go_wp2_with fail
      go_ret
      exact ⟨rfl, B2.out⟩
    · have hz : ((n : Int) == 0) = false := by simp; omega
      by_cases h3 : k = 1
      · subst h3
        obtain ⟨i0, i1, i2, i3, _⟩ := Q2.out
        go_wp2_with fail
        refine (cH.out _ _ F2.out).mono ?_
        rintro e w3 ⟨rfl, b3⟩
        have B3 := hide' (bt' B2.out b3)
        have Q3 := hide' (quad_below Q2.out b3)
        have F3 := hide' (holdsF_mono F2.out b3)
        clear b3 cH Q2 F2 B2 i0 i1 i2 i3
        cases d1 with
        | false =>
          go_wp2_with fail
          go_ret
          exact ⟨by simp, B3.out⟩
        | true =>
          obtain ⟨i0, i1, i2, i3, _⟩ := Q3.out
          go_wp2_with fail
          refine (cO.out _ _ F3.out).mono ?_
          rintro e w5 ⟨rfl, b5⟩
          have B5 := hide' (bt' B3.out b5)
          have b6 := below_alloc' w5 (.cells #[.int .i64 x1, .int .i64 x2] 60)
          have B6 := hide' (bt' B5.out b6)
          obtain ⟨j0, j1, _⟩ := duo_lit w5 (.int .i64 x1) (.int .i64 x2) 60
          clear b5 b6 cO Q3 F3 i0 i1 i2 i3
          by_cases h4 : x3 = 0
          · subst h4
            by_cases h5 : x1 = 1
            · subst h5
              go_wp2_with fail
              go_ret
              exact ⟨by simp, B6.out⟩
            · have h5' : (x1 == 1) = false := by simpa using h5
              by_cases h6 : x1 = 2
              · subst h6
                go_wp2_with fail
                go_ret
                exact ⟨by simp, B6.out⟩
              · have h6' : (x1 == 2) = false := by simpa using h6
                go_wp2_with fail
                go_ret
                exact ⟨by simp, B6.out⟩
          · have h4' : (x3 == 0) = false := by simpa using h4
            go_wp2_with fail
            go_ret
            exact ⟨by simp, B6.out⟩
      · have h3' : (k == 1) = false := by simpa using h3
        have h3'' : (k != 1) = true := by simpa using h3
        obtain ⟨i0, i1, i2, i3, _⟩ := Q2.out
        clear cH cO
        go_wp2_with fail
        go_ret
        exact ⟨by simp, B2.out⟩
  · have h1' : (er == 0) = false := by simpa using h1
    have h1'' : (er != 0) = true := by simpa using h1
    clear cH cO
    go_wp2_with fail
    go_ret
    exact ⟨by simp, B2.out⟩
end Go.Proofs.YtmikgpmnffdnnaaGreatDoor
