/- The contract of responseLine. -/
import Derived.Lib.AtoiErrMem
import Derived.Lib.Atoi
import Derived.Test.YtibjcofbhldenaaGreatDoorZ09
import Derived.Test.YtibjcofbhldenaaGreatDoorZ01
namespace Go.Proofs.YtibjcofbhldenaaGreatDoor
open Go.RowKit
/-- a response as the model holds it, its fields being lv -/
def rsV (r : Rs) (lv : Value) : Value := .agg #[.int .i64 r.s, .string ⟨r.r.toArray⟩, .int .i64 r.k, lv]
def lineRV (q : Rs × Int) : Value := .tuple #[rsV q.1 (.slice none 0 0), .int .i64 q.2]
theorem three_of' (l : List UInt8) (h : l.length = 3) : ∃ a b c, l = [a, b, c] := by
  match l, h with
  | [a, b, c], _ => exact ⟨a, b, c, rfl⟩
theorem dig_nat {c : UInt8} (h : dig c = true) : 48 ≤ c.toNat ∧ c.toNat ≤ 57 := by
  unfold dig digI at h
  simp at h
  omega
theorem atoi3 (l : List UInt8) (h : l.length = 3) (hd : l.all dig = true) : Lib.atoi l = some (num3 l) := by
  obtain ⟨a, b, c, rfl⟩ := three_of' l h
  simp only [List.all_cons, List.all_nil, Bool.and_true, Bool.and_eq_true] at hd
  obtain ⟨ha, hb, hc⟩ := hd
  have da := dig_nat ha
  have db := dig_nat hb
  have dc := dig_nat hc
  have n1 : (a == 45) = false := by
    rw [beq_eq_false_iff_ne]; intro e; subst e; exact absurd da (by decide)
  have n2 : (a == 43) = false := by
    rw [beq_eq_false_iff_ne]; intro e; subst e; exact absurd da (by decide)
  simp only [Lib.atoi, n1, n2, Bool.false_eq_true, if_false, Lib.decNat, List.isEmpty_cons, Lib.decFrom, Lib.digitVal, if_pos da, if_pos db, if_pos dc, Option.map_some, Option.some.injEq]
  show _ = (a.toNat : Int) * 100 + (b.toNat : Int) * 10 + (c.toNat : Int) - 5328
  omega
theorem num3_bound (l : List UInt8) (h : l.length = 3) (hd : l.all dig = true) : 0 ≤ num3 l ∧ num3 l ≤ 999 := by
  obtain ⟨a, b, c, rfl⟩ := three_of' l h
  simp only [List.all_cons, List.all_nil, Bool.and_true, Bool.and_eq_true] at hd
  have da := dig_nat hd.1
  have db := dig_nat hd.2.1
  have dc := dig_nat hd.2.2
  show 0 ≤ (a.toNat : Int) * 100 + (b.toNat : Int) * 10 + (c.toNat : Int) - 5328 ∧ (a.toNat : Int) * 100 + (b.toNat : Int) * 10 + (c.toNat : Int) - 5328 ≤ 999
  omega
theorem atoiTok (l : List UInt8) (h : l.length = 3) (hd : l.all dig = true) (w : World) :
    Calls Tryz.prog 244 #[.string ⟨l.toArray⟩] w fun e w' => e = .returned (.tuple #[.int .i64 (num3 l), .nilIface]) ∧ Below w.heap.size w w' := by
  refine (Any.strconv_Atoi Tryz.lays172 ⟨l.toArray⟩ (num3 l) (by rw [size_l]; omega) (atoi3 l h hd) w).mono ?_
  rintro e w' ⟨rfl, t, rfl⟩
  exact ⟨rfl, Lib.bytesWorld_below _ _ _⟩
theorem statusTok (n : Int) (h0 : 0 ≤ n) (h1 : n ≤ 1000) (w : World) :
    Calls Tryz.prog 152 #[.int .i64 n] w fun e w' => e = .returned (.bool (goodS n)) ∧ w' = w := by
  by_cases a1 : 100 ≤ n
  · by_cases a2 : n ≤ 599
    · have H : Hid (goodS n = true) := by unfold Hid goodS; simp; omega
      have b2 : decide (n ≤ 599) = true := by simpa using a2
      have b1 : decide (100 ≤ n) = true := by simpa using a1
      go_enter Tryz.func152, Tryz.ntmps152
      go_wp2
      go_ret
      rw [H.out]
      exact ⟨rfl, rfl⟩
    · have b2 : decide (n ≤ 599) = false := by simpa using a2
      have b1 : decide (100 ≤ n) = true := by simpa using a1
      have H : Hid (goodS n = false) := by unfold Hid goodS; simp; omega
      go_enter Tryz.func152, Tryz.ntmps152
      go_wp2
      go_ret
      rw [H.out]
      exact ⟨rfl, rfl⟩
  · have b2 : decide (100 ≤ n) = false := by simpa using a1
    have H : Hid (goodS n = false) := by unfold Hid goodS; simp; omega
    go_enter Tryz.func152, Tryz.ntmps152
    go_wp2
    go_ret
    rw [H.out]
    exact ⟨rfl, rfl⟩
theorem lineR_ver (l : List UInt8) (h : isVer (word l) = false) : lineR l = (Rs.zero, 50) := by unfold lineR; rw [h]; rfl
theorem lineR_len (l : List UInt8) (h : ¬ (word (past l)).length = 3) : lineR l = (Rs.zero, 50) := by unfold lineR; rw [decide_eq_false h, Bool.false_and, Bool.and_false]; rfl
theorem lineR_dig (l : List UInt8) (h : (word (past l)).all dig = false) : lineR l = (Rs.zero, 50) := by unfold lineR; rw [h, Bool.false_and, Bool.and_false, Bool.and_false]; rfl
theorem lineR_txt (l : List UInt8) (h : (past (past l)).all txt = false) : lineR l = (Rs.zero, 50) := by unfold lineR; rw [h, Bool.and_false, Bool.and_false, Bool.and_false]; rfl
theorem lineR_all (l : List UInt8) (h1 : isVer (word l) = true) (h2 : (word (past l)).length = 3) (h3 : (word (past l)).all dig = true) (h4 : (past (past l)).all txt = true) :
    lineR l = if (minOf (word l)).2 = 0 then (if goodS (num3 (word (past l))) = true then (⟨num3 (word (past l)), past (past l), (minOf (word l)).1, []⟩, 0) else (Rs.zero, 53)) else (Rs.zero, 52) := by
  unfold lineR; rw [h1, decide_eq_true h2, h3, h4]; rfl
set_option maxRecDepth 20000 in
set_option maxHeartbeats 4000000 in
theorem responseLineTok (s : ByteArray) (hs : s.size < 4294967281) (w : World) (M : MaxV w) :
    Calls Tryz.prog 217 #[.string s] w fun e w' => e = .returned (lineRV (lineR s.data.toList)) ∧ Below w.heap.size w w' := by
  have b0 := below_alloc' w (.cells #[.int .i64 0, .string ⟨#[]⟩, .int .i64 0, .slice none 0 0] 56)
  have Q0 := hide' (quad_lit w (.int .i64 0) (.string ⟨#[]⟩) (.int .i64 0) (.slice none 0 0) 56)
  have c1 := hide' (cutBlank s hs _ (maxV_below M b0))
  have MV := hide' (maxV_below M b0)
  have B0 := hide' b0
  have hl : s.data.toList.length = s.size := by simp
  have z1 := word_len s.data.toList
  have z2 := past_len s.data.toList
  have z3 := word_len (past s.data.toList)
  have z4 := past_len (past s.data.toList)
  rw [hl] at z1 z2
  have f1 := lineR_ver s.data.toList
  have f2 := lineR_len s.data.toList
  have f3 := lineR_dig s.data.toList
  have f4 := lineR_txt s.data.toList
  have f5 := lineR_all s.data.toList
  have c2 : ∀ W, MaxV W → Calls Tryz.prog 240 #[.string ⟨(past s.data.toList).toArray⟩, .string ⟨#[32]⟩] W fun e w' => e = .returned (.tuple #[.string ⟨(word (past s.data.toList)).toArray⟩, .string ⟨(past (past s.data.toList)).toArray⟩, .bool (! (past s.data.toList).all noBl)]) ∧ Below W.heap.size W w' := fun W hM => cutBlank ⟨(past s.data.toList).toArray⟩ (by rw [size_l]; omega) W hM
  have k1 : ∀ W, Calls Tryz.prog 241 #[.string ⟨(word s.data.toList).toArray⟩] W fun e w' => e = .returned (.bool (isVer (word s.data.toList))) ∧ w' = W := fun W => isVersionTok ⟨(word s.data.toList).toArray⟩ W
  have k2 : ∀ W, Calls Tryz.prog 150 #[.string ⟨(word (past s.data.toList)).toArray⟩, .func (.func 242) #[] #[]] W fun e w' => e = .returned (.bool ((word (past s.data.toList)).all dig)) ∧ w' = W := fun W => everyDig ⟨(word (past s.data.toList)).toArray⟩ W (by rw [size_l]; omega)
  have k3 : ∀ W, Calls Tryz.prog 150 #[.string ⟨(past (past s.data.toList)).toArray⟩, .func (.func 151) #[] #[]] W fun e w' => e = .returned (.bool ((past (past s.data.toList)).all txt)) ∧ w' = W := fun W => everyTxt ⟨(past (past s.data.toList)).toArray⟩ W (by rw [size_l]; omega)
  have k4 : ∀ W, Calls Tryz.prog 243 #[.string ⟨(word s.data.toList).toArray⟩] W fun e w' => e = .returned (.tuple #[.int .i64 (minOf (word s.data.toList)).1, .int .i64 (minOf (word s.data.toList)).2]) ∧ w' = W := fun W => minorTok ⟨(word s.data.toList).toArray⟩ W
  generalize lineR s.data.toList = LQ at f1 f2 f3 f4 f5 ⊢
  generalize (! s.data.toList.all noBl) = g1 at c1
  generalize (! (past s.data.toList).all noBl) = g2 at c2
  generalize past (past s.data.toList) = pr at c2 k3 f4 f5 z4
  generalize word (past s.data.toList) = pd at c2 k2 f2 f3 f5 z3
  generalize past s.data.toList = pq at c1 c2 z2 z3 z4
  generalize word s.data.toList = pv at c1 k1 k4 f1 f5 z1
  have C2 := hide' c2
  have K1 := hide' k1
  have K2 := hide' k2
  have K3 := hide' k3
  have K4 := hide' k4
  have KA := hide' (fun h hd W => atoiTok pd h hd W)
  have NB := hide' (num3_bound pd)
  have MF := hide' (min_facts pv)
  have F1 := hide' f1
  have F2 := hide' f2
  have F3 := hide' f3
  have F4 := hide' f4
  have F5 := hide' f5
  have z5 : pd.length < 4294967281 := by omega
  have z6 : pr.length < 4294967281 := by omega
  clear c2 b0 M hl z1 z2 z3 z4 k1 k2 k3 k4 f1 f2 f3 f4 f5
  go_enter Tryz.func217, Tryz.ntmps217
  go_wp2_with fail
  refine c1.out.mono ?_
  rintro e w1 ⟨rfl, b1⟩
  have B1 := hide' (bt' B0.out b1)
  have Q1 := hide' (quad_below Q0.out b1)
  have M1 := hide' (maxV_below MV.out b1)
  clear b1 c1
  go_wp2_with fail
  refine (C2.out _ M1.out).mono ?_
  rintro e w2 ⟨rfl, b2⟩
  have B2 := hide' (bt' B1.out b2)
  have Q2 := hide' (quad_below Q1.out b2)
  clear b2
  obtain ⟨q0', q1', q2', q3'⟩ := quad_store Q2.out (.int .i64 0) (.string ⟨#[]⟩) (.int .i64 0) (.slice none 0 0)
  have qb := hide' (put4_below B2.out (Nat.le_refl _) (.int .i64 0) (.string ⟨#[]⟩) (.int .i64 0) (.slice none 0 0))
  have QS := hide' (And.intro q0' (And.intro q1' (And.intro q2' q3')))
  clear q0' q1' q2' q3'
  obtain ⟨h0, h1, h2, h3, e0, e1, e2, e3, hz⟩ := Q2.out
  go_wp2_with fail
  refine (K1.out _).mono ?_
  rintro e w' ⟨rfl, rfl⟩
  cases hv : isVer pv with
  | false =>
    have R := hide' (F1.out hv)
    clear hv
    go_wp2_with fail
    obtain ⟨q0, q1, q2, q3⟩ := QS.out
    have qb := qb.out
    unfold put4 at q0 q1 q2 q3 qb
    exact bodyPost_ret (v := lineRV (Rs.zero, 50)) (by simp [results, Tryz.results217, go_sem, q0, q1, q2, q3, lineRV, rsV, Rs.zero]) rfl ⟨by rw [R.out], qb⟩
  | true =>
    have HV := hide' hv
    clear hv
    by_cases hn : pd.length = 3
    · have HN := hide' hn
      have t3 : ((pd.length : Int) != 3) = false := by rw [hn]; decide
      clear hn
      go_wp2_with fail
      refine (K2.out _).mono ?_
      rintro e w' ⟨rfl, rfl⟩
      cases hd : pd.all dig with
      | false =>
        have R := hide' (F3.out hd)
        clear hd
        go_wp2_with fail
        obtain ⟨q0, q1, q2, q3⟩ := QS.out
        have qb := qb.out
        unfold put4 at q0 q1 q2 q3 qb
        exact bodyPost_ret (v := lineRV (Rs.zero, 50)) (by simp [results, Tryz.results217, go_sem, q0, q1, q2, q3, lineRV, rsV, Rs.zero]) rfl ⟨by rw [R.out], qb⟩
      | true =>
        have HD := hide' hd
        clear hd
        go_wp2_with fail
        refine (K3.out _).mono ?_
        rintro e w' ⟨rfl, rfl⟩
        cases ht : pr.all txt with
        | false =>
          have R := hide' (F4.out ht)
          clear ht
          go_wp2_with fail
          obtain ⟨q0, q1, q2, q3⟩ := QS.out
          have qb := qb.out
          unfold put4 at q0 q1 q2 q3 qb
          exact bodyPost_ret (v := lineRV (Rs.zero, 50)) (by simp [results, Tryz.results217, go_sem, q0, q1, q2, q3, lineRV, rsV, Rs.zero]) rfl ⟨by rw [R.out], qb⟩
        | true =>
          have RA := F5.out HV.out HN.out HD.out ht
          have nb := NB.out HN.out HD.out
          clear ht
          go_wp2_with fail
          refine (K4.out _).mono ?_
          rintro e w' ⟨rfl, rfl⟩
          rcases MF.out with ⟨m2, _⟩ | ⟨m2, m1⟩
          · rw [if_pos m2] at RA
            have RH := hide' RA
            have M2 := hide' m2
            clear RA m2
            rw [M2.out]
            have KA' := KA.out HN.out HD.out
            generalize num3 pd = nm at KA' nb RH
            generalize (minOf pv).1 = mk at RH
            have KAH := hide' KA'
            clear KA'
            go_wp2_with fail
            refine (KAH.out _).mono ?_
            rintro e w3 ⟨rfl, b3⟩
            have B3 := hide' (bt' B2.out b3)
            have Q3 := hide' (quad_below Q2.out b3)
            clear b3 QS qb h0 h1 h2 h3 e0 e1 e2 e3 hz
            obtain ⟨h0, h1, h2, h3, e0, e1, e2, e3, hz⟩ := Q3.out
            go_wp2_with fail
            refine (statusTok nm nb.1 (by omega) _).mono ?_
            rintro e w' ⟨rfl, rfl⟩
            cases hg : goodS nm with
            | false =>
              rw [hg, if_neg (by simp)] at RH
              clear hg
              go_wp2_with fail
              obtain ⟨q0, q1, q2, q3⟩ := quad_store Q3.out (.int .i64 0) (.string ⟨#[]⟩) (.int .i64 0) (.slice none 0 0)
              have qb := put4_below B3.out (Nat.le_refl _) (.int .i64 0) (.string ⟨#[]⟩) (.int .i64 0) (.slice none 0 0)
              unfold put4 at q0 q1 q2 q3 qb
              exact bodyPost_ret (v := lineRV (Rs.zero, 53)) (by simp [results, Tryz.results217, go_sem, q0, q1, q2, q3, lineRV, rsV, Rs.zero]) rfl ⟨by rw [RH.out], qb⟩
            | true =>
              rw [hg, if_pos rfl] at RH
              clear hg
              go_wp2_with fail
              obtain ⟨q0, q1, q2, q3⟩ := quad_store Q3.out (.int .i64 nm) (.string ⟨pr.toArray⟩) (.int .i64 mk) (.slice none 0 0)
              have qb := put4_below B3.out (Nat.le_refl _) (.int .i64 nm) (.string ⟨pr.toArray⟩) (.int .i64 mk) (.slice none 0 0)
              unfold put4 at q0 q1 q2 q3 qb
              exact bodyPost_ret (v := lineRV (⟨nm, pr, mk, []⟩, 0)) (by simp [results, Tryz.results217, go_sem, q0, q1, q2, q3, lineRV, rsV]) rfl ⟨by rw [RH.out], qb⟩
          · rw [if_neg (by rw [m2]; decide)] at RA
            have RH := hide' RA
            have M2 := hide' m2
            have M1' := hide' m1
            clear RA m2 m1
            rw [M2.out, M1'.out]
            go_wp2_with fail
            obtain ⟨q0, q1, q2, q3⟩ := QS.out
            have qb := qb.out
            unfold put4 at q0 q1 q2 q3 qb
            exact bodyPost_ret (v := lineRV (Rs.zero, 52)) (by simp [results, Tryz.results217, go_sem, q0, q1, q2, q3, lineRV, rsV, Rs.zero]) rfl ⟨by rw [RH.out], qb⟩
    · have R := hide' (F2.out hn)
      have t3 : ((pd.length : Int) != 3) = true := by simp; omega
      clear hn
      go_wp2_with fail
      obtain ⟨q0, q1, q2, q3⟩ := QS.out
      have qb := qb.out
      unfold put4 at q0 q1 q2 q3 qb
      exact bodyPost_ret (v := lineRV (Rs.zero, 50)) (by simp [results, Tryz.results217, go_sem, q0, q1, q2, q3, lineRV, rsV, Rs.zero]) rfl ⟨by rw [R.out], qb⟩
end Go.Proofs.YtibjcofbhldenaaGreatDoor
