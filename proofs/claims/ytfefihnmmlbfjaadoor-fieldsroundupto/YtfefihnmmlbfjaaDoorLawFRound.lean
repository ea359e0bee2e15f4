/- The walk of FieldsRound. -/
import Derived.Test.YtfefihnmmlbfjaaDoorFdPq
namespace Go.Proofs.YtfefihnmmlbfjaaDoor
open Go.RowKit
namespace fieldsRound
theorem fit_of {fs : FL} {K : Nat} (h : (printOf fs).length ≤ K) (hK : K ≤ 140737488351232) : Fit fs := fun f hf => by have := print_mem fs f hf; omega
theorem len_of {fs : FL} : fs.length ≤ (printOf fs).length := by
  induction fs with
  | nil => simp
  | cons g r ih =>
    have e : (printOf (g :: r)).length = (lineB g).length + (printOf r).length := by unfold printOf; simp
    have e2 := lineB_len g
    rw [List.length_cons]; omega
set_option maxRecDepth 20000 in
set_option maxHeartbeats 8000000 in
theorem walk (v vb : Value) (fs : FL) (bs : List UInt8) (w : World) (hv : HoldsF w v fs) (hvb : HoldsB w vb bs) (hb : bulkF fs ≤ 1048576) (hl : bs.length ≤ 1048576) (E : Env w) :
    Calls Tryd.prog 6 #[v, vb] w fun e w' => e = .returned (.bool true) ∧ Below w.heap.size w w' := by
  have HV := hide' hv
  have HB := hide' hvb
  have EV := hide' E
  have c0 := hide' (aliveC w E)
  have pb := print_bulk fs
  have FT := hide' (fit_of (Nat.le_trans pb (Nat.mul_le_mul_left 2 hb)) (by decide))
  have fl := bulkF_len fs
  have pl := parse_len bs
  have pp := parse_plen bs
  have FP := hide' (fit_of (fs := (parseOf bs).1) (K := 2097152) (by omega) (by decide))
  have P1 := hide' (parse_printP fs)
  have P2 := hide' (printP_bad fs)
  have P3 := hide' (parse_good bs)
  have P4 := hide' (parse_bad0 bs)
  have P5 := hide' (parse_printP (parseOf bs).1)
  have lp1 : (printP fs).1.length ≤ 2097152 := by
    unfold printP
    split
    · simp
    · split
      · simp
      · show (printOf fs).length ≤ _
        omega
  clear hv hvb E
  go_enter Tryd.func6, Tryd.ntmps6
  go_wp2_with fail
  refine c0.out.mono ?_
  rintro e w1 ⟨rfl, b1⟩
  have B1 := hide' b1
  clear c0 b1
  go_wp2_with fail
  refine (copyF _ fs _ (holdsF_mono HV.out B1.out) (by omega)).mono ?_
  rintro e w2 ⟨u2, rfl, ho2⟩
  have B2 := hide' (bt' B1.out ho2.2)
  have H2 := hide' (holdsF_own ho2)
  clear ho2 B1
  go_wp2_with fail
  refine (printTok _ fs _ H2.out FT.out (by omega) (by omega)).mono ?_
  rintro e w3 ⟨u3, rfl, ho3⟩
  have B3 := hide' (bt' B2.out ho3.2)
  have Q3 := hide' (holdsB_own ho3)
  clear ho3 B2 H2
  by_cases hz : (printP fs).2 = 0
  · have e1 := P1.out hz
    have cP := parseC u3 (printP fs).1 w3 Q3.out (env_below EV.out B3.out) (by omega)
    rw [e1] at cP
    have CP := hide' cP
    rw [hz]
    clear cP e1 hz P1 P2 Q3 lp1
    go_wp2_with fail
    refine CP.out.mono ?_
    rintro e w4 ⟨u4, rfl, ho4⟩
    have B4 := hide' (bt' B3.out ho4.2)
    have H4 := hide' (holdsF_own ho4)
    clear ho4 B3 CP
    go_wp2_with fail
    refine (sameFe _ _ fs _ H4.out (holdsF_mono HV.out B4.out) (by omega)).mono ?_
    rintro e w5 ⟨rfl, b5⟩
    have B5 := hide' (bt' B4.out b5)
    clear b5 B4 H4
    go_wp2_with fail
    refine (copyB _ bs _ (holdsB_mono HB.out B5.out) (by omega)).mono ?_
    rintro e w6 ⟨u6, rfl, ho6⟩
    have B6 := hide' (bt' B5.out ho6.2)
    have H6 := hide' (holdsB_own ho6)
    clear ho6 B5
    go_wp2_with fail
    refine (parseC _ bs _ H6.out (env_below EV.out B6.out) (by omega)).mono ?_
    rintro e w7 ⟨u7, rfl, ho7⟩
    have B7 := hide' (bt' B6.out ho7.2)
    have H7 := hide' (holdsF_own ho7)
    clear ho7 B6 H6
    by_cases hy : (parseOf bs).2 = 0
    · have e3 := P3.out hy
      have cP := printTok u7 (parseOf bs).1 w7 H7.out FP.out (by omega) (by omega)
      have e5 := P5.out (by rw [e3])
      rw [e3] at cP e5
      have CP := hide' cP
      have E5 := hide' e5
      rw [hy]
      have pp' : (printOf (parseOf bs).1).length ≤ 2097152 := by omega
      clear cP e3 e5 hy P3 P4 P5 FP pp
      generalize (parseOf bs).1 = qs at CP E5 H7 pp' pl
      generalize printOf qs = qb at CP E5 pp'
      go_wp2_with fail
      refine CP.out.mono ?_
      rintro e w8 ⟨u8, rfl, ho8⟩
      have B8 := hide' (bt' B7.out ho8.2)
      have H8 := hide' (holdsF_mono H7.out ho8.2)
      have Q8 := hide' (holdsB_own ho8)
      clear ho8 B7 H7 CP
      have cQ := parseC u8 qb w8 Q8.out (env_below EV.out B8.out) (by omega)
      rw [E5.out] at cQ
      have CQ := hide' cQ
      clear cQ
      go_wp2_with fail
      refine CQ.out.mono ?_
      rintro e w9 ⟨u9, rfl, ho9⟩
      have B9 := hide' (bt' B8.out ho9.2)
      have H9 := hide' (holdsF_mono H8.out ho9.2)
      have R9 := hide' (holdsF_own ho9)
      clear ho9 B8 H8 Q8 CQ
      go_wp2_with fail
      refine (sameFe _ _ qs _ H9.out R9.out (by omega)).mono ?_
      rintro e w10 ⟨rfl, b10⟩
      have B10 := hide' (bt' B9.out b10)
      clear b10
      go_wp2_with fail
      go_ret
      exact ⟨rfl, B10.out⟩
    · have e4 := P4.out hy
      rw [e4] at H7
      obtain ⟨ao7, cap7, rfl, _⟩ := H7.out
      have hy1 : ((parseOf bs).2 == 0) = false := by simpa using hy
      have hy2 : ((parseOf bs).2 != 0) = true := by simpa using hy
      clear e4 P3 P4 P5 FP
      generalize (parseOf bs).2 = er at hy hy1 hy2
      go_wp2_with fail
      go_ret
      exact ⟨rfl, B7.out⟩
  · have e2 := P2.out hz
    rw [e2] at Q3
    obtain ⟨ao3, cap3, rfl, _⟩ := Q3.out
    have hz' : ((printP fs).2 == 0) = false := by simpa using hz
    have hz2 : decide ((printP fs).2 = 0) = false := by simpa using hz
    clear e2 P1 P2 Q3 lp1
    generalize (printP fs).2 = pe at hz hz' hz2
    have B5 := B3
    clear B3
    go_wp2_with fail
    refine (copyB _ bs _ (holdsB_mono HB.out B5.out) (by omega)).mono ?_
    rintro e w6 ⟨u6, rfl, ho6⟩
    have B6 := hide' (bt' B5.out ho6.2)
    have H6 := hide' (holdsB_own ho6)
    clear ho6 B5
    go_wp2_with fail
    refine (parseC _ bs _ H6.out (env_below EV.out B6.out) (by omega)).mono ?_
    rintro e w7 ⟨u7, rfl, ho7⟩
    have B7 := hide' (bt' B6.out ho7.2)
    have H7 := hide' (holdsF_own ho7)
    clear ho7 B6 H6
    by_cases hy : (parseOf bs).2 = 0
    · have e3 := P3.out hy
      have cP := printTok u7 (parseOf bs).1 w7 H7.out FP.out (by omega) (by omega)
      have e5 := P5.out (by rw [e3])
      rw [e3] at cP e5
      have CP := hide' cP
      have E5 := hide' e5
      rw [hy]
      have pp' : (printOf (parseOf bs).1).length ≤ 2097152 := by omega
      clear cP e3 e5 hy P3 P4 P5 FP pp
      generalize (parseOf bs).1 = qs at CP E5 H7 pp' pl
      generalize printOf qs = qb at CP E5 pp'
      go_wp2_with fail
      refine CP.out.mono ?_
      rintro e w8 ⟨u8, rfl, ho8⟩
      have B8 := hide' (bt' B7.out ho8.2)
      have H8 := hide' (holdsF_mono H7.out ho8.2)
      have Q8 := hide' (holdsB_own ho8)
      clear ho8 B7 H7 CP
      have cQ := parseC u8 qb w8 Q8.out (env_below EV.out B8.out) (by omega)
      rw [E5.out] at cQ
      have CQ := hide' cQ
      clear cQ
      go_wp2_with fail
      refine CQ.out.mono ?_
      rintro e w9 ⟨u9, rfl, ho9⟩
      have B9 := hide' (bt' B8.out ho9.2)
      have H9 := hide' (holdsF_mono H8.out ho9.2)
      have R9 := hide' (holdsF_own ho9)
      clear ho9 B8 H8 Q8 CQ
      go_wp2_with fail
      refine (sameFe _ _ qs _ H9.out R9.out (by omega)).mono ?_
      rintro e w10 ⟨rfl, b10⟩
      have B10 := hide' (bt' B9.out b10)
      clear b10
      go_wp2_with fail
      go_ret
      exact ⟨rfl, B10.out⟩
    · have e4 := P4.out hy
      rw [e4] at H7
      obtain ⟨ao7, cap7, rfl, _⟩ := H7.out
      have hy1 : ((parseOf bs).2 == 0) = false := by simpa using hy
      have hy2 : ((parseOf bs).2 != 0) = true := by simpa using hy
      clear e4 P3 P4 P5 FP
      generalize (parseOf bs).2 = er at hy hy1 hy2
      go_wp2_with fail
      go_ret
      exact ⟨rfl, B7.out⟩
end fieldsRound
end Go.Proofs.YtfefihnmmlbfjaaDoor
