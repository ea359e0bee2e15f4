/- The walk of FieldsPuts. -/
import Derived.Test.YtfefihnmmlbfjaaDoorFdE
import Derived.Test.YtfefihnmmlbfjaaDoorFdN
import Derived.Test.YtfefihnmmlbfjaaDoorFdV
import Derived.Test.YtfefihnmmlbfjaaDoorSameT
namespace Go.Proofs.YtfefihnmmlbfjaaDoor
open Go.RowKit
theorem sameTe (va vb : Value) (xs : List (List UInt8)) (w : World) (ha : Holds w va xs) (hb : Holds w vb xs) (la : xs.length ≤ 1000000000000000) :
    Calls Tryd.prog 19 #[va, vb] w fun e w' => e = .returned (.bool true) ∧ Below w.heap.size w w' := by
  refine (sameTexts va vb xs xs w ha hb la la).mono ?_
  rintro e w' ⟨rfl, n, rfl⟩
  exact ⟨by simp, below_drewN _ _⟩
theorem lowerL (l : List UInt8) (w : World) (hs : l.length ≤ 140737488351232) :
    Calls Tryd.prog 26 #[.string ⟨l.toArray⟩] w fun e w' => e = .returned (.string ⟨(lows l).toArray⟩) ∧ Below w.heap.size w w' := by
  have h := lowerRef ⟨l.toArray⟩ w (by rw [size_l]; exact hs)
  exact h
namespace fieldsPuts
set_option maxRecDepth 20000 in
set_option maxHeartbeats 4000000 in
theorem walk (v : Value) (a b c : ByteArray) (fs : FL) (w : World) (hv : HoldsF w v fs) (hfit : Fit fs) (hl : fs.length * 32 ≤ 140737488351232) (ha : a.size ≤ 140737488351232) (hb : b.size ≤ 140737488351232) (hc : c.size ≤ 140737488351232) (E : Env w) :
    Calls Tryd.prog 7 #[v, .string a, .string b, .string c] w fun e w' => e = .returned (.bool true) ∧ Below w.heap.size w w' := by
  have HV := hide' hv
  obtain ⟨n, hn⟩ : ∃ y, y = a.data.toList := ⟨_, rfl⟩
  have nl : n.length ≤ 140737488351232 := by rw [hn]; simpa using ha
  obtain rfl : a = ⟨n.toArray⟩ := by rw [hn, ba_eta]
  obtain ⟨x, hx⟩ : ∃ y, y = b.data.toList := ⟨_, rfl⟩
  have xl : x.length ≤ 140737488351232 := by rw [hx]; simpa using hb
  obtain rfl : b = ⟨x.toArray⟩ := by rw [hx, ba_eta]
  obtain ⟨o, ho⟩ : ∃ y, y = c.data.toList := ⟨_, rfl⟩
  have ol : o.length ≤ 140737488351232 := by rw [ho]; simpa using hc
  obtain rfl : c = ⟨o.toArray⟩ := by rw [ho, ba_eta]
  have FT := hide' hfit
  have FP := hide' (fit_put hfit nl xl)
  have FW := hide' (fit_without (fit_put hfit nl xl) (ns := [n]))
  have pl := put_len fs n x
  have wl := without_len (putOf fs n x) [n]
  have vl := vals_len fs o
  have P1 := hide' (vals_put fs n x)
  have P2 := hide' (vals_without_put fs n x)
  have P3 := hide' (vals_put_other fs n x o)
  have c0 := hide' (aliveC w E)
  clear hv hn hx ho ha hb hc hfit
  generalize hpf : putOf fs n x = pf at FP FW pl wl P1 P2 P3
  have PF := hide' hpf
  clear hpf
  generalize hwf : withoutOf pf [n] = wf at FW wl P2
  have WF := hide' hwf
  clear hwf
  go_enter Tryd.func7, Tryd.ntmps7
  go_wp2_with fail
  refine c0.out.mono ?_
  rintro e w1 ⟨rfl, b1⟩
  have B1 := hide' b1
  clear c0 b1
  go_wp2_with fail
  refine (copyF _ fs _ (holdsF_mono HV.out B1.out) (by omega)).mono ?_
  rintro e w2 ⟨u2, rfl, ho2⟩
  have B2 := hide' (bt' B1.out ho2.2)
  have H2 := hide' (holdsF_own ho2)
  clear ho2 B1
  go_wp2_with fail
  refine (putTok _ fs n x _ H2.out FT.out nl xl (by omega)).mono ?_
  rintro e w3 ⟨u3, rfl, ho3⟩
  rw [PF.out] at ho3
  have B3 := hide' (bt' B2.out ho3.2)
  have H3 := hide' (holdsF_own ho3)
  clear ho3 B2 H2
  go_wp2_with fail
  refine (valuesTok _ pf n _ H3.out FP.out nl (by omega)).mono ?_
  rintro e w4 ⟨u4, rfl, ho4⟩
  rw [P1.out] at ho4
  have B4 := hide' (bt' B3.out ho4.2)
  have H4 := hide' (holdsF_mono H3.out ho4.2)
  have T4 := hide' (holds_mono (holds_own ho4) (below_alloc' w4 (.cells #[S x] 9)))
  clear ho4 B3 H3
  go_wp2_with fail
  refine (sameTe _ _ [x] _ T4.out (holds_lit1 w4 x) (by simp)).mono ?_
  rintro e w5 ⟨rfl, b5⟩
  have b5' := bt' (below_alloc' w4 (.cells #[S x] 9)) b5
  have B5 := hide' (bt' B4.out b5')
  have H5 := hide' (holdsF_mono H4.out b5')
  clear b5 b5' B4 H4 T4
  go_wp2_with fail
  refine (lowerL o _ ol).mono ?_
  rintro e w6 ⟨rfl, b6⟩
  have B6 := hide' (bt' B5.out b6)
  have H6 := hide' (holdsF_mono H5.out b6)
  clear b6 B5 H5
  go_wp2_with fail
  refine (lowerL n _ nl).mono ?_
  rintro e w7 ⟨rfl, b7⟩
  have B7 := hide' (bt' B6.out b7)
  have H7 := hide' (holdsF_mono H6.out b7)
  clear b7 B6 H6
  by_cases hlo : lows o = lows n
  · rw [hlo]
    clear hlo P3
    generalize (lows n).toArray = la
    go_wp2_with fail
    have a8 := below_alloc' w7 (.cells #[S n] 9)
    refine (withoutTok _ _ pf [n] _ (holdsF_mono H7.out a8) (holds_lit1 w7 n) FP.out (one_fit nl) (by omega) (by simp)).mono ?_
    rintro e w8 ⟨u8, rfl, ho8⟩
    rw [WF.out] at ho8
    have B8 := hide' (bt' (bt' B7.out a8) ho8.2)
    have H8 := hide' (holdsF_own ho8)
    clear ho8 a8 B7 H7
    go_wp2_with fail
    refine (valuesTok _ wf n _ H8.out FW.out nl (by omega)).mono ?_
    rintro e w9 ⟨u9, rfl, ho9⟩
    rw [P2.out] at ho9
    have B9 := hide' (bt' B8.out ho9.2)
    obtain ⟨ao, cap, rfl, _⟩ := holds_own ho9
    clear ho9 B8 H8
    go_wp2_with fail
    go_ret
    exact ⟨rfl, B9.out⟩
  · have hne := ba_eql' (lows o) (lows n) hlo
    have V3 := hide' (P3.out hlo)
    clear P3 hlo
    generalize (lows o).toArray = lo at hne
    generalize (lows n).toArray = la at hne
    go_wp2_with fail
    refine (valuesTok _ pf o _ H7.out FP.out ol (by omega)).mono ?_
    rintro e w71 ⟨u71, rfl, ho71⟩
    rw [V3.out] at ho71
    have B71 := hide' (bt' B7.out ho71.2)
    have H71 := hide' (holdsF_mono H7.out ho71.2)
    have T71 := hide' (holds_own ho71)
    clear ho71 B7 H7
    go_wp2_with fail
    refine (copyF _ fs _ (holdsF_mono HV.out B71.out) (by omega)).mono ?_
    rintro e w72 ⟨u72, rfl, ho72⟩
    have B72 := hide' (bt' B71.out ho72.2)
    have H72 := hide' (holdsF_mono H71.out ho72.2)
    have T72 := hide' (holds_mono T71.out ho72.2)
    have C72 := hide' (holdsF_own ho72)
    clear ho72 B71 H71 T71
    go_wp2_with fail
    refine (valuesTok _ fs o _ C72.out FT.out ol (by omega)).mono ?_
    rintro e w73 ⟨u73, rfl, ho73⟩
    have B73 := hide' (bt' B72.out ho73.2)
    have H73 := hide' (holdsF_mono H72.out ho73.2)
    have T73 := hide' (holds_mono T72.out ho73.2)
    have X73 := hide' (holds_own ho73)
    clear ho73 B72 H72 T72 C72
    go_wp2_with fail
    refine (sameTe _ _ _ _ T73.out X73.out (by omega)).mono ?_
    rintro e w74 ⟨rfl, b74⟩
    have B74 := hide' (bt' B73.out b74)
    have H74 := hide' (holdsF_mono H73.out b74)
    clear b74 B73 H73 T73 X73
    go_wp2_with fail
    have a8 := below_alloc' w74 (.cells #[S n] 9)
    refine (withoutTok _ _ pf [n] _ (holdsF_mono H74.out a8) (holds_lit1 w74 n) FP.out (one_fit nl) (by omega) (by simp)).mono ?_
    rintro e w8 ⟨u8, rfl, ho8⟩
    rw [WF.out] at ho8
    have B8 := hide' (bt' (bt' B74.out a8) ho8.2)
    have H8 := hide' (holdsF_own ho8)
    clear ho8 a8 B74 H74
    go_wp2_with fail
    refine (valuesTok _ wf n _ H8.out FW.out nl (by omega)).mono ?_
    rintro e w9 ⟨u9, rfl, ho9⟩
    rw [P2.out] at ho9
    have B9 := hide' (bt' B8.out ho9.2)
    obtain ⟨ao, cap, rfl, _⟩ := holds_own ho9
    clear ho9 B8 H8
    go_wp2_with fail
    go_ret
    exact ⟨rfl, B9.out⟩
end fieldsPuts
end Go.Proofs.YtfefihnmmlbfjaaDoor
