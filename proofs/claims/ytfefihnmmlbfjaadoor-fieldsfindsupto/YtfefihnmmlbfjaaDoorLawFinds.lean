/- The walk of FieldsFinds. -/
import Derived.Test.YtfefihnmmlbfjaaDoorFdT
namespace Go.Proofs.YtfefihnmmlbfjaaDoor
open Go.RowKit
theorem sameFe (va vb : Value) (xs : FL) (w : World) (ha : HoldsF w va xs) (hb : HoldsF w vb xs) (la : xs.length ≤ 1000000000000000) :
    Calls Tryd.prog 12 #[va, vb] w fun e w' => e = .returned (.bool true) ∧ Below w.heap.size w w' := by
  refine (sameF va vb xs xs w ha hb la la).mono ?_
  rintro e w' ⟨rfl, n, rfl⟩
  exact ⟨by simp, below_drewN _ _⟩
theorem sameTe (va vb : Value) (xs : List (List UInt8)) (w : World) (ha : Holds w va xs) (hb : Holds w vb xs) (la : xs.length ≤ 1000000000000000) :
    Calls Tryd.prog 19 #[va, vb] w fun e w' => e = .returned (.bool true) ∧ Below w.heap.size w w' := by
  refine (sameTexts va vb xs xs w ha hb la la).mono ?_
  rintro e w' ⟨rfl, n, rfl⟩
  exact ⟨by simp, below_drewN _ _⟩
theorem getConst (w : World) : Calls Tryd.prog 17 #[.slice (some ⟨w.heap.size, 0, none⟩) 2 2, .string ⟨#[65]⟩] (w.alloc (.cells #[S [65], S [98], S [97], S [99]] 39)) fun e w' => e = .returned (.tuple #[.string ⟨#[98, 44, 32, 99]⟩, .bool true]) ∧ Below (w.alloc (.cells #[S [65], S [98], S [97], S [99]] 39)).heap.size (w.alloc (.cells #[S [65], S [98], S [97], S [99]] 39)) w' := by
  have h := getTok _ [([65], [98]), ([97], [99])] [65] _ (holdsF_lit2 w [65] [98] [97] [99]) (by decide) (by decide)
  have e1 : valsOf [([65], [98]), ([97], [99])] [65] = [[98], [99]] := by decide +kernel
  have e2 : joinOf [[98], [99]] = [98, 44, 32, 99] := by decide +kernel
  rw [e1, e2] at h
  exact h
namespace fieldsFinds
set_option maxRecDepth 20000 in
set_option maxHeartbeats 4000000 in
theorem walk (v : Value) (x : ByteArray) (fs : FL) (w : World) (hv : HoldsF w v fs) (hb : bulkF fs ≤ 1048576) (hx : x.size ≤ 1048576) :
    Calls Tryd.prog 5 #[v, .string x] w fun e w' => e = .returned (.bool true) ∧ Below w.heap.size w w' := by
  have HV := hide' hv
  have hfl := bulkF_len fs
  obtain ⟨y, hy⟩ : ∃ y, y = x.data.toList := ⟨_, rfl⟩
  have hyl : y.length ≤ 1048576 := by rw [hy]; simpa using hx
  obtain rfl : x = ⟨y.toArray⟩ := by rw [hy, ba_eta]
  have tl : (toksOf (valsOf fs y)).length ≤ 1048576 := by have h1 := toks_len (valsOf fs y); have h2 := bulk_vals fs y; omega
  have vl : (valsOf fs y).length ≤ fs.length := vals_len _ _
  have FT : Hid (Fit fs) := fun f hf => by have := bulkF_mem fs f hf; omega
  have c0 := hide' (getConst w)
  clear hv hy hx
  go_enter Tryd.func5, Tryd.ntmps5
  go_wp2_with fail
  refine c0.out.mono ?_
  rintro e w1 ⟨rfl, b1⟩
  have B1 := hide' (bt' (below_alloc' w _) b1)
  clear c0 b1
  go_wp2_with fail
  refine (copyF _ fs _ (holdsF_mono HV.out B1.out) (by omega)).mono ?_
  rintro e w2 ⟨u2, rfl, ho2⟩
  have B2 := hide' (bt' B1.out ho2.2)
  have H2 := hide' (holdsF_own ho2)
  clear ho2 B1
  go_wp2_with fail
  refine (getTok _ fs y _ H2.out hb hyl).mono ?_
  rintro e w3 ⟨rfl, b3⟩
  have B3 := hide' (bt' B2.out b3)
  have H3 := hide' (holdsF_mono H2.out b3)
  clear b3 B2 H2
  go_wp2_with fail
  refine (getRef _ fs y _ (holdsF_mono HV.out B3.out) hb hyl).mono ?_
  rintro e w4 ⟨rfl, b4⟩
  have B4 := hide' (bt' B3.out b4)
  have H4 := hide' (holdsF_mono H3.out b4)
  clear b4 B3 H3
  generalize decide (0 < (valsOf fs y).length) = db
  generalize (joinOf (valsOf fs y)).toArray = ja
  go_wp2_with fail
  refine (valuesTok _ fs y _ H4.out FT.out (by omega) (by omega)).mono ?_
  rintro e w5 ⟨u5, rfl, ho5⟩
  have B5 := hide' (bt' B4.out ho5.2)
  have H5 := hide' (holdsF_mono H4.out ho5.2)
  have T5 := hide' (holds_own ho5)
  clear ho5 B4 H4
  go_wp2_with fail
  refine (valuesRef _ fs y _ (holdsF_mono HV.out B5.out) FT.out (by omega) (by omega)).mono ?_
  rintro e w6 ⟨u6, rfl, ho6⟩
  have B6 := hide' (bt' B5.out ho6.2)
  have H6 := hide' (holdsF_mono H5.out ho6.2)
  have T6 := hide' (holds_mono T5.out ho6.2)
  have X6 := hide' (holds_own ho6)
  clear ho6 B5 H5 T5
  go_wp2_with fail
  refine (sameTe _ _ _ _ T6.out X6.out (by omega)).mono ?_
  rintro e w7 ⟨rfl, b7⟩
  have B7 := hide' (bt' B6.out b7)
  have H7 := hide' (holdsF_mono H6.out b7)
  clear b7 B6 H6 T6 X6
  go_wp2_with fail
  refine (tokensTok _ fs y _ H7.out hb hyl).mono ?_
  rintro e w8 ⟨u8, rfl, ho8⟩
  have B8 := hide' (bt' B7.out ho8.2)
  have H8 := hide' (holdsF_mono H7.out ho8.2)
  have T8 := hide' (holds_own ho8)
  clear ho8 B7 H7
  go_wp2_with fail
  refine (tokensRef _ fs y _ (holdsF_mono HV.out B8.out) hb hyl).mono ?_
  rintro e w9 ⟨u9, rfl, ho9⟩
  have B9 := hide' (bt' B8.out ho9.2)
  have H9 := hide' (holdsF_mono H8.out ho9.2)
  have T9 := hide' (holds_mono T8.out ho9.2)
  have X9 := hide' (holds_own ho9)
  clear ho9 B8 H8 T8
  go_wp2_with fail
  refine (sameTe _ _ _ _ T9.out X9.out (by omega)).mono ?_
  rintro e w10 ⟨rfl, b10⟩
  have B10 := hide' (bt' B9.out b10)
  have H10 := hide' (holdsF_mono H9.out b10)
  clear b10 B9 H9 T9 X9
  go_wp2_with fail
  refine (sameFe _ _ _ _ H10.out (holdsF_mono HV.out B10.out) (by omega)).mono ?_
  rintro e w11 ⟨rfl, b11⟩
  have B11 := hide' (bt' B10.out b11)
  clear b11
  go_wp2_with fail
  go_ret
  exact ⟨rfl, B11.out⟩
end fieldsFinds
end Go.Proofs.YtfefihnmmlbfjaaDoor
