/- The walk of FieldsTurns. -/
import Derived.Test.YtfefihnmmlbfjaaFdU
import Derived.Test.YtfefihnmmlbfjaaFdC
import Derived.Test.YtfefihnmmlbfjaaSameT
namespace Go.Proofs.Ytfefihnmmlbfjaa
open Go.RowKit
theorem put_nil : putOf [] [97] [98] = [([97], [98])] := by decide +kernel
theorem sameFe (va vb : Value) (xs : FL) (w : World) (ha : HoldsF w va xs) (hb : HoldsF w vb xs) (la : xs.length ≤ 1000000000000000) :
    Calls Try.prog 4 #[va, vb] w fun e w' => e = .returned (.bool true) ∧ Below w.heap.size w w' := by
  refine (sameF va vb xs xs w ha hb la la).mono ?_
  rintro e w' ⟨rfl, n, rfl⟩
  exact ⟨by simp, below_drewN _ _⟩
theorem sameTe (va vb : Value) (xs : List (List UInt8)) (w : World) (ha : Holds w va xs) (hb : Holds w vb xs) (la : xs.length ≤ 1000000000000000) :
    Calls Try.prog 10 #[va, vb] w fun e w' => e = .returned (.bool true) ∧ Below w.heap.size w w' := by
  refine (sameTexts va vb xs xs w ha hb la la).mono ?_
  rintro e w' ⟨rfl, n, rfl⟩
  exact ⟨by simp, below_drewN _ _⟩
namespace fieldsTurns
set_option maxHeartbeats 4000000 in
theorem walk (v vn : Value) (x : ByteArray) (fs : FL) (ns : List (List UInt8)) (w : World) (hv : HoldsF w v fs) (hn : Holds w vn ns) (hnn : ∀ cap, vn = .slice none 0 cap → cap = 0) (hfit : Fit fs) (hfn : ∀ n ∈ ns, n.length ≤ 140737488351232)
    (hl : fs.length * 32 ≤ 140737488351232) (hln : ns.length * 16 ≤ 140737488351232) (hx : x.size ≤ 140737488351232) :
    Calls Try.prog 3 #[v, vn, .string x] w fun e w' => e = .returned (.bool true) ∧ Below w.heap.size w w' := by
  have c0 := hide' (putTok (.slice none 0 0) [] [97] [98] w (holdsF_lit0 w) (fun f hf => by cases hf) (by decide) (by decide) (by decide))
  rw [put_nil] at c0
  obtain ⟨ao, ca, b, o, rfl, hcn⟩ := holds_parts hn
  have CN := hide' hcn
  have HV := hide' hv
  have HN := hide' hn
  have NN := hide' hnn
  have FT := hide' hfit
  have FN := hide' hfn
  obtain ⟨y, hy⟩ : ∃ y, y = x.data.toList := ⟨_, rfl⟩
  have hyl : y.length ≤ 140737488351232 := by rw [hy]; simpa using hx
  obtain rfl : x = ⟨y.toArray⟩ := by rw [hy, ba_eta]
  have w1l : (withoutOf fs ns).length ≤ fs.length := without_len _ _
  clear hv hn hnn hfit hfn hy hx hcn
  go_enter Try.func3, Try.ntmps3
  go_wp2_with fail
  refine c0.out.mono ?_
  rintro e w1 ⟨u1, rfl, ho1⟩
  have B1 := hide' ho1.2
  have H1 := hide' (holdsF_mono (holdsF_own ho1) (below_alloc' w1 (.cells #[S [97], S [98]] 27)))
  clear ho1 c0
  go_wp2_with fail
  refine (sameFe _ _ [([97], [98])] _ H1.out (holdsF_lit1 w1 [97] [98]) (by decide)).mono ?_
  rintro e w2 ⟨rfl, b2⟩
  have B2 := hide' (bt (bt B1.out (below_alloc' w1 (.cells #[S [97], S [98]] 27))) b2)
  clear B1 H1 b2
  go_wp2_with fail
  refine (copyF _ fs _ (holdsF_mono HV.out B2.out) (by omega)).mono ?_
  rintro e w3 ⟨u3, rfl, ho3⟩
  have B3 := hide' (bt B2.out ho3.2)
  have H3 := hide' (holdsF_own ho3)
  clear ho3 B2
  go_wp2_with fail
  refine (copyT _ ns _ (holds_mono HN.out B3.out) NN.out (by omega)).mono ?_
  rintro e w4 ⟨u4, rfl, ho4⟩
  have B4 := hide' (bt B3.out ho4.2)
  have H4 := hide' (holdsF_mono H3.out ho4.2)
  have T4 := hide' (holds_own ho4)
  clear ho4 B3 H3
  go_wp2_with fail
  refine (withoutTok u3 u4 fs ns _ H4.out T4.out FT.out FN.out (by omega) (by omega)).mono ?_
  rintro e w5 ⟨u5, rfl, ho5⟩
  have B5 := hide' (bt B4.out ho5.2)
  have H5 := hide' (holdsF_mono H4.out ho5.2)
  have T5 := hide' (holds_mono T4.out ho5.2)
  have X5 := hide' (holdsF_own ho5)
  clear ho5 B4 H4 T4
  go_wp2_with fail
  refine (withoutRef _ _ fs ns _ (holdsF_mono HV.out B5.out) (holds_mono HN.out B5.out) FT.out FN.out (by omega) (by omega)).mono ?_
  rintro e w6 ⟨u6, rfl, ho6⟩
  have B6 := hide' (bt B5.out ho6.2)
  have H6 := hide' (holdsF_mono H5.out ho6.2)
  have T6 := hide' (holds_mono T5.out ho6.2)
  have X6 := hide' (holdsF_mono X5.out ho6.2)
  have Y6 := hide' (holdsF_own ho6)
  clear ho6 B5 H5 T5 X5
  go_wp2_with fail
  refine (sameFe _ _ _ _ X6.out Y6.out (by omega)).mono ?_
  rintro e w7 ⟨rfl, b7⟩
  have B7 := hide' (bt B6.out b7)
  have H7 := hide' (holdsF_mono H6.out b7)
  have T7 := hide' (holds_mono T6.out b7)
  clear b7 B6 H6 T6 X6 Y6
  go_wp2_with fail
  refine (sameFe _ _ _ _ H7.out (holdsF_mono HV.out B7.out) (by omega)).mono ?_
  rintro e w8 ⟨rfl, b8⟩
  have B8 := hide' (bt B7.out b8)
  have H8 := hide' (holdsF_mono H7.out b8)
  have T8 := hide' (holds_mono T7.out b8)
  clear b8 B7 H7 T7
  go_wp2_with fail
  refine (sameTe _ _ _ _ T8.out (holds_mono HN.out B8.out) (by omega)).mono ?_
  rintro e w9 ⟨rfl, b9⟩
  have B9 := hide' (bt B8.out b9)
  have H9 := hide' (holdsF_mono H8.out b9)
  clear b9 B8 H8 T8
  by_cases hne : ns = []
  · have hl0 : ((ns.length : Int) > 0) = False := by rw [hne]; simp
    have hl1 : ns.length = 0 := by rw [hne]; rfl
    have n65 : ([65, 103, 101] : List UInt8).length ≤ 140737488351232 := by decide
    rw [hl1]
    clear hne hl0
    · skip
      go_wp2_with fail
      refine (putTok u3 fs [65, 103, 101] y _ H9.out FT.out (by omega) hyl (by omega)).mono ?_
      rintro e w10 ⟨u10, rfl, ho10⟩
      have B10 := hide' (bt B9.out ho10.2)
      have HP := hide' (holdsF_own ho10)
      have H10 := hide' (holdsF_mono H9.out ho10.2)
      clear ho10 B9 H9
      go_wp2_with fail
      refine (putRef _ fs [65, 103, 101] y _ (holdsF_mono HV.out B10.out) FT.out (by omega) (by omega)).mono ?_
      rintro e w11 ⟨u11, rfl, ho11⟩
      have B11 := hide' (bt B10.out ho11.2)
      have H11 := hide' (holdsF_mono H10.out ho11.2)
      have HP11 := hide' (holdsF_mono HP.out ho11.2)
      have HQ := hide' (holdsF_own ho11)
      have pl := put_len fs [65, 103, 101] y
      clear ho11 B10 H10 HP
      go_wp2_with fail
      refine (sameFe _ _ _ _ HP11.out HQ.out (by omega)).mono ?_
      rintro e w12 ⟨rfl, b12⟩
      have B12 := hide' (bt B11.out b12)
      have H12 := hide' (holdsF_mono H11.out b12)
      clear b12 B11 H11 HP11 HQ pl
      go_wp2_with fail
      refine (sameFe _ _ _ _ H12.out (holdsF_mono HV.out B12.out) (by omega)).mono ?_
      rintro e w13 ⟨rfl, b13⟩
      have B13 := hide' (bt B12.out b13)
      clear b13
      go_wp2_with fail
      go_ret
      exact ⟨rfl, B13.out⟩
  · have hp : 0 < ns.length := by cases ns with | nil => exact absurd rfl hne | cons _ _ => simp
    obtain ⟨hao, hblt, hcell⟩ := CN.out hp
    subst hao
    have n65 := FN.out _ (List.getElem_mem hp)
    have c9 : w9.cell? ⟨b, o, none⟩ = some (.string ⟨(ns[0]'hp).toArray⟩) := by
      rw [B9.out.cell (p := ⟨b, o, none⟩) hblt]; exact hcell 0 hp
    clear hne hcell
    generalize ns[0]'hp = nm at c9 n65
    · skip
      go_wp2_with fail
      refine (putTok u3 fs nm y _ H9.out FT.out (by omega) hyl (by omega)).mono ?_
      rintro e w10 ⟨u10, rfl, ho10⟩
      have B10 := hide' (bt B9.out ho10.2)
      have HP := hide' (holdsF_own ho10)
      have H10 := hide' (holdsF_mono H9.out ho10.2)
      clear ho10 B9 H9
      go_wp2_with fail
      refine (putRef _ fs nm y _ (holdsF_mono HV.out B10.out) FT.out (by omega) (by omega)).mono ?_
      rintro e w11 ⟨u11, rfl, ho11⟩
      have B11 := hide' (bt B10.out ho11.2)
      have H11 := hide' (holdsF_mono H10.out ho11.2)
      have HP11 := hide' (holdsF_mono HP.out ho11.2)
      have HQ := hide' (holdsF_own ho11)
      have pl := put_len fs nm y
      clear ho11 B10 H10 HP
      go_wp2_with fail
      refine (sameFe _ _ _ _ HP11.out HQ.out (by omega)).mono ?_
      rintro e w12 ⟨rfl, b12⟩
      have B12 := hide' (bt B11.out b12)
      have H12 := hide' (holdsF_mono H11.out b12)
      clear b12 B11 H11 HP11 HQ pl
      go_wp2_with fail
      refine (sameFe _ _ _ _ H12.out (holdsF_mono HV.out B12.out) (by omega)).mono ?_
      rintro e w13 ⟨rfl, b13⟩
      have B13 := hide' (bt B12.out b13)
      clear b13
      go_wp2_with fail
      go_ret
      exact ⟨rfl, B13.out⟩
end fieldsTurns
end Go.Proofs.Ytfefihnmmlbfjaa
