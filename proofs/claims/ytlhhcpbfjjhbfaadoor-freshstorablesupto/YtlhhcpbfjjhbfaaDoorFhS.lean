/- The contracts of fresh.Storable and what it calls. -/
import Derived.Test.YtlhhcpbfjjhbfaaDoorFhB
import Derived.Test.YtlhhcpbfjjhbfaaDoorBp
namespace Go.Proofs.YtlhhcpbfjjhbfaaDoor
open Go.RowKit
theorem partFC (s : Int) (w : World) :
    Calls Tryd.prog 25 #[.int .i64 s] w fun e w' => e = .returned (.bool (decide (200 ≤ s ∧ s ≤ 299))) ∧ w' = w := by
  by_cases h1 : 200 ≤ s
  · by_cases h2 : s ≤ 299
    · rw [decide_eq_true ⟨h1, h2⟩]
      go_enter Tryd.func25, Tryd.ntmps25
      go_wp2_with fail
      go_ret
      exact ⟨rfl, rfl⟩
    · rw [decide_eq_false (fun h => h2 h.2)]
      go_enter Tryd.func25, Tryd.ntmps25
      go_wp2_with fail
      go_ret
      exact ⟨rfl, rfl⟩
  · rw [decide_eq_false (fun h => h1 h.1)]
    go_enter Tryd.func25, Tryd.ntmps25
    go_wp2_with fail
    go_ret
    exact ⟨rfl, rfl⟩
theorem openFC (b0 b1 b2 b3 b4 b5 : Bool) (n6 n7 n8 n9 : Int) (w : World) :
    Calls Tryd.prog 22 #[.agg #[.bool b0, .bool b1, .bool b2, .bool b3, .bool b4, .bool b5, .int .i64 n6, .int .i64 n7, .int .i64 n8, .int .i64 n9]] w fun e w' => e = .returned (.bool (b3 || (b4 || decide (n7 ≠ -1)))) ∧ Below w.heap.size w w' := by
  have B0 := hide' (below_alloc' w (.cells #[.bool b0, .bool b1, .bool b2, .bool b3, .bool b4, .bool b5, .int .i64 n6, .int .i64 n7, .int .i64 n8, .int .i64 n9] 40))
  cases b3 with
  | true =>
    go_enter Tryd.func22, Tryd.ntmps22
    go_wp2_with fail
    go_ret
    exact ⟨by simp, B0.out⟩
  | false =>
    cases b4 with
    | true =>
      go_enter Tryd.func22, Tryd.ntmps22
      go_wp2_with fail
      go_ret
      exact ⟨by simp, B0.out⟩
    | false =>
      by_cases h : n7 = -1
      · subst h
        go_enter Tryd.func22, Tryd.ntmps22
        go_wp2_with fail
        go_ret
        exact ⟨by simp, B0.out⟩
      · have hb : (n7 != -1) = true := by simpa using h
        have e : (false || (false || decide (n7 ≠ -1))) = true := by simpa using h
        rw [e]
        clear e h
        go_enter Tryd.func22, Tryd.ntmps22
        go_wp2_with fail
        go_ret
        exact ⟨rfl, B0.out⟩
set_option maxHeartbeats 4000000 in
theorem statusFC (s k : Int) (R : ByteArray) (ao : Option Addr) (n ca : Nat) (fs : FL) (b0 b1 b2 b3 b4 b5 : Bool) (n6 n7 n8 n9 : Int) (w : World) (hv : HoldsF w (.slice ao n ca) fs) (hb : bulkF fs ≤ 1048576) :
    Calls Tryd.prog 20 #[.agg #[.int .i64 s, .string R, .int .i64 k, .slice ao n ca], .agg #[.bool b0, .bool b1, .bool b2, .bool b3, .bool b4, .bool b5, .int .i64 n6, .int .i64 n7, .int .i64 n8, .int .i64 n9]] w fun e w' => e = .returned (.bool (okS s n7 n6 (hasN fs exb))) ∧ Below w.heap.size w w' := by
  have bb := bt' (below_alloc' w (.cells #[.int .i64 s, .string R, .int .i64 k, .slice ao n ca] 26)) (below_alloc' (w.alloc (.cells #[.int .i64 s, .string R, .int .i64 k, .slice ao n ca] 26)) (.cells #[.bool b0, .bool b1, .bool b2, .bool b3, .bool b4, .bool b5, .int .i64 n6, .int .i64 n7, .int .i64 n8, .int .i64 n9] 40))
  have cH := hide' (hasFC (.slice ao n ca) fs exb _ (holdsF_mono hv bb) hb (by decide))
  have B0 := hide' bb
  have cN1 := hide' (fun W => negFC s W)
  clear bb hv hb
  obtain ⟨r, er⟩ : ∃ r, r = okS s n7 n6 (hasN fs exb) := ⟨_, rfl⟩
  rw [← er]
  generalize hasN fs exb = hE at cH er
  by_cases h200 : s = 200
  · subst h200
    have EQ : Hid (r = true) := by unfold Hid; rw [er]; simp [okS]
    clear er
    go_enter Tryd.func20, Tryd.ntmps20
    go_wp2_with fail
    go_ret
    exact ⟨by rw [EQ.out]; try rfl, B0.out⟩
  by_cases h203 : s = 203
  · subst h203
    have EQ : Hid (r = true) := by unfold Hid; rw [er]; simp [okS]
    clear er
    go_enter Tryd.func20, Tryd.ntmps20
    go_wp2_with fail
    go_ret
    exact ⟨by rw [EQ.out]; try rfl, B0.out⟩
  by_cases h300 : s = 300
  · subst h300
    have EQ : Hid (r = true) := by unfold Hid; rw [er]; simp [okS]
    clear er
    go_enter Tryd.func20, Tryd.ntmps20
    go_wp2_with fail
    go_ret
    exact ⟨by rw [EQ.out]; try rfl, B0.out⟩
  by_cases h301 : s = 301
  · subst h301
    have EQ : Hid (r = true) := by unfold Hid; rw [er]; simp [okS]
    clear er
    go_enter Tryd.func20, Tryd.ntmps20
    go_wp2_with fail
    go_ret
    exact ⟨by rw [EQ.out]; try rfl, B0.out⟩
  by_cases h302 : s = 302
  · subst h302
    have ER : Hid (r = (decide (n7 ≠ -1) || (decide (n6 ≠ -1) || hE))) := by unfold Hid; rw [er]; simp [okS, negS]
    clear er
    by_cases h7 : n7 = -1
    case neg =>
      have EQ : Hid (r = true) := by unfold Hid; rw [ER.out]; simp [h7]
      have hb7 : (n7 != -1) = true := by simpa using h7
      go_enter Tryd.func20, Tryd.ntmps20
      go_wp2_with fail
      go_ret
      exact ⟨by rw [EQ.out]; try rfl, B0.out⟩
    subst h7
    by_cases h6 : n6 = -1
    case neg =>
      have EQ : Hid (r = true) := by unfold Hid; rw [ER.out]; simp [h6]
      have hb6 : (n6 != -1) = true := by simpa using h6
      go_enter Tryd.func20, Tryd.ntmps20
      go_wp2_with fail
      go_ret
      exact ⟨by rw [EQ.out]; try rfl, B0.out⟩
    subst h6
    have EQ : Hid (r = hE) := by unfold Hid; rw [ER.out]; simp
    clear ER
    go_enter Tryd.func20, Tryd.ntmps20
    go_wp2_with fail
    refine cH.out.mono ?_
    rintro e w1 ⟨rfl, bw1⟩
    have B1 := hide' (bt' B0.out bw1)
    clear bw1 cH B0
    go_wp2_with fail
    go_ret
    exact ⟨by rw [EQ.out]; try rfl, B1.out⟩
  by_cases h307 : s = 307
  · subst h307
    have ER : Hid (r = (decide (n7 ≠ -1) || (decide (n6 ≠ -1) || hE))) := by unfold Hid; rw [er]; simp [okS, negS]
    clear er
    by_cases h7 : n7 = -1
    case neg =>
      have EQ : Hid (r = true) := by unfold Hid; rw [ER.out]; simp [h7]
      have hb7 : (n7 != -1) = true := by simpa using h7
      go_enter Tryd.func20, Tryd.ntmps20
      go_wp2_with fail
      go_ret
      exact ⟨by rw [EQ.out]; try rfl, B0.out⟩
    subst h7
    by_cases h6 : n6 = -1
    case neg =>
      have EQ : Hid (r = true) := by unfold Hid; rw [ER.out]; simp [h6]
      have hb6 : (n6 != -1) = true := by simpa using h6
      go_enter Tryd.func20, Tryd.ntmps20
      go_wp2_with fail
      go_ret
      exact ⟨by rw [EQ.out]; try rfl, B0.out⟩
    subst h6
    have EQ : Hid (r = hE) := by unfold Hid; rw [ER.out]; simp
    clear ER
    go_enter Tryd.func20, Tryd.ntmps20
    go_wp2_with fail
    refine cH.out.mono ?_
    rintro e w1 ⟨rfl, bw1⟩
    have B1 := hide' (bt' B0.out bw1)
    clear bw1 cH B0
    go_wp2_with fail
    go_ret
    exact ⟨by rw [EQ.out]; try rfl, B1.out⟩
  have EQ : Hid (r = negS s) := by unfold Hid; rw [er]; simp [okS, h200, h203, h300, h301, h302, h307]
  clear er cH
  go_enter Tryd.func20, Tryd.ntmps20
  go_wp2_with fail
  refine (cN1.out _).mono ?_
  rintro e w9 ⟨rfl, ew⟩
  rw [ew]
  clear ew w9
  go_wp2_with fail
  go_ret
  exact ⟨by rw [EQ.out]; try rfl, B0.out⟩
def aub : List UInt8 := [65, 117, 116, 104, 111, 114, 105, 122, 97, 116, 105, 111, 110]
def vab : List UInt8 := [86, 97, 114, 121]
def rab : List UInt8 := [82, 97, 110, 103, 101]
def getB : List UInt8 := [71, 69, 84]
/-- may it be stored, by what was found -/
def stoB (get ok cns dns prv hA op star hR part : Bool) : Bool := get && (ok && (!cns && (!dns && (!prv && ((!hA || op) && (!star && !(hR && part)))))))
def hasStar (fs : FL) : Bool := decide (([42] : List UInt8) ∈ toksOf (valsOf fs vab))
/-- a request, a response and what the response's Control tells in blocks -/
def S3 (w : World) (z : Nat) (W : World) (mt : List UInt8) (T R : ByteArray) (kq s k : Int) (aq ao : Option Addr) (nq cq n ca : Nat) (tl : List Value) : Prop :=
  Below w.heap.size w W ∧ Blk w.heap.size W [.string ⟨mt.toArray⟩, .string T, .int .i64 kq, .slice aq nq cq] ∧ Blk (w.heap.size + 1) W [.int .i64 s, .string R, .int .i64 k, .slice ao n ca] ∧ Blk z W tl
theorem s3_below {w : World} {z : Nat} {W W' : World} {mt : List UInt8} {T R : ByteArray} {kq s k : Int} {aq ao : Option Addr} {nq cq n ca : Nat} {tl : List Value} (h : S3 w z W mt T R kq s k aq ao nq cq n ca tl) (hb : Below W.heap.size W W') : S3 w z W' mt T R kq s k aq ao nq cq n ca tl := ⟨bt' h.1 hb, cells_below h.2.1 hb, cells_below h.2.2.1 hb, cells_below h.2.2.2 hb⟩
theorem four_open {b : Nat} {W : World} {v0 v1 v2 v3 : Value} (h : Blk b W [v0, v1, v2, v3]) : W.cell? ⟨b, 0, none⟩ = some v0 ∧ W.cell? ⟨b, 1, none⟩ = some v1 ∧ W.cell? ⟨b, 2, none⟩ = some v2 ∧ W.cell? ⟨b, 3, none⟩ = some v3 := ⟨(h.1 0 (by simp)).1, (h.1 1 (by simp)).1, (h.1 2 (by simp)).1, (h.1 3 (by simp)).1⟩
set_option maxRecDepth 20000 in
set_option maxHeartbeats 8000000 in
theorem storableFC (mt : List UInt8) (T R : ByteArray) (kq s k : Int) (aq ao : Option Addr) (nq cq n ca : Nat) (gs fs : FL) (c0 c1 c2 c3 c4 c5 : Bool) (m6 m7 m8 m9 : Int) (b0 b1 b2 b3 b4 b5 : Bool) (n6 n7 n8 n9 : Int) (w : World) (hg : HoldsF w (.slice aq nq cq) gs) (hv : HoldsF w (.slice ao n ca) fs) (hbg : bulkF gs ≤ 1048576) (hb : bulkF fs ≤ 1048576) (TG : Told gs c0 c1 c2 c3 c4 c5 m6 m7 m8 m9) (TF : Told fs b0 b1 b2 b3 b4 b5 n6 n7 n8 n9) :
    Calls Tryd.prog 7 #[.agg #[.string ⟨mt.toArray⟩, .string T, .int .i64 kq, .slice aq nq cq], .agg #[.int .i64 s, .string R, .int .i64 k, .slice ao n ca]] w fun e w' => e = .returned (.bool (stoB (decide (mt = getB)) (okS s n7 n6 (hasN fs exb)) c0 b0 b2 (hasN gs aub) (b3 || (b4 || decide (n7 ≠ -1))) (hasStar fs) (hasN gs rab) (decide (200 ≤ s ∧ s ≤ 299)))) ∧ Below w.heap.size w w' := by
  have O0 : Hid (Below w.heap.size w ((w.alloc (.cells #[.string ⟨mt.toArray⟩, .string T, .int .i64 kq, .slice aq nq cq] 24)).alloc (.cells #[.int .i64 s, .string R, .int .i64 k, .slice ao n ca] 26)) ∧ Blk w.heap.size ((w.alloc (.cells #[.string ⟨mt.toArray⟩, .string T, .int .i64 kq, .slice aq nq cq] 24)).alloc (.cells #[.int .i64 s, .string R, .int .i64 k, .slice ao n ca] 26)) [.string ⟨mt.toArray⟩, .string T, .int .i64 kq, .slice aq nq cq] ∧ Blk (w.heap.size + 1) ((w.alloc (.cells #[.string ⟨mt.toArray⟩, .string T, .int .i64 kq, .slice aq nq cq] 24)).alloc (.cells #[.int .i64 s, .string R, .int .i64 k, .slice ao n ca] 26)) [.int .i64 s, .string R, .int .i64 k, .slice ao n ca]) := by
    have b1 := below_alloc' w (.cells #[.string ⟨mt.toArray⟩, .string T, .int .i64 kq, .slice aq nq cq] 24)
    have b2 := below_alloc' (w.alloc (.cells #[.string ⟨mt.toArray⟩, .string T, .int .i64 kq, .slice aq nq cq] 24)) (.cells #[.int .i64 s, .string R, .int .i64 k, .slice ao n ca] 26)
    have c2 := cells_lit (w.alloc (.cells #[.string ⟨mt.toArray⟩, .string T, .int .i64 kq, .slice aq nq cq] 24)) #[.int .i64 s, .string R, .int .i64 k, .slice ao n ca] 26
    have z : (w.alloc (.cells #[.string ⟨mt.toArray⟩, .string T, .int .i64 kq, .slice aq nq cq] 24)).heap.size = w.heap.size + 1 := by simp
    rw [z] at c2
    exact ⟨bt' b1 b2, cells_below (cells_lit w #[.string ⟨mt.toArray⟩, .string T, .int .i64 kq, .slice aq nq cq] 24) b2, c2⟩
  have cT := hide' (fun W (h : Below w.heap.size w W) => toldFC (.slice ao n ca) fs b0 b1 b2 b3 b4 b5 n6 n7 n8 n9 TF W (holdsF_mono hv h) hb)
  have cG := hide' (fun W (h : Below w.heap.size w W) => toldFC (.slice aq nq cq) gs c0 c1 c2 c3 c4 c5 m6 m7 m8 m9 TG W (holdsF_mono hg h) hbg)
  have cS := hide' (fun W (h : Below w.heap.size w W) => statusFC s k R ao n ca fs b0 b1 b2 b3 b4 b5 n6 n7 n8 n9 W (holdsF_mono hv h) hb)
  have cA := hide' (fun W (h : Below w.heap.size w W) => hasFC (.slice aq nq cq) gs aub W (holdsF_mono hg h) hbg (by decide))
  have cR := hide' (fun W (h : Below w.heap.size w W) => hasFC (.slice aq nq cq) gs rab W (holdsF_mono hg h) hbg (by decide))
  have cO := hide' (fun W => openFC b0 b1 b2 b3 b4 b5 n6 n7 n8 n9 W)
  have cPt := hide' (fun W => partFC s W)
  have cV := hide' (fun W (h : Below w.heap.size w W) => tokensTok (.slice ao n ca) fs vab W (holdsF_mono hv h) hb (by decide))
  have hl : (toksOf (valsOf fs vab)).length ≤ 1048576 := by
    have h1 := toks_len (valsOf fs vab)
    have h2 := bulk_vals fs vab
    omega
  have cC := hide' (fun W u (h : Holds W u (toksOf (valsOf fs vab))) => containsS u (toksOf (valsOf fs vab)) [42] W h (by omega))
  clear hv hg hb hbg TG TF
  obtain ⟨r, er⟩ : ∃ r, r = stoB (decide (mt = getB)) (okS s n7 n6 (hasN fs exb)) c0 b0 b2 (hasN gs aub) (b3 || (b4 || decide (n7 ≠ -1))) (hasStar fs) (hasN gs rab) (decide (200 ≤ s ∧ s ≤ 299)) := ⟨_, rfl⟩
  rw [← er]
  have ER := hide' er
  clear er
  unfold hasStar at ER
  obtain ⟨tn, etn⟩ : ∃ tn, tn = (toksOf (valsOf fs vab)).length := ⟨_, rfl⟩
  have TN : Hid ((toksOf (valsOf fs vab)).length = tn) := etn.symm
  clear etn hl
  generalize okS s n7 n6 (hasN fs exb) = ok at cS ER
  generalize hasN gs aub = hA at cA ER
  generalize hasN gs rab = hR at cR ER
  generalize (b3 || (b4 || decide (n7 ≠ -1))) = op at cO ER
  generalize decide (200 ≤ s ∧ s ≤ 299) = part at cPt ER
  generalize toksOf (valsOf fs vab) = ts at cV cC ER TN
  generalize decide (([42] : List UInt8) ∈ ts) = star at cC ER
  have fR : ∀ W : World, (Instr.field 40 (.agg #[.bool c0, .bool c1, .bool c2, .bool c3, .bool c4, .bool c5, .int .i64 m6, .int .i64 m7, .int .i64 m8, .int .i64 m9]) 0).run Tryd.prog W = .ok (.bool c0) W := fun _ => by kernel_rfl
  go_enter Tryd.func7, Tryd.ntmps7
  go_wp2_with fail
  refine (cT.out _ O0.out.1).mono ?_
  rintro e w1 ⟨rfl, bw1⟩
  have O : Hid (S3 w w1.heap.size (w1.alloc (.cells #[.bool b0, .bool b1, .bool b2, .bool b3, .bool b4, .bool b5, .int .i64 n6, .int .i64 n7, .int .i64 n8, .int .i64 n9] 40)) mt T R kq s k aq ao nq cq n ca [.bool b0, .bool b1, .bool b2, .bool b3, .bool b4, .bool b5, .int .i64 n6, .int .i64 n7, .int .i64 n8, .int .i64 n9]) := by
    have bb := bt' bw1 (below_alloc' w1 (.cells #[.bool b0, .bool b1, .bool b2, .bool b3, .bool b4, .bool b5, .int .i64 n6, .int .i64 n7, .int .i64 n8, .int .i64 n9] 40))
    exact ⟨bt' O0.out.1 bb, cells_below O0.out.2.1 bb, cells_below O0.out.2.2 bb, cells_lit w1 #[.bool b0, .bool b1, .bool b2, .bool b3, .bool b4, .bool b5, .int .i64 n6, .int .i64 n7, .int .i64 n8, .int .i64 n9] 40⟩
  clear bw1 O0 cT
  have O9 := O.out
  obtain ⟨q0, q1, q2, q3⟩ := four_open O9.2.1
  obtain ⟨r0, r1, r2, r3⟩ := four_open O9.2.2.1
  obtain ⟨l0, l1, l2, l3, l4, l5, l6, l7, l8, l9⟩ := (cells10K O9.2.2.2).1
  clear O9
  by_cases hM : mt = getB
  case neg =>
    have hq := ba_eql' mt getB hM
    rw [decide_eq_false hM] at ER
    have EQ : Hid (r = false) := by unfold Hid; rw [ER.out]; simp [stoB]
    clear ER
    go_wp2_with fail
    go_ret
    exact ⟨by rw [EQ.out]; try rfl, O.out.1⟩
  subst hM
  rw [decide_eq_true rfl] at ER
  go_wp2_with fail
  refine (cS.out _ O.out.1).mono ?_
  rintro e wn ⟨rfl, bn⟩
  replace O := hide' (s3_below O.out bn)
  clear bn q0 q1 q2 q3 r0 r1 r2 r3 l0 l1 l2 l3 l4 l5 l6 l7 l8 l9
  have O9 := O.out
  obtain ⟨q0, q1, q2, q3⟩ := four_open O9.2.1
  obtain ⟨r0, r1, r2, r3⟩ := four_open O9.2.2.1
  obtain ⟨l0, l1, l2, l3, l4, l5, l6, l7, l8, l9⟩ := (cells10K O9.2.2.2).1
  clear O9
  cases ok with
  | false =>
    have EQ : Hid (r = false) := by unfold Hid; rw [ER.out]; simp [stoB]
    clear ER
    go_wp2_with fail
    go_ret
    exact ⟨by rw [EQ.out]; try rfl, O.out.1⟩
  | true =>
  go_wp2_with fail
  refine (cG.out _ O.out.1).mono ?_
  rintro e wn ⟨rfl, bn⟩
  replace O := hide' (s3_below O.out bn)
  clear bn q0 q1 q2 q3 r0 r1 r2 r3 l0 l1 l2 l3 l4 l5 l6 l7 l8 l9
  have O9 := O.out
  obtain ⟨q0, q1, q2, q3⟩ := four_open O9.2.1
  obtain ⟨r0, r1, r2, r3⟩ := four_open O9.2.2.1
  obtain ⟨l0, l1, l2, l3, l4, l5, l6, l7, l8, l9⟩ := (cells10K O9.2.2.2).1
  clear O9
  cases c0 with
  | true =>
    have EQ : Hid (r = false) := by unfold Hid; rw [ER.out]; simp [stoB]
    clear ER
    go_wp2_with fail
    go_ret
    exact ⟨by rw [EQ.out]; try rfl, O.out.1⟩
  | false =>
  cases b0 with
  | true =>
    have EQ : Hid (r = false) := by unfold Hid; rw [ER.out]; simp [stoB]
    clear ER
    go_wp2_with fail
    go_ret
    exact ⟨by rw [EQ.out]; try rfl, O.out.1⟩
  | false =>
  cases b2 with
  | true =>
    have EQ : Hid (r = false) := by unfold Hid; rw [ER.out]; simp [stoB]
    clear ER
    go_wp2_with fail
    go_ret
    exact ⟨by rw [EQ.out]; try rfl, O.out.1⟩
  | false =>
  go_wp2_with fail
  refine (cA.out _ O.out.1).mono ?_
  rintro e wn ⟨rfl, bn⟩
  replace O := hide' (s3_below O.out bn)
  clear bn q0 q1 q2 q3 r0 r1 r2 r3 l0 l1 l2 l3 l4 l5 l6 l7 l8 l9
  have O9 := O.out
  obtain ⟨q0, q1, q2, q3⟩ := four_open O9.2.1
  obtain ⟨r0, r1, r2, r3⟩ := four_open O9.2.2.1
  obtain ⟨l0, l1, l2, l3, l4, l5, l6, l7, l8, l9⟩ := (cells10K O9.2.2.2).1
  clear O9
  cases hA with
  | false =>
    clear cO
    go_wp2_with fail
    refine (cV.out _ O.out.1).mono ?_
    rintro e wn ⟨u, rfl, ho⟩
    replace O := hide' (s3_below O.out ho.2)
    have cK := hide' (cC.out _ u (holds_own ho))
    obtain ⟨ta, tc, _, _, hu, _⟩ := holds_parts (holds_own ho)
    rw [hu] at cK ⊢
    rw [TN.out] at cK ⊢
    clear ho hu q0 q1 q2 q3 r0 r1 r2 r3 l0 l1 l2 l3 l4 l5 l6 l7 l8 l9
    have O9 := O.out
    obtain ⟨q0, q1, q2, q3⟩ := four_open O9.2.1
    obtain ⟨r0, r1, r2, r3⟩ := four_open O9.2.2.1
    obtain ⟨l0, l1, l2, l3, l4, l5, l6, l7, l8, l9⟩ := (cells10K O9.2.2.2).1
    clear O9
    go_wp2_with fail
    refine (cK.out).mono ?_
    rintro e w9 ⟨rfl, ew⟩
    rw [ew]
    clear ew w9
    clear cK
    cases star with
    | true =>
      have EQ : Hid (r = false) := by unfold Hid; rw [ER.out]; simp [stoB]
      clear ER
      go_wp2_with fail
      go_ret
      exact ⟨by rw [EQ.out]; try rfl, O.out.1⟩
    | false =>
      go_wp2_with fail
      refine (cR.out _ O.out.1).mono ?_
      rintro e wn ⟨rfl, bn⟩
      replace O := hide' (s3_below O.out bn)
      clear bn q0 q1 q2 q3 r0 r1 r2 r3 l0 l1 l2 l3 l4 l5 l6 l7 l8 l9
      have O9 := O.out
      obtain ⟨q0, q1, q2, q3⟩ := four_open O9.2.1
      obtain ⟨r0, r1, r2, r3⟩ := four_open O9.2.2.1
      obtain ⟨l0, l1, l2, l3, l4, l5, l6, l7, l8, l9⟩ := (cells10K O9.2.2.2).1
      clear O9
      cases hR with
      | false =>
        have EQ : Hid (r = true) := by unfold Hid; rw [ER.out]; simp [stoB]
        clear ER
        go_wp2_with fail
        go_ret
        exact ⟨by rw [EQ.out]; try rfl, O.out.1⟩
      | true =>
        go_wp2_with fail
        refine (cPt.out _).mono ?_
        rintro e w9 ⟨rfl, ew⟩
        rw [ew]
        clear ew w9
        have EQ : Hid (r = !part) := by unfold Hid; rw [ER.out]; simp [stoB]
        clear ER
        cases part with
        | true =>
          go_wp2_with fail
          go_ret
          exact ⟨by rw [EQ.out]; try rfl, O.out.1⟩
        | false =>
          go_wp2_with fail
          go_ret
          exact ⟨by rw [EQ.out]; try rfl, O.out.1⟩
  | true =>
    go_wp2_with fail
    refine (cO.out _).mono ?_
    rintro e wn ⟨rfl, bn⟩
    replace O := hide' (s3_below O.out bn)
    clear bn q0 q1 q2 q3 r0 r1 r2 r3 l0 l1 l2 l3 l4 l5 l6 l7 l8 l9
    have O9 := O.out
    obtain ⟨q0, q1, q2, q3⟩ := four_open O9.2.1
    obtain ⟨r0, r1, r2, r3⟩ := four_open O9.2.2.1
    obtain ⟨l0, l1, l2, l3, l4, l5, l6, l7, l8, l9⟩ := (cells10K O9.2.2.2).1
    clear O9
    cases op with
    | false =>
      have EQ : Hid (r = false) := by unfold Hid; rw [ER.out]; simp [stoB]
      clear ER
      go_wp2_with fail
      go_ret
      exact ⟨by rw [EQ.out]; try rfl, O.out.1⟩
    | true =>
      go_wp2_with fail
      refine (cV.out _ O.out.1).mono ?_
      rintro e wn ⟨u, rfl, ho⟩
      replace O := hide' (s3_below O.out ho.2)
      have cK := hide' (cC.out _ u (holds_own ho))
      obtain ⟨ta, tc, _, _, hu, _⟩ := holds_parts (holds_own ho)
      rw [hu] at cK ⊢
      rw [TN.out] at cK ⊢
      clear ho hu q0 q1 q2 q3 r0 r1 r2 r3 l0 l1 l2 l3 l4 l5 l6 l7 l8 l9
      have O9 := O.out
      obtain ⟨q0, q1, q2, q3⟩ := four_open O9.2.1
      obtain ⟨r0, r1, r2, r3⟩ := four_open O9.2.2.1
      obtain ⟨l0, l1, l2, l3, l4, l5, l6, l7, l8, l9⟩ := (cells10K O9.2.2.2).1
      clear O9
      go_wp2_with fail
      refine (cK.out).mono ?_
      rintro e w9 ⟨rfl, ew⟩
      rw [ew]
      clear ew w9
      clear cK
      cases star with
      | true =>
        have EQ : Hid (r = false) := by unfold Hid; rw [ER.out]; simp [stoB]
        clear ER
        go_wp2_with fail
        go_ret
        exact ⟨by rw [EQ.out]; try rfl, O.out.1⟩
      | false =>
        go_wp2_with fail
        refine (cR.out _ O.out.1).mono ?_
        rintro e wn ⟨rfl, bn⟩
        replace O := hide' (s3_below O.out bn)
        clear bn q0 q1 q2 q3 r0 r1 r2 r3 l0 l1 l2 l3 l4 l5 l6 l7 l8 l9
        have O9 := O.out
        obtain ⟨q0, q1, q2, q3⟩ := four_open O9.2.1
        obtain ⟨r0, r1, r2, r3⟩ := four_open O9.2.2.1
        obtain ⟨l0, l1, l2, l3, l4, l5, l6, l7, l8, l9⟩ := (cells10K O9.2.2.2).1
        clear O9
        cases hR with
        | false =>
          have EQ : Hid (r = true) := by unfold Hid; rw [ER.out]; simp [stoB]
          clear ER
          go_wp2_with fail
          go_ret
          exact ⟨by rw [EQ.out]; try rfl, O.out.1⟩
        | true =>
          go_wp2_with fail
          refine (cPt.out _).mono ?_
          rintro e w9 ⟨rfl, ew⟩
          rw [ew]
          clear ew w9
          have EQ : Hid (r = !part) := by unfold Hid; rw [ER.out]; simp [stoB]
          clear ER
          cases part with
          | true =>
            go_wp2_with fail
            go_ret
            exact ⟨by rw [EQ.out]; try rfl, O.out.1⟩
          | false =>
            go_wp2_with fail
            go_ret
            exact ⟨by rw [EQ.out]; try rfl, O.out.1⟩
end Go.Proofs.YtlhhcpbfjjhbfaaDoor
