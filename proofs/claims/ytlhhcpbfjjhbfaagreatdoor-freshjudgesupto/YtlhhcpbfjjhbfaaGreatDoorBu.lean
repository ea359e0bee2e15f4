/- The contracts of the document's Age and Lifetime. The contract of the document's Lifetime. -/
import Derived.Test.YtlhhcpbfjjhbfaaGreatDoorBt
import Derived.Test.YtlhhcpbfjjhbfaaGreatDoorFhD
namespace Go.Proofs.YtlhhcpbfjjhbfaaGreatDoor
open Go.RowKit
theorem cut_since (x y : Int) (h1 : 0 ≤ x ∧ x ≤ 253402300799) (h2 : 0 ≤ y ∧ y ≤ 253402300799) : cN (y - x) 253402300799 = sN x y := by unfold cN sN; omega
theorem cut_age (x : Int) (h : x ≤ 2147483648) : cN x 253402300799 = max x 0 := by unfold cN; omega
set_option maxHeartbeats 4000000 in
theorem ageRC (K V R : ByteArray) (s k a g : Int) (ao ba : Option Addr) (n m ca bc : Nat) (now : Int) (fs : FL) (d : Int) (w : World) (hv : HoldsF w (.slice ao n ca) fs) (hb : bulkF fs ≤ 1048576) (D : DtB (joinOf (valsOf fs dab)) d) :
    Calls Tryz.prog 10 #[.agg #[.string K, .string V, .int .i64 s, .string R, .int .i64 k, .slice ao n ca, .slice ba m bc, .int .i64 a, .int .i64 g], .int .i64 now] w fun e w' => e = .returned (.int .i64 (ageN d (secs (joinOf (valsOf fs agb))) a g now)) ∧ Below w.heap.size w w' := by
  have A0 := hide' (show AgO w w.heap.size (w.alloc (.cells #[.string K, .string V, .int .i64 s, .string R, .int .i64 k, .slice ao n ca, .slice ba m bc, .int .i64 a, .int .i64 g] 27)) K V R s k a g ao ba n m ca bc from ⟨below_alloc' w _, enC_lit w K V R s k a g ao ba n m ca bc⟩)
  have cD := hide' (fun W (h : Below w.heap.size w W) => dateRC K V R s k a g ao ba n m ca bc fs d W (holdsF_mono hv h) hb D)
  have cG := hide' (fun W (h : Below w.heap.size w W) => getRef (.slice ao n ca) fs agbR W (holdsF_mono hv h) hb (by decide))
  rw [vals_agb] at cG
  have hl : (joinOf (valsOf fs agb)).length ≤ 2097152 := by have h1 := join_len (valsOf fs agb); have h2 := bulk_vals fs agb; omega
  have dI := dtN_in d g D.1.2.1
  clear hv D
  generalize decide (0 < (valsOf fs agb).length) = pb at cG
  generalize joinOf (valsOf fs agb) = jl at cG hl ⊢
  have cS := fun W => secondsRef ⟨jl.toArray⟩ W (by show jl.toArray.size ≤ 140737488351232; rw [List.size_toArray]; omega)
  obtain ⟨r, er⟩ : ∃ r, r = ageN d (secs jl) a g now := ⟨_, rfl⟩
  rw [← er]
  unfold ageN at er
  obtain ⟨ag, eg⟩ : ∃ ag, ag = secs jl := ⟨_, rfl⟩
  have cS2 := hide' (fun W => by have h := cS W; rw [show secs (⟨jl.toArray⟩ : ByteArray).data.toList = ag from eg.symm] at h; exact h)
  have xi := secs_in jl
  rw [← eg] at xi er
  clear eg cS hl
  have i1 := cN_in g (m := 253402300799) (by omega)
  have i2 := cN_in a (m := 253402300799) (by omega)
  have i3 := cN_in now (m := 253402300799) (by omega)
  have c1 := hide' (cutRC g 253402300799 (by omega))
  have c2 := hide' (cutRC a 253402300799 (by omega))
  have c3 := hide' (cutRC now 253402300799 (by omega))
  have c4 := hide' (cutRC ag 253402300799 (by omega))
  have e4 := cut_age ag xi.2
  rw [e4] at c4
  clear e4
  have x1 : 0 ≤ max ag 0 ∧ max ag 0 ≤ 2147483648 := by omega
  clear xi
  generalize dtN d g = dt at cD dI er
  generalize cN g 253402300799 = gg at c1 i1 er
  generalize cN a 253402300799 = aa at c2 i2 er
  generalize cN now 253402300799 = nn at c3 i3 er
  generalize max ag 0 = at' at c4 x1 er
  have s1 := cutRC (gg - dt) 253402300799 (by omega)
  have s2 := cutRC (gg - aa) 253402300799 (by omega)
  have s3 := cutRC (nn - gg) 253402300799 (by omega)
  rw [cut_since dt gg dI i1] at s1
  rw [cut_since aa gg i2 i1] at s2
  rw [cut_since gg nn i1 i3] at s3
  replace s1 := hide' s1
  replace s2 := hide' s2
  replace s3 := hide' s3
  have y1 : 0 ≤ sN dt gg ∧ sN dt gg ≤ 253402300799 := by unfold sN; omega
  have y2 : 0 ≤ sN aa gg ∧ sN aa gg ≤ 253402300799 := by unfold sN; omega
  have y3 : 0 ≤ sN gg nn ∧ sN gg nn ≤ 253402300799 := by unfold sN; omega
  generalize sN dt gg = z1 at s1 y1 er
  generalize sN aa gg = z2 at s2 y2 er
  generalize sN gg nn = z3 at s3 y3 er
  obtain ⟨dI0, dI1⟩ := dI
  obtain ⟨i10, i11⟩ := i1
  obtain ⟨i20, i21⟩ := i2
  obtain ⟨i30, i31⟩ := i3
  obtain ⟨x10, x11⟩ := x1
  obtain ⟨y10, y11⟩ := y1
  obtain ⟨y20, y21⟩ := y2
  obtain ⟨y30, y31⟩ := y3
  have ER := hide' er
  clear er
  go_enter Tryz.func10, Tryz.ntmps10
  go_wp2_with fail
  refine (c1.out _).mono ?_
  rintro e w9 ⟨rfl, ew⟩
  rw [ew]
  clear ew w9
  clear c1
  have O0 := A0.out
  obtain ⟨-, i0, i1, i2, i3, i4, i5, i6, i7, i8⟩ := enC_open O0.2
  clear O0
  go_wp2_with fail
  refine (cD.out _ A0.out.1).mono ?_
  rintro e w1 ⟨rfl, b1⟩
  have A1 := hide' (agO_below A0.out b1)
  clear b1 A0 cD i0 i1 i2 i3 i4 i5 i6 i7 i8
  go_wp2_with fail
  refine (s1.out _).mono ?_
  rintro e w9 ⟨rfl, ew⟩
  rw [ew]
  clear ew w9
  clear s1
  have O0 := A1.out
  obtain ⟨-, i0, i1, i2, i3, i4, i5, i6, i7, i8⟩ := enC_open O0.2
  clear O0
  go_wp2_with fail
  refine (cG.out _ A1.out.1).mono ?_
  rintro e w2 ⟨rfl, b2⟩
  have A2 := hide' (agO_below A1.out b2)
  clear b2 A1 cG i0 i1 i2 i3 i4 i5 i6 i7 i8
  have O0 := A2.out
  obtain ⟨-, i0, i1, i2, i3, i4, i5, i6, i7, i8⟩ := enC_open O0.2
  clear O0
  go_wp2_with fail
  go_quiet (first
    | (go_at_call 35; exact Calls.quiet_of_same (cS2.out _))
    | (go_at_call_of 26 (ag); exact Calls.quiet_of_same (c4.out _))
    | (go_at_call_of 26 (a); exact Calls.quiet_of_same (c2.out _))
    | (go_at_call_of 26 (gg - aa); exact Calls.quiet_of_same (s2.out _)))
  by_cases hc : z1 < at' + z2
  · have EQ : Hid (r = at' + z2 + z3) := by unfold Hid; rw [ER.out]; omega
    clear ER
    go_wp2_with fail
    refine (c3.out _).mono ?_
    rintro e w9 ⟨rfl, ew⟩
    rw [ew]
    clear ew w9
    go_wp2_with fail
    refine (s3.out _).mono ?_
    rintro e w9 ⟨rfl, ew⟩
    rw [ew]
    clear ew w9
    go_wp2_with fail
    go_ret
    exact ⟨by rw [EQ.out]; try rfl, bt' A2.out.1 (below_drewN _ _)⟩
  · have EQ : Hid (r = z1 + z3) := by unfold Hid; rw [ER.out]; omega
    clear ER
    go_wp2_with fail
    refine (c3.out _).mono ?_
    rintro e w9 ⟨rfl, ew⟩
    rw [ew]
    clear ew w9
    go_wp2_with fail
    refine (s3.out _).mono ?_
    rintro e w9 ⟨rfl, ew⟩
    rw [ew]
    clear ew w9
    go_wp2_with fail
    go_ret
    exact ⟨by rw [EQ.out]; try rfl, bt' A2.out.1 (below_drewN _ _)⟩
theorem cells_int (W : World) (l : List Int) (t : TypeId) : ∀ j (h : j < l.length), (W.alloc (.cells (l.map fun z => Value.int .i64 z).toArray t)).cell? ⟨W.heap.size, j, none⟩ = some (.int .i64 l[j]) := by
  intro j h
  simp
theorem amongL (s : Int) (l : List Int) (n : Nat) (hn : n = l.length) (hl : n ≤ 1000) (W : World) :
    Calls Tryz.prog 29 #[.int .i64 s, .slice (some ⟨W.heap.size, 0, none⟩) n n] (W.alloc (.cells (l.map fun z => Value.int .i64 z).toArray 3)) fun e w' => e = .returned (.bool (decide (s ∈ l))) ∧ w' = (W.alloc (.cells (l.map fun z => Value.int .i64 z).toArray 3)) :=
  amongRC s l W.heap.size n _ hn hl (cells_int W l 3)
theorem neg_mem (s : Int) : decide (s ∈ ([404, 405, 410, 414, 501] : List Int)) = negS s := by
  unfold negS
  simp
theorem ePo_drew {w W : World} {K V R : ByteArray} {s k a g : Int} {ao ba : Option Addr} {n m ca bc : Nat} {p0 p1 p2 p3 : Int} (h : EPo w W K V R s k a g ao ba n m ca bc p0 p1 p2 p3) : EPo w W.drew K V R s k a g ao ba n m ca bc p0 p1 p2 p3 := ePo_below h (Below.refl _ _).drew
theorem ePo_ten {w W : World} {q : Nat} {K V R : ByteArray} {s k a g : Int} {ao ba : Option Addr} {n m ca bc : Nat} {p0 p1 p2 p3 : Int} (hq : q = w.heap.size) (h : EPo w W K V R s k a g ao ba n m ca bc p0 p1 p2 p3) : W.cell? ⟨q, 0, none⟩ = some (.string K) ∧ W.cell? ⟨q, 1, none⟩ = some (.string V) ∧ W.cell? ⟨q, 2, none⟩ = some (.int .i64 s) ∧ W.cell? ⟨q, 3, none⟩ = some (.string R) ∧ W.cell? ⟨q, 4, none⟩ = some (.int .i64 k) ∧ W.cell? ⟨q, 5, none⟩ = some (.slice ao n ca) ∧ W.cell? ⟨q, 6, none⟩ = some (.slice ba m bc) ∧ W.cell? ⟨q, 7, none⟩ = some (.int .i64 a) ∧ W.cell? ⟨q, 8, none⟩ = some (.int .i64 g) ∧ W.cell? ⟨q + 1, 1, none⟩ = some (.int .i64 p1) := by
  subst hq
  obtain ⟨-, h0, h1, h2, h3, h4, h5, h6, h7, h8⟩ := enC_open h.2.1
  exact ⟨h0, h1, h2, h3, h4, h5, h6, h7, h8, (poC_open h.2.2).2.2.1⟩
theorem ctlRT (v : Value) (fs : FL) (b0 b1 b2 b3 b4 b5 : Bool) (n6 n7 n8 n9 : Int) (T : Told fs b0 b1 b2 b3 b4 b5 n6 n7 n8 n9) (w : World) (hv : HoldsF w v fs) (hb : bulkF fs ≤ 1048576) :
    Calls Tryz.prog 24 #[v] w fun e w' => e = .returned (.agg #[.bool b0, .bool b1, .bool b2, .bool b3, .bool b4, .bool b5, .int .i64 n6, .int .i64 n7, .int .i64 n8, .int .i64 n9]) ∧ Below w.heap.size w w' := by
  have h := ctlR v fs w hv hb
  rw [T.eq] at h
  exact h
end Go.Proofs.YtlhhcpbfjjhbfaaGreatDoor
namespace Go.Proofs.YtlhhcpbfjjhbfaaGreatDoor
open Go.RowKit
set_option maxRecDepth 20000 in
set_option maxHeartbeats 8000000 in
theorem lifeRC (K V R : ByteArray) (s k a g : Int) (ao ba : Option Addr) (n m ca bc : Nat) (p0 p1 p2 p3 : Int) (fs : FL) (b0 b1 b2 b3 b4 b5 : Bool) (n6 n7 n8 n9 : Int) (d x y : Int) (w : World) (hv : HoldsF w (.slice ao n ca) fs) (hb : bulkF fs ≤ 1048576) (T : Told fs b0 b1 b2 b3 b4 b5 n6 n7 n8 n9) (D : DtB (joinOf (valsOf fs dab)) d) (X : DtB (joinOf (valsOf fs exb)) x) (Y : DtB (joinOf (valsOf fs lmb)) y) :
    Calls Tryz.prog 8 #[.agg #[.string K, .string V, .int .i64 s, .string R, .int .i64 k, .slice ao n ca, .slice ba m bc, .int .i64 a, .int .i64 g], .agg #[.int .i64 p0, .int .i64 p1, .int .i64 p2, .int .i64 p3]] w fun e w' => e = .returned (.int .i64 (lifeN n7 n6 (hasN fs exb) d x y s g p0 p2 p3 p1)) ∧ Below w.heap.size w w' := by
  have C0 := hide' (ePo_lit w K V R s k a g ao ba n m ca bc p0 p1 p2 p3)
  have cT := hide' (fun W (h : Below w.heap.size w W) => ctlRT (.slice ao n ca) fs b0 b1 b2 b3 b4 b5 n6 n7 n8 n9 T W (holdsF_mono hv h) hb)
  have cH := hide' (fun W (h : Below w.heap.size w W) => by have c := hasRC (.slice ao n ca) fs exbR W (holdsF_mono hv h) hb (by decide); unfold hasN at c; rw [vals_exb] at c; exact c)
  have cX := (fun W (h : Below w.heap.size w W) => secondRC (.slice ao n ca) fs exbR x W (holdsF_mono hv h) hb (by decide) (by rw [vals_exb]; exact X))
  have cY := hide' (fun W (h : Below w.heap.size w W) => secondRC (.slice ao n ca) fs lmbR y W (holdsF_mono hv h) hb (by decide) (by rw [vals_lmb]; exact Y))
  have cD := (fun W (h : Below w.heap.size w W) => dateRC K V R s k a g ao ba n m ca bc fs d W (holdsF_mono hv h) hb D)
  have cN1 : Hid (∀ W : World, Calls Tryz.prog 29 #[.int .i64 s, .slice (some ⟨W.heap.size, 0, none⟩) 5 5] (W.alloc (.cells #[.int .i64 404, .int .i64 405, .int .i64 410, .int .i64 414, .int .i64 501] 3)) fun e w' => e = .returned (.bool (negS s)) ∧ w' = W.alloc (.cells #[.int .i64 404, .int .i64 405, .int .i64 410, .int .i64 414, .int .i64 501] 3)) := fun W => by have c := amongL s [404, 405, 410, 414, 501] 5 rfl (by omega) W; rw [neg_mem] at c; exact c
  have dI := dtN_in d g D.1.2.1
  have xI := X.1.2.1
  have xI0 := X.1.1
  have yI := Y.1.2.1
  have t7 := T.i7.1
  have t6 := T.i6.1
  clear hv D X Y T
  obtain ⟨r, er⟩ : ∃ r, r = lifeN n7 n6 (hasN fs exb) d x y s g p0 p2 p3 p1 := ⟨_, rfl⟩
  rw [← er]
  unfold lifeN untN gueN hasN at er
  generalize decide (0 < (valsOf fs exb).length) = hE at cH er
  generalize negS s = ng at cN1 er
  generalize dtN d g = dt at cD dI er
  have i1 := cN_in p0 (m := 2147483648) (by omega)
  have i2 := cN_in p2 (m := 2147483648) (by omega)
  have i3 := cN_in p1 (m := 100) (by omega)
  have i4 := cN_in p3 (m := 2147483648) (by omega)
  have c0 := hide' (cutRC p0 2147483648 (by omega))
  have c2 := hide' (cutRC p2 2147483648 (by omega))
  have c1 := cutRC p1 100 (by omega)
  have c3 := hide' (cutRC p3 2147483648 (by omega))
  have c4 := cutRC (x - dt) 2147483648 (by omega)
  generalize cN p0 2147483648 = y0 at c0 i1 er
  generalize cN p2 2147483648 = y2 at c2 i2 er
  generalize cN p1 100 = y1 at c1 i3 er
  generalize cN p3 2147483648 = y3 at c3 i4 er
  obtain ⟨x4, ex4⟩ : ∃ x4, x4 = cN (x - dt) 2147483648 := ⟨_, rfl⟩
  have EX4 : Hid (x4 = if x < 0 then 0 else min (sN dt x) 2147483648) := by
    unfold Hid
    rw [ex4]
    unfold cN sN
    split <;> omega
  rw [← ex4] at c4
  clear ex4
  obtain ⟨dI0, dI1⟩ := dI
  obtain ⟨i10, i11⟩ := i1
  obtain ⟨i20, i21⟩ := i2
  obtain ⟨i30, i31⟩ := i3
  obtain ⟨i40, i41⟩ := i4
  have ER := hide' er
  clear er
  have P1 := hide' (fun (h : 0 ≤ y) (h2 : y ≤ dt) => show 0 ≤ (dt - y) * y1 ∧ (dt - y) * y1 ≤ 25340230079900 from ⟨Int.mul_nonneg (by omega) i30, by
    have h3 : (dt - y) * y1 ≤ (dt - y) * 100 := Int.mul_le_mul_of_nonneg_left i31 (by omega)
    omega⟩)
  obtain ⟨q, hq⟩ : ∃ q, q = w.heap.size := ⟨_, rfl⟩
  have kX : Hid (∀ W, EPo w W K V R s k a g ao ba n m ca bc p0 p1 p2 p3 → Calls Tryz.prog 27 #[.slice ao n ca, .string ⟨exbR.toArray⟩] W fun e w' => e = .returned (.int .i64 x) ∧ Hid (EPo w w' K V R s k a g ao ba n m ca bc p0 p1 p2 p3) ∧ w'.cell? ⟨q, 0, none⟩ = some (.string K) ∧ w'.cell? ⟨q, 1, none⟩ = some (.string V) ∧ w'.cell? ⟨q, 2, none⟩ = some (.int .i64 s) ∧ w'.cell? ⟨q, 3, none⟩ = some (.string R) ∧ w'.cell? ⟨q, 4, none⟩ = some (.int .i64 k) ∧ w'.cell? ⟨q, 5, none⟩ = some (.slice ao n ca) ∧ w'.cell? ⟨q, 6, none⟩ = some (.slice ba m bc) ∧ w'.cell? ⟨q, 7, none⟩ = some (.int .i64 a) ∧ w'.cell? ⟨q, 8, none⟩ = some (.int .i64 g) ∧ w'.cell? ⟨q + 1, 1, none⟩ = some (.int .i64 p1)) := fun W h => (cX W h.1).mono (fun e w' ⟨h1, h2⟩ => ⟨h1, ePo_below h h2, ePo_ten hq (ePo_below h h2)⟩)
  have kD : Hid (∀ W, EPo w W K V R s k a g ao ba n m ca bc p0 p1 p2 p3 → Calls Tryz.prog 28 #[.agg #[.string K, .string V, .int .i64 s, .string R, .int .i64 k, .slice ao n ca, .slice ba m bc, .int .i64 a, .int .i64 g]] W fun e w' => e = .returned (.int .i64 dt) ∧ Hid (EPo w w' K V R s k a g ao ba n m ca bc p0 p1 p2 p3) ∧ w'.cell? ⟨q, 0, none⟩ = some (.string K) ∧ w'.cell? ⟨q, 1, none⟩ = some (.string V) ∧ w'.cell? ⟨q, 2, none⟩ = some (.int .i64 s) ∧ w'.cell? ⟨q, 3, none⟩ = some (.string R) ∧ w'.cell? ⟨q, 4, none⟩ = some (.int .i64 k) ∧ w'.cell? ⟨q, 5, none⟩ = some (.slice ao n ca) ∧ w'.cell? ⟨q, 6, none⟩ = some (.slice ba m bc) ∧ w'.cell? ⟨q, 7, none⟩ = some (.int .i64 a) ∧ w'.cell? ⟨q, 8, none⟩ = some (.int .i64 g) ∧ w'.cell? ⟨q + 1, 1, none⟩ = some (.int .i64 p1)) := fun W h => (cD W h.1).mono (fun e w' ⟨h1, h2⟩ => ⟨h1, ePo_below h h2, ePo_ten hq (ePo_below h h2)⟩)
  have kC : Hid (∀ W, EPo w W K V R s k a g ao ba n m ca bc p0 p1 p2 p3 → Calls Tryz.prog 26 #[.int .i64 p1, .int .i64 100] W fun e w' => e = .returned (.int .i64 y1) ∧ Hid (EPo w w' K V R s k a g ao ba n m ca bc p0 p1 p2 p3) ∧ w'.cell? ⟨q, 0, none⟩ = some (.string K) ∧ w'.cell? ⟨q, 1, none⟩ = some (.string V) ∧ w'.cell? ⟨q, 2, none⟩ = some (.int .i64 s) ∧ w'.cell? ⟨q, 3, none⟩ = some (.string R) ∧ w'.cell? ⟨q, 4, none⟩ = some (.int .i64 k) ∧ w'.cell? ⟨q, 5, none⟩ = some (.slice ao n ca) ∧ w'.cell? ⟨q, 6, none⟩ = some (.slice ba m bc) ∧ w'.cell? ⟨q, 7, none⟩ = some (.int .i64 a) ∧ w'.cell? ⟨q, 8, none⟩ = some (.int .i64 g) ∧ w'.cell? ⟨q + 1, 1, none⟩ = some (.int .i64 p1)) := fun W h => (c1 W).mono (fun e w' ⟨h1, h2⟩ => ⟨h1, by rw [h2]; exact h, by rw [h2]; exact ePo_ten hq h⟩)
  have k4 : Hid (∀ W, EPo w W K V R s k a g ao ba n m ca bc p0 p1 p2 p3 → Calls Tryz.prog 26 #[.int .i64 (x - dt), .int .i64 2147483648] W fun e w' => e = .returned (.int .i64 x4) ∧ Hid (EPo w w' K V R s k a g ao ba n m ca bc p0 p1 p2 p3) ∧ w'.cell? ⟨q, 0, none⟩ = some (.string K) ∧ w'.cell? ⟨q, 1, none⟩ = some (.string V) ∧ w'.cell? ⟨q, 2, none⟩ = some (.int .i64 s) ∧ w'.cell? ⟨q, 3, none⟩ = some (.string R) ∧ w'.cell? ⟨q, 4, none⟩ = some (.int .i64 k) ∧ w'.cell? ⟨q, 5, none⟩ = some (.slice ao n ca) ∧ w'.cell? ⟨q, 6, none⟩ = some (.slice ba m bc) ∧ w'.cell? ⟨q, 7, none⟩ = some (.int .i64 a) ∧ w'.cell? ⟨q, 8, none⟩ = some (.int .i64 g) ∧ w'.cell? ⟨q + 1, 1, none⟩ = some (.int .i64 p1)) := fun W h => (c4 W).mono (fun e w' ⟨h1, h2⟩ => ⟨h1, by rw [h2]; exact h, by rw [h2]; exact ePo_ten hq h⟩)
  have cDh := hide' cD
  have HQ := hide' hq
  clear cX cD c1 c4 hq
  go_enter Tryz.func8, Tryz.ntmps8
  go_wp2_with fail
  refine (cT.out _ C0.out.1).mono ?_
  rintro e w1 ⟨rfl, bw1⟩
  have C1 := hide' (ePo_below (ePo_below C0.out bw1) (below_alloc' w1 (.cells #[.bool b0, .bool b1, .bool b2, .bool b3, .bool b4, .bool b5, .int .i64 n6, .int .i64 n7, .int .i64 n8, .int .i64 n9] 37)))
  clear bw1 cT C0
  have O0 := C1.out
  obtain ⟨-, i0, i1, i2, i3, i4, i5, i6, i7, i8⟩ := enC_open O0.2.1
  obtain ⟨-, j0, j1, j2, j3⟩ := poC_open O0.2.2
  clear O0
  by_cases h7 : n7 = -1
  case neg =>
    have EQ : Hid (r = n7) := by unfold Hid; rw [ER.out, if_pos h7]
    have h7' : 0 ≤ n7 := by omega
    clear ER
    go_wp2_with fail
    go_ret
    exact ⟨by rw [EQ.out]; try rfl, C1.out.1⟩
  subst h7
  by_cases h6 : n6 = -1
  case neg =>
    have EQ : Hid (r = n6) := by unfold Hid; rw [ER.out, if_neg (by simp), if_pos h6]
    have h6' : 0 ≤ n6 := by omega
    clear ER
    go_wp2_with fail
    go_ret
    exact ⟨by rw [EQ.out]; try rfl, C1.out.1⟩
  subst h6
  go_wp2_with fail
  refine (cH.out _ C1.out.1).mono ?_
  rintro e w2 ⟨rfl, bw2⟩
  have O := hide' (ePo_below C1.out bw2)
  clear bw2 cH C1 i0 i1 i2 i3 i4 i5 i6 i7 i8 j0 j1 j2 j3
  cases hE with
  | true =>
    have EQ : Hid (r = x4) := by unfold Hid; rw [ER.out, if_neg (by simp), if_neg (by simp), if_pos rfl, EX4.out]
    clear ER EX4
    obtain ⟨ce0, ce1, ce2, ce3, ce4, ce5, ce6, ce7, ce8, ce9⟩ := ePo_ten HQ.out O.out
    have qw : IntKind.i64.wrap (x - dt) = x - dt := by rw [IntKind.wrap_i64]; omega
    have hqw : q < w2.heap.size := by have := O.out.2.1.2; rw [HQ.out]; exact this
    go_wp2_with fail
    rw [← HQ.out]
    go_region_held3 (fun w' => w'.cell? ⟨q, 0, none⟩ = some (.string K) ∧ w'.cell? ⟨q, 1, none⟩ = some (.string V) ∧ w'.cell? ⟨q, 2, none⟩ = some (.int .i64 s) ∧ w'.cell? ⟨q, 3, none⟩ = some (.string R) ∧ w'.cell? ⟨q, 4, none⟩ = some (.int .i64 k) ∧ w'.cell? ⟨q, 5, none⟩ = some (.slice ao n ca) ∧ w'.cell? ⟨q, 6, none⟩ = some (.slice ba m bc) ∧ w'.cell? ⟨q, 7, none⟩ = some (.int .i64 a) ∧ w'.cell? ⟨q, 8, none⟩ = some (.int .i64 g) ∧ w'.cell? ⟨q + 1, 1, none⟩ = some (.int .i64 p1)) (go_keep)
      (first
        | (go_at_call 27; refine (kX.out _ ?_).mono ?_; (first | exact O.out | exact ePo_drew O.out); rintro e w3 ⟨rfl, O, ce0, ce1, ce2, ce3, ce4, ce5, ce6, ce7, ce8, ce9⟩)
        | (go_at_call 28; refine (kD.out _ ?_).mono ?_; (first | exact O.out | exact ePo_drew O.out); rintro e w3 ⟨rfl, O, ce0, ce1, ce2, ce3, ce4, ce5, ce6, ce7, ce8, ce9⟩)
        | (go_at_call 26; refine (k4.out _ ?_).mono ?_; (first | exact O.out | exact ePo_drew O.out); rintro e w3 ⟨rfl, O, ce0, ce1, ce2, ce3, ce4, ce5, ce6, ce7, ce8, ce9⟩))
    all_goals
      go_wp2_with fail
      go_ret
      exact ⟨by rw [EQ.out]; try rfl, O.out.1⟩
  | false =>
    have O0 := O.out
    obtain ⟨-, i0, i1, i2, i3, i4, i5, i6, i7, i8⟩ := enC_open O0.2.1
    obtain ⟨-, j0, j1, j2, j3⟩ := poC_open O0.2.2
    clear O0
    go_wp2_with fail
    refine (cN1.out _).mono ?_
    rintro e w9 ⟨rfl, ew⟩
    rw [ew]
    clear ew w9
    have C3 := hide' (ePo_below O.out (below_alloc' w2 (.cells #[.int .i64 404, .int .i64 405, .int .i64 410, .int .i64 414, .int .i64 501] 3)))
    clear O i0 i1 i2 i3 i4 i5 i6 i7 i8 j0 j1 j2 j3 cN1
    obtain ⟨W3, eW3⟩ : ∃ W3, W3 = w2.alloc (.cells #[.int .i64 404, .int .i64 405, .int .i64 410, .int .i64 414, .int .i64 501] 3) := ⟨_, rfl⟩
    rw [← eW3] at C3 ⊢
    clear eW3
    have O0 := C3.out
    obtain ⟨-, i0, i1, i2, i3, i4, i5, i6, i7, i8⟩ := enC_open O0.2.1
    obtain ⟨-, j0, j1, j2, j3⟩ := poC_open O0.2.2
    clear O0
    cases ng with
    | true =>
      have EQ : Hid (r = y3) := by unfold Hid; rw [ER.out, if_neg (by simp), if_neg (by simp), if_neg (by simp), if_pos rfl]
      clear ER
      go_wp2_with fail
      refine (c3.out _).mono ?_
      rintro e w9 ⟨rfl, ew⟩
      rw [ew]
      clear ew w9
      go_wp2_with fail
      go_ret
      exact ⟨by rw [EQ.out]; try rfl, C3.out.1⟩
    | false =>
      rw [if_neg (by simp), if_neg (by simp), if_neg (by simp), if_neg (by simp)] at ER
      clear EX4 k4 kX c3
      go_wp2_with fail
      refine (cY.out _ C3.out.1).mono ?_
      rintro e w4 ⟨rfl, bw4⟩
      have C4 := hide' (ePo_below C3.out bw4)
      clear bw4 C3 cY i0 i1 i2 i3 i4 i5 i6 i7 i8 j0 j1 j2 j3
      have O0 := C4.out
      obtain ⟨-, i0, i1, i2, i3, i4, i5, i6, i7, i8⟩ := enC_open O0.2.1
      obtain ⟨-, j0, j1, j2, j3⟩ := poC_open O0.2.2
      clear O0
      by_cases hy : y < 0
      · rw [if_pos (.inl hy)] at ER
        go_wp2_with fail
        refine (c0.out _).mono ?_
        rintro e w9 ⟨rfl, ew⟩
        rw [ew]
        clear ew w9
        by_cases t1 : 0 < y0
        · go_wp2_with fail
          refine (c0.out _).mono ?_
          rintro e w9 ⟨rfl, ew⟩
          rw [ew]
          clear ew w9
          go_wp2_with fail
          refine (c2.out _).mono ?_
          rintro e w9 ⟨rfl, ew⟩
          rw [ew]
          clear ew w9
          by_cases t2 : y2 < y0
          · have EQ : Hid (r = y2) := by unfold Hid; rw [ER.out]; omega
            clear ER
            go_wp2_with fail
            refine (c2.out _).mono ?_
            rintro e w9 ⟨rfl, ew⟩
            rw [ew]
            clear ew w9
            go_wp2_with fail
            go_ret
            exact ⟨by rw [EQ.out]; try rfl, C4.out.1⟩
          · have EQ : Hid (r = y0) := by unfold Hid; rw [ER.out]; omega
            clear ER
            go_wp2_with fail
            go_ret
            exact ⟨by rw [EQ.out]; try rfl, C4.out.1⟩
        · go_wp2_with fail
          refine (c2.out _).mono ?_
          rintro e w9 ⟨rfl, ew⟩
          rw [ew]
          clear ew w9
          by_cases t2 : y2 < 0
          · exact absurd t2 (by omega)
          · have EQ : Hid (r = 0) := by unfold Hid; rw [ER.out]; omega
            clear ER
            go_wp2_with fail
            go_ret
            exact ⟨by rw [EQ.out]; try rfl, C4.out.1⟩
      go_wp2_with fail
      refine (cDh.out _ C4.out.1).mono ?_
      rintro e w5 ⟨rfl, bw5⟩
      have O := hide' (ePo_below C4.out bw5)
      clear bw5 C4 i0 i1 i2 i3 i4 i5 i6 i7 i8 j0 j1 j2 j3
      by_cases hy2 : dt < y
      · rw [if_pos (.inr hy2)] at ER
        have O0 := O.out
        obtain ⟨-, i0, i1, i2, i3, i4, i5, i6, i7, i8⟩ := enC_open O0.2.1
        obtain ⟨-, j0, j1, j2, j3⟩ := poC_open O0.2.2
        clear O0
        go_wp2_with fail
        refine (c0.out _).mono ?_
        rintro e w9 ⟨rfl, ew⟩
        rw [ew]
        clear ew w9
        by_cases t1 : 0 < y0
        · go_wp2_with fail
          refine (c0.out _).mono ?_
          rintro e w9 ⟨rfl, ew⟩
          rw [ew]
          clear ew w9
          go_wp2_with fail
          refine (c2.out _).mono ?_
          rintro e w9 ⟨rfl, ew⟩
          rw [ew]
          clear ew w9
          by_cases t2 : y2 < y0
          · have EQ : Hid (r = y2) := by unfold Hid; rw [ER.out]; omega
            clear ER
            go_wp2_with fail
            refine (c2.out _).mono ?_
            rintro e w9 ⟨rfl, ew⟩
            rw [ew]
            clear ew w9
            go_wp2_with fail
            go_ret
            exact ⟨by rw [EQ.out]; try rfl, O.out.1⟩
          · have EQ : Hid (r = y0) := by unfold Hid; rw [ER.out]; omega
            clear ER
            go_wp2_with fail
            go_ret
            exact ⟨by rw [EQ.out]; try rfl, O.out.1⟩
        · go_wp2_with fail
          refine (c2.out _).mono ?_
          rintro e w9 ⟨rfl, ew⟩
          rw [ew]
          clear ew w9
          by_cases t2 : y2 < 0
          · exact absurd t2 (by omega)
          · have EQ : Hid (r = 0) := by unfold Hid; rw [ER.out]; omega
            clear ER
            go_wp2_with fail
            go_ret
            exact ⟨by rw [EQ.out]; try rfl, O.out.1⟩
      rw [if_neg (by omega)] at ER
      obtain ⟨m0, m1⟩ := P1.out (by omega) (by omega)
      have t1 : ((dt - y) * y1).tdiv 100 = (dt - y) * y1 / 100 := Int.tdiv_eq_ediv_of_nonneg m0
      obtain ⟨vv, eV⟩ : ∃ vv, vv = (dt - y) * y1 / 100 := ⟨_, rfl⟩
      have vv0 : 0 ≤ vv := by omega
      have vv1 : vv ≤ 25340230079900 := by omega
      rw [← eV] at ER t1
      obtain ⟨mq, eM⟩ : ∃ mq, mq = (dt - y) * y1 := ⟨_, rfl⟩
      rw [← eM] at t1 m0 m1
      have qw1 : IntKind.i64.wrap (dt - y) = dt - y := by rw [IntKind.wrap_i64]; omega
      have qw2 : IntKind.i64.wrap ((dt - y) * y1) = mq := by rw [← eM, IntKind.wrap_i64]; omega
      have qw3 : IntKind.i64.wrap vv = vv := by rw [IntKind.wrap_i64]; omega
      have t2 : mq / 100 = vv := by rw [eV, eM]
      clear eV eM P1
      obtain ⟨ce0, ce1, ce2, ce3, ce4, ce5, ce6, ce7, ce8, ce9⟩ := ePo_ten HQ.out O.out
      have hqw : q < w5.heap.size := by have := O.out.2.1.2; rw [HQ.out]; exact this
      go_wp2_with fail
      rw [← HQ.out]
      go_region_held3 (fun w' => w'.cell? ⟨q, 0, none⟩ = some (.string K) ∧ w'.cell? ⟨q, 1, none⟩ = some (.string V) ∧ w'.cell? ⟨q, 2, none⟩ = some (.int .i64 s) ∧ w'.cell? ⟨q, 3, none⟩ = some (.string R) ∧ w'.cell? ⟨q, 4, none⟩ = some (.int .i64 k) ∧ w'.cell? ⟨q, 5, none⟩ = some (.slice ao n ca) ∧ w'.cell? ⟨q, 6, none⟩ = some (.slice ba m bc) ∧ w'.cell? ⟨q, 7, none⟩ = some (.int .i64 a) ∧ w'.cell? ⟨q, 8, none⟩ = some (.int .i64 g) ∧ w'.cell? ⟨q + 1, 1, none⟩ = some (.int .i64 p1)) (go_keep)
        (first
          | (go_at_call 28; refine (kD.out _ ?_).mono ?_; (first | exact O.out | exact ePo_drew O.out); rintro e w3 ⟨rfl, O, ce0, ce1, ce2, ce3, ce4, ce5, ce6, ce7, ce8, ce9⟩)
          | (go_at_call 26; refine (kC.out _ ?_).mono ?_; (first | exact O.out | exact ePo_drew O.out); rintro e w3 ⟨rfl, O, ce0, ce1, ce2, ce3, ce4, ce5, ce6, ce7, ce8, ce9⟩))
      all_goals
        have O0 := O.out
        obtain ⟨-, i0, i1, i2, i3, i4, i5, i6, i7, i8⟩ := enC_open O0.2.1
        obtain ⟨-, j0, j1, j2, j3⟩ := poC_open O0.2.2
        clear O0
        rw [← HQ.out] at j0 j1 j2 j3
        clear t1 t2 qw1 qw2 qw3 m0 m1 hqw ce0 ce1 ce2 ce3 ce4 ce5 ce6 ce7 ce8 ce9 kD kC cDh
        go_wp2_with fail
        refine (c0.out _).mono ?_
        rintro e w9 ⟨rfl, ew⟩
        rw [ew]
        clear ew w9
        by_cases t1 : vv < y0
        · go_wp2_with fail
          refine (c0.out _).mono ?_
          rintro e w9 ⟨rfl, ew⟩
          rw [ew]
          clear ew w9
          go_wp2_with fail
          refine (c2.out _).mono ?_
          rintro e w9 ⟨rfl, ew⟩
          rw [ew]
          clear ew w9
          by_cases t2 : y2 < y0
          · have EQ : Hid (r = y2) := by unfold Hid; rw [ER.out]; omega
            clear ER
            go_wp2_with fail
            refine (c2.out _).mono ?_
            rintro e w9 ⟨rfl, ew⟩
            rw [ew]
            clear ew w9
            go_wp2_with fail
            go_ret
            exact ⟨by rw [EQ.out]; try rfl, O.out.1⟩
          · have EQ : Hid (r = y0) := by unfold Hid; rw [ER.out]; omega
            clear ER
            go_wp2_with fail
            go_ret
            exact ⟨by rw [EQ.out]; try rfl, O.out.1⟩
        · go_wp2_with fail
          refine (c2.out _).mono ?_
          rintro e w9 ⟨rfl, ew⟩
          rw [ew]
          clear ew w9
          by_cases t2 : y2 < vv
          · have EQ : Hid (r = y2) := by unfold Hid; rw [ER.out]; omega
            clear ER
            go_wp2_with fail
            refine (c2.out _).mono ?_
            rintro e w9 ⟨rfl, ew⟩
            rw [ew]
            clear ew w9
            go_wp2_with fail
            go_ret
            exact ⟨by rw [EQ.out]; try rfl, O.out.1⟩
          · have EQ : Hid (r = vv) := by unfold Hid; rw [ER.out]; omega
            clear ER
            go_wp2_with fail
            go_ret
            exact ⟨by rw [EQ.out]; try rfl, O.out.1⟩
end Go.Proofs.YtlhhcpbfjjhbfaaGreatDoor
