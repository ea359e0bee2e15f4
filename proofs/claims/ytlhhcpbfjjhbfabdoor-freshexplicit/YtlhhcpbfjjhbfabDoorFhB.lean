/- The contracts of fresh.untilExpiry, guessed, Lifetime and Age. -/
import Derived.Test.YtlhhcpbfjjhbfabDoorBs
import Derived.Test.YtlhhcpbfjjhbfabDoorKnG
import Derived.Deep.RegionHeld3
import Derived.Deep.QuietTactic
namespace Go.Proofs.YtlhhcpbfjjhbfabDoor
open Go.RowKit
/-- the cells of an entry that lies in a block -/
def EnC (b : Nat) (W : World) (K V R : ByteArray) (s k a g : Int) (ao ba : Option Addr) (n m ca bc : Nat) : Prop := Blk b W [.string K, .string V, .int .i64 s, .string R, .int .i64 k, .slice ao n ca, .slice ba m bc, .int .i64 a, .int .i64 g]
theorem enC_lit (w : World) (K V R : ByteArray) (s k a g : Int) (ao ba : Option Addr) (n m ca bc : Nat) : EnC w.heap.size (w.alloc (.cells #[.string K, .string V, .int .i64 s, .string R, .int .i64 k, .slice ao n ca, .slice ba m bc, .int .i64 a, .int .i64 g] 39)) K V R s k a g ao ba n m ca bc := cells_lit w #[.string K, .string V, .int .i64 s, .string R, .int .i64 k, .slice ao n ca, .slice ba m bc, .int .i64 a, .int .i64 g] 39
theorem enC_below {b : Nat} {W W' : World} {K V R : ByteArray} {s k a g : Int} {ao ba : Option Addr} {n m ca bc : Nat} (h : EnC b W K V R s k a g ao ba n m ca bc) (hb : Below W.heap.size W W') : EnC b W' K V R s k a g ao ba n m ca bc := cells_below h hb
theorem enC_open {b : Nat} {W : World} {K V R : ByteArray} {s k a g : Int} {ao ba : Option Addr} {n m ca bc : Nat} (h : EnC b W K V R s k a g ao ba n m ca bc) : b < W.heap.size ∧ W.cell? ⟨b, 0, none⟩ = some (.string K) ∧ W.cell? ⟨b, 1, none⟩ = some (.string V) ∧ W.cell? ⟨b, 2, none⟩ = some (.int .i64 s) ∧ W.cell? ⟨b, 3, none⟩ = some (.string R) ∧ W.cell? ⟨b, 4, none⟩ = some (.int .i64 k) ∧ W.cell? ⟨b, 5, none⟩ = some (.slice ao n ca) ∧ W.cell? ⟨b, 6, none⟩ = some (.slice ba m bc) ∧ W.cell? ⟨b, 7, none⟩ = some (.int .i64 a) ∧ W.cell? ⟨b, 8, none⟩ = some (.int .i64 g) := by
  have h2 := (cells_nine h).1
  exact ⟨h.2, h2.1, h2.2.1, h2.2.2.1, h2.2.2.2.1, h2.2.2.2.2.1, h2.2.2.2.2.2.1, h2.2.2.2.2.2.2.1, h2.2.2.2.2.2.2.2.1, h2.2.2.2.2.2.2.2.2⟩
theorem min_ifF (x y : Int) : (if y < x then y else x) = min x y := by
  by_cases h : y < x
  · rw [if_pos h]; omega
  · rw [if_neg h]; omega
set_option maxHeartbeats 1000000 in
theorem untilFC (K V R : ByteArray) (s k a g : Int) (ao ba : Option Addr) (n m ca bc : Nat) (fs : FL) (d x : Int) (w : World) (hv : HoldsF w (.slice ao n ca) fs) (hb : bulkF fs ≤ 1048576) (E : EvD w) (D : DtP (joinOf (valsOf fs dab)) d) (X : DtP (joinOf (valsOf fs exb)) x) :
    Calls Tryd.prog 30 #[.agg #[.string K, .string V, .int .i64 s, .string R, .int .i64 k, .slice ao n ca, .slice ba m bc, .int .i64 a, .int .i64 g]] w fun e w' => e = .returned (.int .i64 (untN d x g)) ∧ Below w.heap.size w w' := by
  have B0 := below_alloc' w (.cells #[.string K, .string V, .int .i64 s, .string R, .int .i64 k, .slice ao n ca, .slice ba m bc, .int .i64 a, .int .i64 g] 39)
  have C0 := hide' (enC_lit w K V R s k a g ao ba n m ca bc)
  have cS := hide' (secondFC s k R (.slice ao n ca) fs exb x _ (holdsF_mono hv B0) hb (by decide) (evD_below E B0) X)
  have cD := hide' (fun W (h : Below w.heap.size w W) => dateFC K V R s k a g ao ba n m ca bc fs d W (holdsF_mono hv h) hb (evD_below E h) D)
  have dI := dtN_in d g D.2.1
  have xI := X.2.1
  replace B0 := hide' B0
  clear hv E D X
  obtain ⟨r, er⟩ : ∃ r, r = untN d x g := ⟨_, rfl⟩
  rw [← er]
  generalize hdt : dtN d g = dt at cD dI
  obtain ⟨dI0, dI1⟩ := dI
  by_cases hd : 0 ≤ x
  · have e1 : decide (0 ≤ x) = true := by simp; omega
    have e2 : max x 0 = x := by omega
    have e3 := hide' (show r = min (sN dt x) 2147483648 by rw [er]; unfold untN; rw [if_neg (by omega), hdt])
    rw [e1, e2] at cS
    have cN' := hide' (fun W => sinceFC dt x W ⟨dI0, dI1⟩ ⟨hd, xI⟩)
    generalize sN dt x = sx at cN' e3
    clear e1 e2 er hdt hd xI dI0 dI1
    go_enter Tryd.func30, Tryd.ntmps30
    go_wp2_with fail
    refine cS.out.mono ?_
    rintro e w1 ⟨rfl, b1⟩
    have B1 := hide' (bt' B0.out b1)
    obtain ⟨-, i0, i1, i2, i3, i4, i5, i6, i7, i8⟩ := enC_open (enC_below C0.out b1)
    clear b1 cS B0 C0
    go_wp2_with fail
    refine (cD.out _ B1.out).mono ?_
    rintro e w2 ⟨rfl, b2⟩
    have B2 := hide' (bt' B1.out b2)
    clear b2 cD B1 i0 i1 i2 i3 i4 i5 i6 i7 i8
    go_wp2_with fail
    refine (cN'.out _).mono ?_
    rintro e w9 ⟨rfl, ew⟩
    rw [ew]
    clear ew w9
    go_wp2_with fail
    go_ret
    exact ⟨by rw [e3.out]; first | rfl | (congr 2; omega), B2.out⟩
  · have e1 : decide (0 ≤ x) = false := by simp; omega
    have e3 := hide' (show r = 0 by rw [er]; unfold untN; rw [if_pos (by omega)])
    rw [e1] at cS
    generalize max x 0 = md at cS
    clear e1 hd er hdt xI dI0 dI1 cD
    go_enter Tryd.func30, Tryd.ntmps30
    go_wp2_with fail
    refine cS.out.mono ?_
    rintro e w1 ⟨rfl, b1⟩
    have B1 := hide' (bt' B0.out b1)
    clear b1 cS B0 C0
    go_wp2_with fail
    go_ret
    exact ⟨by rw [e3.out]; try rfl, B1.out⟩
theorem pol_lit (w : World) (v0 v1 v2 v3 : Value) : let W := (w.alloc (.cells #[v0, v1, v2, v3] 35)); W.cell? ⟨w.heap.size, 0, none⟩ = some v0 ∧ W.cell? ⟨w.heap.size, 1, none⟩ = some v1 ∧ W.cell? ⟨w.heap.size, 2, none⟩ = some v2 ∧ W.cell? ⟨w.heap.size, 3, none⟩ = some v3 := ⟨by simp, by simp, by simp, by simp⟩
/-- a policy in a block -/
def PoC (b : Nat) (W : World) (p0 p1 p2 p3 : Int) : Prop := Blk b W [.int .i64 p0, .int .i64 p1, .int .i64 p2, .int .i64 p3]
theorem poC_open {b : Nat} {W : World} {p0 p1 p2 p3 : Int} (h : PoC b W p0 p1 p2 p3) : b < W.heap.size ∧ W.cell? ⟨b, 0, none⟩ = some (.int .i64 p0) ∧ W.cell? ⟨b, 1, none⟩ = some (.int .i64 p1) ∧ W.cell? ⟨b, 2, none⟩ = some (.int .i64 p2) ∧ W.cell? ⟨b, 3, none⟩ = some (.int .i64 p3) :=
  ⟨h.2, (h.1 0 (by simp)).1, (h.1 1 (by simp)).1, (h.1 2 (by simp)).1, (h.1 3 (by simp)).1⟩
/-- an entry in a block and a policy in the next, above w -/
def EPo (w W : World) (K V R : ByteArray) (s k a g : Int) (ao ba : Option Addr) (n m ca bc : Nat) (p0 p1 p2 p3 : Int) : Prop := Below w.heap.size w W ∧ EnC w.heap.size W K V R s k a g ao ba n m ca bc ∧ PoC (w.heap.size + 1) W p0 p1 p2 p3
theorem ePo_lit (w : World) (K V R : ByteArray) (s k a g : Int) (ao ba : Option Addr) (n m ca bc : Nat) (p0 p1 p2 p3 : Int) : EPo w ((w.alloc (.cells #[.string K, .string V, .int .i64 s, .string R, .int .i64 k, .slice ao n ca, .slice ba m bc, .int .i64 a, .int .i64 g] 39)).alloc (.cells #[.int .i64 p0, .int .i64 p1, .int .i64 p2, .int .i64 p3] 35)) K V R s k a g ao ba n m ca bc p0 p1 p2 p3 := by
  have b1 := below_alloc' w (.cells #[.string K, .string V, .int .i64 s, .string R, .int .i64 k, .slice ao n ca, .slice ba m bc, .int .i64 a, .int .i64 g] 39)
  have b2 := below_alloc' (w.alloc (.cells #[.string K, .string V, .int .i64 s, .string R, .int .i64 k, .slice ao n ca, .slice ba m bc, .int .i64 a, .int .i64 g] 39)) (.cells #[.int .i64 p0, .int .i64 p1, .int .i64 p2, .int .i64 p3] 35)
  have z : (w.alloc (.cells #[.string K, .string V, .int .i64 s, .string R, .int .i64 k, .slice ao n ca, .slice ba m bc, .int .i64 a, .int .i64 g] 39)).heap.size = w.heap.size + 1 := by simp
  have c := cells_lit (w.alloc (.cells #[.string K, .string V, .int .i64 s, .string R, .int .i64 k, .slice ao n ca, .slice ba m bc, .int .i64 a, .int .i64 g] 39)) #[.int .i64 p0, .int .i64 p1, .int .i64 p2, .int .i64 p3] 35
  rw [z] at c
  exact ⟨bt' b1 b2, enC_below (enC_lit w K V R s k a g ao ba n m ca bc) b2, c⟩
theorem ePo_below {w W W' : World} {K V R : ByteArray} {s k a g : Int} {ao ba : Option Addr} {n m ca bc : Nat} {p0 p1 p2 p3 : Int} (h : EPo w W K V R s k a g ao ba n m ca bc p0 p1 p2 p3) (hb : Below W.heap.size W W') : EPo w W' K V R s k a g ao ba n m ca bc p0 p1 p2 p3 := ⟨bt' h.1 hb, enC_below h.2.1 hb, cells_below h.2.2 hb⟩
set_option maxHeartbeats 4000000 in
theorem guessFC (K V R : ByteArray) (s k a g : Int) (ao ba : Option Addr) (n m ca bc : Nat) (p0 p1 p2 p3 : Int) (fs : FL) (d x : Int) (w : World) (hv : HoldsF w (.slice ao n ca) fs) (hb : bulkF fs ≤ 1048576) (E : EvD w) (D : DtP (joinOf (valsOf fs dab)) d) (X : DtP (joinOf (valsOf fs lmb)) x) :
    Calls Tryd.prog 33 #[.agg #[.string K, .string V, .int .i64 s, .string R, .int .i64 k, .slice ao n ca, .slice ba m bc, .int .i64 a, .int .i64 g], .agg #[.int .i64 p0, .int .i64 p1, .int .i64 p2, .int .i64 p3]] w fun e w' => e = .returned (.int .i64 (gueN d x g p0 p2 p1)) ∧ Below w.heap.size w w' := by
  have C0 := hide' (ePo_lit w K V R s k a g ao ba n m ca bc p0 p1 p2 p3)
  have cS := hide' (fun W (h : Below w.heap.size w W) => secondFC s k R (.slice ao n ca) fs lmb x W (holdsF_mono hv h) hb (by decide) (evD_below E h) X)
  have cD := hide' (fun W (h : Below w.heap.size w W) => dateFC K V R s k a g ao ba n m ca bc fs d W (holdsF_mono hv h) hb (evD_below E h) D)
  have cC := hide' (fun x y W => cutFC x y W)
  have dI := dtN_in d g D.2.1
  have xI := X.2.1
  clear hv E D X
  obtain ⟨r, er⟩ : ∃ r, r = gueN d x g p0 p2 p1 := ⟨_, rfl⟩
  rw [← er]
  unfold gueN at er
  have i1 := cN_in p0 (m := 2147483648) (by omega)
  have i2 := cN_in p2 (m := 2147483648) (by omega)
  have i3 := cN_in p1 (m := 100) (by omega)
  have c1 := hide' (cutFC p0 2147483648)
  have c2 := hide' (cutFC p2 2147483648)
  have c3 := hide' (cutFC p1 100)
  generalize dtN d g = dt at cD dI er
  generalize cN p0 2147483648 = y0 at c1 i1 er
  generalize cN p2 2147483648 = y2 at c2 i2 er
  generalize cN p1 100 = y1 at c3 i3 er
  clear cC
  obtain ⟨dI0, dI1⟩ := dI
  obtain ⟨j0, j1⟩ := i1
  obtain ⟨j2, j3⟩ := i2
  obtain ⟨j4, j5⟩ := i3
  have ER := hide' er
  clear er
  have P1 := hide' (fun (h : 0 ≤ x) (h2 : x ≤ dt) => show 0 ≤ (dt - x) * y1 ∧ (dt - x) * y1 ≤ 25340230079900 from ⟨Int.mul_nonneg (by omega) j4, by
    have h3 : (dt - x) * y1 ≤ (dt - x) * 100 := Int.mul_le_mul_of_nonneg_left j5 (by omega)
    omega⟩)
  go_enter Tryd.func33, Tryd.ntmps33
  go_wp2_with fail
  go_quiet (first | (go_at_call_of 32 (p0); exact Calls.quiet_of_same (c1.out _)) | (go_at_call_of 32 (p2); exact Calls.quiet_of_same (c2.out _)))
  have Cq := hide' (ePo_below C0.out (below_drewN _ nq))
  clear C0
  have O0 := Cq.out
  obtain ⟨-, i0, i1, i2, i3, i4, i5, i6, i7, i8⟩ := enC_open O0.2.1
  clear O0
  go_wp2_with fail
  refine (cD.out _ Cq.out.1).mono ?_
  rintro e w1 ⟨rfl, b1⟩
  have C1 := hide' (ePo_below Cq.out b1)
  clear b1 cD Cq i0 i1 i2 i3 i4 i5 i6 i7 i8
  have O1 := C1.out
  obtain ⟨-, i0, i1, i2, i3, i4, i5, i6, i7, i8⟩ := enC_open O1.2.1
  clear O1
  go_wp2_with fail
  refine (cS.out _ C1.out.1).mono ?_
  rintro e w2 ⟨rfl, b2⟩
  have C2 := hide' (ePo_below C1.out b2)
  clear b2 cS C1 i0 i1 i2 i3 i4 i5 i6 i7 i8
  by_cases hx : x < 0
  · have e1 : decide (0 ≤ x) = false := by simp; omega
    have EQ : Hid (r = min y0 y2) := by unfold Hid; rw [ER.out, if_pos (.inl hx)]
    rw [e1]
    generalize max x 0 = mx
    clear e1 hx ER P1
    go_wp2_with fail
    go_ret
    exact ⟨by rw [EQ.out]; first | rfl | (congr 2; omega), C2.out.1⟩
  have e1 : decide (0 ≤ x) = true := by simp; omega
  have e2 : max x 0 = x := by omega
  rw [e1, e2]
  clear e1 e2
  by_cases hx2 : dt < x
  · have EQ : Hid (r = min y0 y2) := by unfold Hid; rw [ER.out, if_pos (.inr hx2)]
    clear hx ER P1
    go_wp2_with fail
    go_ret
    exact ⟨by rw [EQ.out]; first | rfl | (congr 2; omega), C2.out.1⟩
  have EQ : Hid (r = min (max ((dt - x) * y1 / 100) y0) y2) := by unfold Hid; rw [ER.out, if_neg (by omega)]
  obtain ⟨m0, m1⟩ := P1.out (by omega) (by omega)
  have t1 : ((dt - x) * y1).tdiv 100 = (dt - x) * y1 / 100 := Int.tdiv_eq_ediv_of_nonneg m0
  have O2 := C2.out
  obtain ⟨-, j0, j1, j2, j3⟩ := poC_open O2.2.2
  clear O2 ER P1
  go_wp2_with fail
  refine (c3.out _).mono ?_
  rintro e w9 ⟨rfl, ew⟩
  rw [ew]
  clear ew w9
  go_wp2_with fail
  go_ret
  exact ⟨by rw [EQ.out]; first | rfl | (congr 2; omega), C2.out.1⟩
/-- what a Control tells -/
structure Told (fs : FL) (b0 b1 b2 b3 b4 b5 : Bool) (n6 n7 n8 n9 : Int) : Prop where
  eq : parOf fs = .agg #[.bool b0, .bool b1, .bool b2, .bool b3, .bool b4, .bool b5, .int .i64 n6, .int .i64 n7, .int .i64 n8, .int .i64 n9]
  i6 : -1 ≤ n6 ∧ n6 ≤ 2147483648
  i7 : -1 ≤ n7 ∧ n7 ≤ 2147483648
  i8 : -1 ≤ n8 ∧ n8 ≤ 2147483648
  i9 : -1 ≤ n9 ∧ n9 ≤ 2147483648
theorem told_ex (fs : FL) : ∃ b0 b1 b2 b3 b4 b5 n6 n7 n8 n9, Told fs b0 b1 b2 b3 b4 b5 n6 n7 n8 n9 :=
  ⟨_, _, _, _, _, _, _, _, _, _, ⟨rfl, numO_in _, numO_in _, numO_in _, stlO_in _⟩⟩
theorem toldFC (v : Value) (fs : FL) (b0 b1 b2 b3 b4 b5 : Bool) (n6 n7 n8 n9 : Int) (T : Told fs b0 b1 b2 b3 b4 b5 n6 n7 n8 n9) (w : World) (hv : HoldsF w v fs) (hb : bulkF fs ≤ 1048576) :
    Calls Tryd.prog 8 #[v] w fun e w' => e = .returned (.agg #[.bool b0, .bool b1, .bool b2, .bool b3, .bool b4, .bool b5, .int .i64 n6, .int .i64 n7, .int .i64 n8, .int .i64 n9]) ∧ Below w.heap.size w w' := by
  have hl := bulkF_len fs
  have h := ctlC v fs w hv (fun f hf => by have := bulkF_mem fs f hf; omega) (by omega) (by have := bulk_vals fs ccb; omega) (fun _ => hb)
  rw [T.eq] at h
  exact h
/-- a Control in a block of its own, above w -/
def CtB (w : World) (b : Nat) (W : World) (b0 b1 b2 b3 b4 b5 : Bool) (n6 n7 n8 n9 : Int) : Prop := Blk b W [.bool b0, .bool b1, .bool b2, .bool b3, .bool b4, .bool b5, .int .i64 n6, .int .i64 n7, .int .i64 n8, .int .i64 n9] ∧ w.heap.size ≤ b
theorem ct_below {w : World} {b : Nat} {W W' : World} {b0 b1 b2 b3 b4 b5 : Bool} {n6 n7 n8 n9 : Int} (h : CtB w b W b0 b1 b2 b3 b4 b5 n6 n7 n8 n9) (hb : Below W.heap.size W W') : CtB w b W' b0 b1 b2 b3 b4 b5 n6 n7 n8 n9 := ⟨cells_below h.1 hb, h.2⟩
set_option maxHeartbeats 4000000 in
theorem lifeFC (K V R : ByteArray) (s k a g : Int) (ao ba : Option Addr) (n m ca bc : Nat) (p0 p1 p2 p3 : Int) (fs : FL) (b0 b1 b2 b3 b4 b5 : Bool) (n6 n7 n8 n9 : Int) (d x y : Int) (w : World) (hv : HoldsF w (.slice ao n ca) fs) (hb : bulkF fs ≤ 1048576) (E : EvD w) (T : Told fs b0 b1 b2 b3 b4 b5 n6 n7 n8 n9) (D : DtP (joinOf (valsOf fs dab)) d) (X : DtP (joinOf (valsOf fs exb)) x) (Y : DtP (joinOf (valsOf fs lmb)) y) :
    Calls Tryd.prog 13 #[.agg #[.string K, .string V, .int .i64 s, .string R, .int .i64 k, .slice ao n ca, .slice ba m bc, .int .i64 a, .int .i64 g], .agg #[.int .i64 p0, .int .i64 p1, .int .i64 p2, .int .i64 p3]] w fun e w' => e = .returned (.int .i64 (lifeN n7 n6 (hasN fs exb) d x y s g p0 p2 p3 p1)) ∧ Below w.heap.size w w' := by
  have C0 := hide' (ePo_lit w K V R s k a g ao ba n m ca bc p0 p1 p2 p3)
  have cT := hide' (fun W (h : Below w.heap.size w W) => toldFC (.slice ao n ca) fs b0 b1 b2 b3 b4 b5 n6 n7 n8 n9 T W (holdsF_mono hv h) hb)
  have cH := hide' (fun W (h : Below w.heap.size w W) => hasFC (.slice ao n ca) fs exb W (holdsF_mono hv h) hb (by decide))
  have cU := hide' (fun W (h : Below w.heap.size w W) => untilFC K V R s k a g ao ba n m ca bc fs d x W (holdsF_mono hv h) hb (evD_below E h) D X)
  have cG := hide' (fun W (h : Below w.heap.size w W) => guessFC K V R s k a g ao ba n m ca bc p0 p1 p2 p3 fs d y W (holdsF_mono hv h) hb (evD_below E h) D Y)
  have cN1 := hide' (fun W => negFC s W)
  have cC := hide' (fun W => cutFC p3 2147483648 W)
  clear hv E D X Y T
  obtain ⟨r, er⟩ : ∃ r, r = lifeN n7 n6 (hasN fs exb) d x y s g p0 p2 p3 p1 := ⟨_, rfl⟩
  rw [← er]
  unfold lifeN at er
  have ER := hide' er
  clear er
  generalize hasN fs exb = hE at cH ER
  generalize untN d x g = ru at cU ER
  generalize gueN d y g p0 p2 p1 = rg at cG ER
  generalize cN p3 2147483648 = rc at cC ER
  generalize negS s = ng at cN1 ER
  go_enter Tryd.func13, Tryd.ntmps13
  go_wp2_with fail
  refine (cT.out _ C0.out.1).mono ?_
  rintro e w1 ⟨rfl, bw1⟩
  have C1 := hide' (ePo_below (ePo_below C0.out bw1) (below_alloc' w1 (.cells #[.bool b0, .bool b1, .bool b2, .bool b3, .bool b4, .bool b5, .int .i64 n6, .int .i64 n7, .int .i64 n8, .int .i64 n9] 31)))
  clear bw1 cT C0
  have O1 := C1.out
  obtain ⟨-, i0, i1, i2, i3, i4, i5, i6, i7, i8⟩ := enC_open O1.2.1
  clear O1
  by_cases h7 : n7 = -1
  case neg =>
    have EQ : Hid (r = n7) := by unfold Hid; rw [ER.out, if_pos h7]
    clear ER
    go_wp2_with fail
    go_ret
    exact ⟨by rw [EQ.out]; try rfl, C1.out.1⟩
  subst h7
  by_cases h6 : n6 = -1
  case neg =>
    have EQ : Hid (r = n6) := by unfold Hid; rw [ER.out, if_neg (by simp), if_pos h6]
    clear ER
    go_wp2_with fail
    go_ret
    exact ⟨by rw [EQ.out]; try rfl, C1.out.1⟩
  subst h6
  go_wp2_with fail
  refine (cH.out _ C1.out.1).mono ?_
  rintro e w2 ⟨rfl, bw2⟩
  have C2 := hide' (ePo_below C1.out bw2)
  clear bw2 cH C1 i0 i1 i2 i3 i4 i5 i6 i7 i8
  have O2 := C2.out
  obtain ⟨-, i0, i1, i2, i3, i4, i5, i6, i7, i8⟩ := enC_open O2.2.1
  obtain ⟨-, j0, j1, j2, j3⟩ := poC_open O2.2.2
  clear O2
  cases hE with
  | true =>
    have EQ : Hid (r = ru) := by unfold Hid; rw [ER.out, if_neg (by simp), if_neg (by simp), if_pos rfl]
    clear ER cG cC cN1
    go_wp2_with fail
    refine (cU.out _ C2.out.1).mono ?_
    rintro e w3 ⟨rfl, bw3⟩
    have B3 := hide' (bt' C2.out.1 bw3)
    clear bw3 cU C2 i0 i1 i2 i3 i4 i5 i6 i7 i8 j0 j1 j2 j3
    go_wp2_with fail
    go_ret
    exact ⟨by rw [EQ.out]; try rfl, B3.out⟩
  | false =>
    clear cU
    go_wp2_with fail
    refine (cN1.out _).mono ?_
    rintro e w9 ⟨rfl, ew⟩
    rw [ew]
    clear ew w9 cN1
    cases ng with
    | true =>
      have EQ : Hid (r = rc) := by unfold Hid; rw [ER.out, if_neg (by simp), if_neg (by simp), if_neg (by simp), if_pos rfl]
      clear ER cG
      go_wp2_with fail
      refine (cC.out _).mono ?_
      rintro e w9 ⟨rfl, ew⟩
      rw [ew]
      clear ew w9 cC
      go_wp2_with fail
      go_ret
      exact ⟨by rw [EQ.out]; try rfl, C2.out.1⟩
    | false =>
      have EQ : Hid (r = rg) := by unfold Hid; rw [ER.out, if_neg (by simp), if_neg (by simp), if_neg (by simp), if_neg (by simp)]
      clear ER cC
      go_wp2_with fail
      refine (cG.out _ C2.out.1).mono ?_
      rintro e w3 ⟨rfl, bw3⟩
      have B3 := hide' (bt' C2.out.1 bw3)
      clear bw3 cG C2 i0 i1 i2 i3 i4 i5 i6 i7 i8 j0 j1 j2 j3
      go_wp2_with fail
      go_ret
      exact ⟨by rw [EQ.out]; try rfl, B3.out⟩
end Go.Proofs.YtlhhcpbfjjhbfabDoor
