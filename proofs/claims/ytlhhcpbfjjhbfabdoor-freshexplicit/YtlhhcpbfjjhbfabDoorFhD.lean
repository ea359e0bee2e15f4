/- The contracts of fresh.Age and fresh.Judge. -/
import Derived.Test.YtlhhcpbfjjhbfabDoorFhB
namespace Go.Proofs.YtlhhcpbfjjhbfabDoor
open Go.RowKit
/-- an entry in the block q, above w -/
def AgO (w : World) (q : Nat) (W : World) (K V R : ByteArray) (s k a g : Int) (ao ba : Option Addr) (n m ca bc : Nat) : Prop := Below w.heap.size w W ∧ EnC q W K V R s k a g ao ba n m ca bc
theorem agO_below {w : World} {q : Nat} {W W' : World} {K V R : ByteArray} {s k a g : Int} {ao ba : Option Addr} {n m ca bc : Nat} (h : AgO w q W K V R s k a g ao ba n m ca bc) (hb : Below W.heap.size W W') : AgO w q W' K V R s k a g ao ba n m ca bc := ⟨bt' h.1 hb, enC_below h.2 hb⟩
theorem agO_drew {w : World} {q : Nat} {W : World} {K V R : ByteArray} {s k a g : Int} {ao ba : Option Addr} {n m ca bc : Nat} (h : AgO w q W K V R s k a g ao ba n m ca bc) : AgO w q W.drew K V R s k a g ao ba n m ca bc := agO_below h (Below.refl _ _).drew
theorem agO_five {w : World} {q : Nat} {W : World} {K V R : ByteArray} {s k a g : Int} {ao ba : Option Addr} {n m ca bc : Nat} (h : AgO w q W K V R s k a g ao ba n m ca bc) : W.cell? ⟨q, 2, none⟩ = some (.int .i64 s) ∧ W.cell? ⟨q, 3, none⟩ = some (.string R) ∧ W.cell? ⟨q, 4, none⟩ = some (.int .i64 k) ∧ W.cell? ⟨q, 5, none⟩ = some (.slice ao n ca) ∧ W.cell? ⟨q, 7, none⟩ = some (.int .i64 a) := by
  have O := enC_open h.2
  exact ⟨O.2.2.2.1, O.2.2.2.2.1, O.2.2.2.2.2.1, O.2.2.2.2.2.2.1, O.2.2.2.2.2.2.2.2.1⟩
set_option maxHeartbeats 4000000 in
theorem ageFC (K V R : ByteArray) (s k a g : Int) (ao ba : Option Addr) (n m ca bc : Nat) (now : Int) (fs : FL) (d : Int) (w : World) (hv : HoldsF w (.slice ao n ca) fs) (hb : bulkF fs ≤ 1048576) (E : EvD w) (D : DtP (joinOf (valsOf fs dab)) d) :
    Calls Tryd.prog 27 #[.agg #[.string K, .string V, .int .i64 s, .string R, .int .i64 k, .slice ao n ca, .slice ba m bc, .int .i64 a, .int .i64 g], .int .i64 now] w fun e w' => e = .returned (.int .i64 (ageN d (secs (joinOf (valsOf fs agb))) a g now)) ∧ Below w.heap.size w w' := by
  have A0 : AgO w w.heap.size (w.alloc (.cells #[.string K, .string V, .int .i64 s, .string R, .int .i64 k, .slice ao n ca, .slice ba m bc, .int .i64 a, .int .i64 g] 39)) K V R s k a g ao ba n m ca bc := ⟨below_alloc' w _, enC_lit w K V R s k a g ao ba n m ca bc⟩
  have cD := hide' (fun W (h : AgO w w.heap.size W K V R s k a g ao ba n m ca bc) => dateFC K V R s k a g ao ba n m ca bc fs d W (holdsF_mono hv h.1) hb (evD_below E h.1) D)
  have cT := (fun W (h : AgO w w.heap.size W K V R s k a g ao ba n m ca bc) => ageToldFC s k R ao n ca fs W (holdsF_mono hv h.1) hb)
  have dI := dtN_in d g D.2.1
  have xi := secs_in (joinOf (valsOf fs agb))
  clear hv E D
  obtain ⟨r, er⟩ : ∃ r, r = ageN d (secs (joinOf (valsOf fs agb))) a g now := ⟨_, rfl⟩
  rw [← er]
  unfold ageN at er
  generalize secs (joinOf (valsOf fs agb)) = ag at cT xi er
  have i1 := cN_in g (m := 253402300799) (by omega)
  have i2 := cN_in a (m := 253402300799) (by omega)
  have i3 := cN_in now (m := 253402300799) (by omega)
  have c1 := hide' (cutTimeFC g)
  have c2 := (cutTimeFC a)
  have c3 := hide' (cutTimeFC now)
  have x1 : 0 ≤ max ag 0 ∧ max ag 0 ≤ 2147483648 := by omega
  clear xi
  generalize dtN d g = dt at cD dI er
  generalize cN g 253402300799 = gg at c1 i1 er
  generalize cN a 253402300799 = aa at c2 i2 er
  generalize cN now 253402300799 = nn at c3 i3 er
  generalize max ag 0 = at' at cT x1 er
  have s1 := hide' (fun W => sinceFC dt gg W dI i1)
  have s2 := (fun W => sinceFC aa gg W i2 i1)
  have s3 := hide' (fun W => sinceFC gg nn W i1 i3)
  have y1 : 0 ≤ sN dt gg ∧ sN dt gg ≤ 253402300799 := by unfold sN; omega
  have y2 : 0 ≤ sN aa gg ∧ sN aa gg ≤ 253402300799 := by unfold sN; omega
  have y3 : 0 ≤ sN gg nn ∧ sN gg nn ≤ 253402300799 := by unfold sN; omega
  generalize sN dt gg = z1 at s1 y1 er
  generalize sN aa gg = z2 at s2 y2 er
  generalize sN gg nn = z3 at s3 y3 er
  clear dI i1 i2 i3
  obtain ⟨x10, x11⟩ := x1
  obtain ⟨y10, y11⟩ := y1
  obtain ⟨y20, y21⟩ := y2
  obtain ⟨y30, y31⟩ := y3
  have ER := hide' er
  clear er
  obtain ⟨q, hq⟩ : ∃ q, q = w.heap.size := ⟨_, rfl⟩
  have HQ := hide' hq
  rw [← hq] at cD cT A0
  have kT : Hid (∀ W, AgO w q W K V R s k a g ao ba n m ca bc → Calls Tryd.prog 46 #[.agg #[.int .i64 s, .string R, .int .i64 k, .slice ao n ca]] W fun e w' => e = .returned (.int .i64 at') ∧ Hid (AgO w q w' K V R s k a g ao ba n m ca bc) ∧ w'.cell? ⟨q, 2, none⟩ = some (.int .i64 s) ∧ w'.cell? ⟨q, 3, none⟩ = some (.string R) ∧ w'.cell? ⟨q, 4, none⟩ = some (.int .i64 k) ∧ w'.cell? ⟨q, 5, none⟩ = some (.slice ao n ca) ∧ w'.cell? ⟨q, 7, none⟩ = some (.int .i64 a)) := fun W h => (cT W h).mono (fun e w' ⟨h1, h2⟩ => ⟨h1, agO_below h h2, agO_five (agO_below h h2)⟩)
  have kC : Hid (∀ W, AgO w q W K V R s k a g ao ba n m ca bc → Calls Tryd.prog 43 #[.int .i64 a] W fun e w' => e = .returned (.int .i64 aa) ∧ Hid (AgO w q w' K V R s k a g ao ba n m ca bc) ∧ w'.cell? ⟨q, 2, none⟩ = some (.int .i64 s) ∧ w'.cell? ⟨q, 3, none⟩ = some (.string R) ∧ w'.cell? ⟨q, 4, none⟩ = some (.int .i64 k) ∧ w'.cell? ⟨q, 5, none⟩ = some (.slice ao n ca) ∧ w'.cell? ⟨q, 7, none⟩ = some (.int .i64 a)) := fun W h => (c2 W).mono (fun e w' ⟨h1, h2⟩ => ⟨h1, by rw [h2]; exact h, by rw [h2]; exact agO_five h⟩)
  have kS : Hid (∀ W, AgO w q W K V R s k a g ao ba n m ca bc → Calls Tryd.prog 44 #[.int .i64 aa, .int .i64 gg] W fun e w' => e = .returned (.int .i64 z2) ∧ Hid (AgO w q w' K V R s k a g ao ba n m ca bc) ∧ w'.cell? ⟨q, 2, none⟩ = some (.int .i64 s) ∧ w'.cell? ⟨q, 3, none⟩ = some (.string R) ∧ w'.cell? ⟨q, 4, none⟩ = some (.int .i64 k) ∧ w'.cell? ⟨q, 5, none⟩ = some (.slice ao n ca) ∧ w'.cell? ⟨q, 7, none⟩ = some (.int .i64 a)) := fun W h => (s2 W).mono (fun e w' ⟨h1, h2⟩ => ⟨h1, by rw [h2]; exact h, by rw [h2]; exact agO_five h⟩)
  replace A0 := hide' A0
  clear cT c2 s2 hq
  go_enter Tryd.func27, Tryd.ntmps27
  go_wp2_with fail
  rw [← HQ.out]
  refine (c1.out _).mono ?_
  rintro e w9 ⟨rfl, ew⟩
  rw [ew]
  clear ew w9 c1
  have O0 := A0.out
  obtain ⟨-, i0, i1, i2, i3, i4, i5, i6, i7, i8⟩ := enC_open O0.2
  clear O0
  go_wp2_with fail
  refine (cD.out _ A0.out).mono ?_
  rintro e w1 ⟨rfl, b1⟩
  have O := hide' (agO_below A0.out b1)
  clear b1 A0 cD i0 i1 i2 i3 i4 i5 i6 i7 i8
  have O0 := O.out
  obtain ⟨hql, i0, i1, i2, i3, i4, i5, i6, i7, i8⟩ := enC_open O0.2
  clear O0
  go_wp2_with fail
  refine (s1.out _).mono ?_
  rintro e w9 ⟨rfl, ew⟩
  rw [ew]
  clear ew w9 s1
  go_wp2_with fail
  go_region_held3 (fun w' => w'.cell? ⟨q, 2, none⟩ = some (.int .i64 s) ∧ w'.cell? ⟨q, 3, none⟩ = some (.string R) ∧ w'.cell? ⟨q, 4, none⟩ = some (.int .i64 k) ∧ w'.cell? ⟨q, 5, none⟩ = some (.slice ao n ca) ∧ w'.cell? ⟨q, 7, none⟩ = some (.int .i64 a)) (go_keep)
    (first
      | (go_at_call 46; refine (kT.out _ ?_).mono ?_; (first | exact O.out | exact agO_drew O.out); rintro e w2 ⟨rfl, O, x2, x3, x4, x5, x7⟩)
      | (go_at_call 43; refine (kC.out _ ?_).mono ?_; (first | exact O.out | exact agO_drew O.out); rintro e w2 ⟨rfl, O, x2, x3, x4, x5, x7⟩)
      | (go_at_call 44; refine (kS.out _ ?_).mono ?_; (first | exact O.out | exact agO_drew O.out); rintro e w2 ⟨rfl, O, x2, x3, x4, x5, x7⟩))
  all_goals
    go_wp2_with fail
    refine (c3.out _).mono ?_
    rintro e w9 ⟨rfl, ew⟩
    rw [ew]
    clear ew w9
    go_wp2_with fail
    refine (s3.out _).mono ?_
    rintro e w9 ⟨rfl, ew⟩
    rw [ew]
    clear ew w9
    go_wp2_with fail
    go_ret
    exact ⟨by rw [ER.out]; first | rfl | (congr 2; omega), O.out.1⟩
/-- what lies behind Judge's boxes -/
def JdO (w : World) (z : Nat) (W : World) (K V R : ByteArray) (s k a g : Int) (ao ba : Option Addr) (n m ca bc : Nat) (p0 p1 p2 p3 : Int) (u0 u1 u2 u3 u4 u5 : Bool) (v6 v7 v8 v9 : Int) (tl : List Value) : Prop := Below w.heap.size w W ∧ Blk w.heap.size W [.bool u0, .bool u1, .bool u2, .bool u3, .bool u4, .bool u5, .int .i64 v6, .int .i64 v7, .int .i64 v8, .int .i64 v9] ∧ EnC (w.heap.size + 1) W K V R s k a g ao ba n m ca bc ∧ PoC (w.heap.size + 1 + 1) W p0 p1 p2 p3 ∧ Blk z W tl
theorem jdO_below {w : World} {z : Nat} {W W' : World} {K V R : ByteArray} {s k a g : Int} {ao ba : Option Addr} {n m ca bc : Nat} {p0 p1 p2 p3 : Int} {u0 u1 u2 u3 u4 u5 : Bool} {v6 v7 v8 v9 : Int} {tl : List Value} (h : JdO w z W K V R s k a g ao ba n m ca bc p0 p1 p2 p3 u0 u1 u2 u3 u4 u5 v6 v7 v8 v9 tl) (hb : Below W.heap.size W W') : JdO w z W' K V R s k a g ao ba n m ca bc p0 p1 p2 p3 u0 u1 u2 u3 u4 u5 v6 v7 v8 v9 tl :=
  ⟨bt' h.1 hb, cells_below h.2.1 hb, enC_below h.2.2.1 hb, cells_below h.2.2.2.1 hb, cells_below h.2.2.2.2 hb⟩
theorem jd_lit (w : World) (K V R : ByteArray) (s k a g : Int) (ao ba : Option Addr) (n m ca bc : Nat) (p0 p1 p2 p3 : Int) (u0 u1 u2 u3 u4 u5 : Bool) (v6 v7 v8 v9 : Int) : Below w.heap.size w (((w.alloc (.cells #[.bool u0, .bool u1, .bool u2, .bool u3, .bool u4, .bool u5, .int .i64 v6, .int .i64 v7, .int .i64 v8, .int .i64 v9] 31)).alloc (.cells #[.string K, .string V, .int .i64 s, .string R, .int .i64 k, .slice ao n ca, .slice ba m bc, .int .i64 a, .int .i64 g] 39)).alloc (.cells #[.int .i64 p0, .int .i64 p1, .int .i64 p2, .int .i64 p3] 35)) ∧ Blk w.heap.size (((w.alloc (.cells #[.bool u0, .bool u1, .bool u2, .bool u3, .bool u4, .bool u5, .int .i64 v6, .int .i64 v7, .int .i64 v8, .int .i64 v9] 31)).alloc (.cells #[.string K, .string V, .int .i64 s, .string R, .int .i64 k, .slice ao n ca, .slice ba m bc, .int .i64 a, .int .i64 g] 39)).alloc (.cells #[.int .i64 p0, .int .i64 p1, .int .i64 p2, .int .i64 p3] 35)) [.bool u0, .bool u1, .bool u2, .bool u3, .bool u4, .bool u5, .int .i64 v6, .int .i64 v7, .int .i64 v8, .int .i64 v9] ∧ EnC (w.heap.size + 1) (((w.alloc (.cells #[.bool u0, .bool u1, .bool u2, .bool u3, .bool u4, .bool u5, .int .i64 v6, .int .i64 v7, .int .i64 v8, .int .i64 v9] 31)).alloc (.cells #[.string K, .string V, .int .i64 s, .string R, .int .i64 k, .slice ao n ca, .slice ba m bc, .int .i64 a, .int .i64 g] 39)).alloc (.cells #[.int .i64 p0, .int .i64 p1, .int .i64 p2, .int .i64 p3] 35)) K V R s k a g ao ba n m ca bc ∧ PoC (w.heap.size + 1 + 1) (((w.alloc (.cells #[.bool u0, .bool u1, .bool u2, .bool u3, .bool u4, .bool u5, .int .i64 v6, .int .i64 v7, .int .i64 v8, .int .i64 v9] 31)).alloc (.cells #[.string K, .string V, .int .i64 s, .string R, .int .i64 k, .slice ao n ca, .slice ba m bc, .int .i64 a, .int .i64 g] 39)).alloc (.cells #[.int .i64 p0, .int .i64 p1, .int .i64 p2, .int .i64 p3] 35)) p0 p1 p2 p3 := by
  have b1 := below_alloc' w (.cells #[.bool u0, .bool u1, .bool u2, .bool u3, .bool u4, .bool u5, .int .i64 v6, .int .i64 v7, .int .i64 v8, .int .i64 v9] 31)
  have c1 := cells_lit w #[.bool u0, .bool u1, .bool u2, .bool u3, .bool u4, .bool u5, .int .i64 v6, .int .i64 v7, .int .i64 v8, .int .i64 v9] 31
  have z1 : (w.alloc (.cells #[.bool u0, .bool u1, .bool u2, .bool u3, .bool u4, .bool u5, .int .i64 v6, .int .i64 v7, .int .i64 v8, .int .i64 v9] 31)).heap.size = w.heap.size + 1 := by simp
  generalize (w.alloc (.cells #[.bool u0, .bool u1, .bool u2, .bool u3, .bool u4, .bool u5, .int .i64 v6, .int .i64 v7, .int .i64 v8, .int .i64 v9] 31)) = wa at b1 c1 z1 ⊢
  have b2 := below_alloc' wa (.cells #[.string K, .string V, .int .i64 s, .string R, .int .i64 k, .slice ao n ca, .slice ba m bc, .int .i64 a, .int .i64 g] 39)
  have c2 := enC_lit wa K V R s k a g ao ba n m ca bc
  have z2 : (wa.alloc (.cells #[.string K, .string V, .int .i64 s, .string R, .int .i64 k, .slice ao n ca, .slice ba m bc, .int .i64 a, .int .i64 g] 39)).heap.size = w.heap.size + 1 + 1 := by simp [z1]
  rw [z1] at c2
  generalize (wa.alloc (.cells #[.string K, .string V, .int .i64 s, .string R, .int .i64 k, .slice ao n ca, .slice ba m bc, .int .i64 a, .int .i64 g] 39)) = wb at b2 c2 z2 ⊢
  have b3 := below_alloc' wb (.cells #[.int .i64 p0, .int .i64 p1, .int .i64 p2, .int .i64 p3] 35)
  have c3 := cells_lit wb #[.int .i64 p0, .int .i64 p1, .int .i64 p2, .int .i64 p3] 35
  rw [z2] at c3
  exact ⟨bt' (bt' b1 b2) b3, cells_below c1 (bt' b2 b3), enC_below c2 b3, c3⟩
set_option maxRecDepth 20000 in
set_option maxHeartbeats 8000000 in
theorem judgeFC (K V R : ByteArray) (s k a g : Int) (ao ba : Option Addr) (n m ca bc : Nat) (p0 p1 p2 p3 : Int) (u0 u1 u2 u3 u4 u5 : Bool) (v6 v7 v8 v9 : Int) (now : Int) (fs : FL) (b0 b1 b2 b3 b4 b5 : Bool) (n6 n7 n8 n9 : Int) (d x y : Int) (w : World) (hv : HoldsF w (.slice ao n ca) fs) (hb : bulkF fs ≤ 1048576) (E : EvD w) (T : Told fs b0 b1 b2 b3 b4 b5 n6 n7 n8 n9) (D : DtP (joinOf (valsOf fs dab)) d) (X : DtP (joinOf (valsOf fs exb)) x) (Y : DtP (joinOf (valsOf fs lmb)) y) :
    Calls Tryd.prog 28 #[.agg #[.bool u0, .bool u1, .bool u2, .bool u3, .bool u4, .bool u5, .int .i64 v6, .int .i64 v7, .int .i64 v8, .int .i64 v9], .agg #[.string K, .string V, .int .i64 s, .string R, .int .i64 k, .slice ao n ca, .slice ba m bc, .int .i64 a, .int .i64 g], .agg #[.int .i64 p0, .int .i64 p1, .int .i64 p2, .int .i64 p3], .int .i64 now] w fun e w' => e = .returned (.int .i64 (judN u1 b1 v6 v8 v9 b4 n7 (lifeN n7 n6 (hasN fs exb) d x y s g p0 p2 p3 p1) (ageN d (secs (joinOf (valsOf fs agb))) a g now))) ∧ Below w.heap.size w w' := by
  have C0 := hide' (jd_lit w K V R s k a g ao ba n m ca bc p0 p1 p2 p3 u0 u1 u2 u3 u4 u5 v6 v7 v8 v9)
  have cT := hide' (fun W (h : Below w.heap.size w W) => toldFC (.slice ao n ca) fs b0 b1 b2 b3 b4 b5 n6 n7 n8 n9 T W (holdsF_mono hv h) hb)
  have cA := hide' (fun W (h : Below w.heap.size w W) => ageFC K V R s k a g ao ba n m ca bc now fs d W (holdsF_mono hv h) hb (evD_below E h) D)
  have cL := hide' (fun W (h : Below w.heap.size w W) => lifeFC K V R s k a g ao ba n m ca bc p0 p1 p2 p3 fs b0 b1 b2 b3 b4 b5 n6 n7 n8 n9 d x y W (holdsF_mono hv h) hb (evD_below E h) T D X Y)
  have aI := ageN_in d (secs (joinOf (valsOf fs agb))) a g now D.2.1 (secs_in _).2
  have lI := lifeN_in n7 n6 (hasN fs exb) d x y s g p0 p2 p3 p1 T.i7 T.i6
  have t7 := T.i7.1
  clear hv E D X Y T
  generalize ageN d (secs (joinOf (valsOf fs agb))) a g now = ag at cA aI ⊢
  generalize lifeN n7 n6 (hasN fs exb) d x y s g p0 p2 p3 p1 = lf at cL lI ⊢
  obtain ⟨r, er⟩ : ∃ r, r = judN u1 b1 v6 v8 v9 b4 n7 lf ag := ⟨_, rfl⟩
  rw [← er]
  unfold judN at er
  have ER := hide' er
  clear er
  obtain ⟨aI0, aI1⟩ := aI
  obtain ⟨lI0, lI1⟩ := lI
  go_enter Tryd.func28, Tryd.ntmps28
  go_wp2_with fail
  refine (cT.out _ C0.out.1).mono ?_
  rintro e w1 ⟨rfl, b1'⟩
  have C1 : Hid (JdO w w1.heap.size (w1.alloc (.cells #[.bool b0, .bool b1, .bool b2, .bool b3, .bool b4, .bool b5, .int .i64 n6, .int .i64 n7, .int .i64 n8, .int .i64 n9] 31)) K V R s k a g ao ba n m ca bc p0 p1 p2 p3 u0 u1 u2 u3 u4 u5 v6 v7 v8 v9 [.bool b0, .bool b1, .bool b2, .bool b3, .bool b4, .bool b5, .int .i64 n6, .int .i64 n7, .int .i64 n8, .int .i64 n9]) := by
    obtain ⟨h1, h2, h3, h4⟩ := C0.out
    have bb := bt' b1' (below_alloc' w1 (.cells #[.bool b0, .bool b1, .bool b2, .bool b3, .bool b4, .bool b5, .int .i64 n6, .int .i64 n7, .int .i64 n8, .int .i64 n9] 31))
    exact ⟨bt' h1 bb, cells_below h2 bb, enC_below h3 bb, cells_below h4 bb, cells_lit w1 #[.bool b0, .bool b1, .bool b2, .bool b3, .bool b4, .bool b5, .int .i64 n6, .int .i64 n7, .int .i64 n8, .int .i64 n9] 31⟩
  clear b1' cT C0
  have O1 := C1.out
  obtain ⟨-, i0, i1, i2, i3, i4, i5, i6, i7, i8⟩ := enC_open O1.2.2.1
  clear O1
  go_wp2_with fail
  refine (cA.out _ C1.out.1).mono ?_
  rintro e w2 ⟨rfl, b2'⟩
  have C2 := hide' (jdO_below C1.out b2')
  clear b2' cA C1 i0 i1 i2 i3 i4 i5 i6 i7 i8
  have O2 := C2.out
  obtain ⟨-, i0, i1, i2, i3, i4, i5, i6, i7, i8⟩ := enC_open O2.2.2.1
  obtain ⟨-, j0, j1, j2, j3⟩ := poC_open O2.2.2.2.1
  clear O2
  go_wp2_with fail
  refine (cL.out _ C2.out.1).mono ?_
  rintro e w3 ⟨rfl, b3'⟩
  have C3 := hide' (jdO_below C2.out b3')
  clear b3' cL C2 i0 i1 i2 i3 i4 i5 i6 i7 i8 j0 j1 j2 j3
  have O3 := C3.out
  obtain ⟨k0, k1, k2, k3, k4, k5, k6, k7, k8, k9⟩ := (cells10K O3.2.1).1
  obtain ⟨l0, l1, l2, l3, l4, l5, l6, l7, l8, l9⟩ := (cells10K O3.2.2.2.2).1
  clear O3
  cases u1 with
  | true =>
    have EQ : Hid (r = 2) := by unfold Hid; rw [ER.out, if_pos (by simp)]
    clear ER
    go_wp2_with fail
    go_ret
    exact ⟨by rw [EQ.out]; try rfl, C3.out.1⟩
  | false =>
  cases b1 with
  | true =>
    have EQ : Hid (r = 2) := by unfold Hid; rw [ER.out, if_pos (by simp)]
    clear ER
    go_wp2_with fail
    go_ret
    exact ⟨by rw [EQ.out]; try rfl, C3.out.1⟩
  | false =>
  rw [if_neg (by simp)] at ER
  by_cases g : v6 ≠ -1 ∧ v6 < ag
  · have EQ : Hid (r = 2) := by unfold Hid; rw [ER.out, if_pos g]
    obtain ⟨g1, g2⟩ := g
    clear ER
    go_wp2_with fail
    go_ret
    exact ⟨by rw [EQ.out]; try rfl, C3.out.1⟩
  rw [if_neg g] at ER
  by_cases h : v6 = -1
  · subst h
    clear g
    by_cases g : v8 ≠ -1 ∧ lf - ag < v8
    · have EQ : Hid (r = 2) := by unfold Hid; rw [ER.out, if_pos g]
      obtain ⟨g1, g2⟩ := g
      clear ER
      go_wp2_with fail
      go_ret
      exact ⟨by rw [EQ.out]; try rfl, C3.out.1⟩
    rw [if_neg g] at ER
    by_cases h : v8 = -1
    · subst h
      clear g
      by_cases g3 : 0 < lf - ag
      · have EQ : Hid (r = 0) := by unfold Hid; rw [ER.out, if_pos g3]
        clear ER
        go_wp2_with fail
        go_ret
        exact ⟨by rw [EQ.out]; try rfl, C3.out.1⟩
      rw [if_neg g3] at ER
      cases b4 with
      | true =>
        have EQ : Hid (r = 2) := by unfold Hid; rw [ER.out, if_pos (.inl rfl)]
        clear ER
        go_wp2_with fail
        go_ret
        exact ⟨by rw [EQ.out]; try rfl, C3.out.1⟩
      | false =>
      by_cases g4 : n7 = -1
      case neg =>
        have EQ : Hid (r = 2) := by unfold Hid; rw [ER.out, if_pos (.inr g4)]
        have g5 : 0 ≤ n7 := by omega
        clear ER
        go_wp2_with fail
        go_ret
        exact ⟨by rw [EQ.out]; try rfl, C3.out.1⟩
      subst g4
      rw [if_neg (by simp)] at ER
      by_cases g : v9 ≠ -1 ∧ -(lf - ag) ≤ v9
      · have EQ : Hid (r = 1) := by unfold Hid; rw [ER.out, if_pos g]
        obtain ⟨g1, g2⟩ := g
        clear ER
        go_wp2_with fail
        go_ret
        exact ⟨by rw [EQ.out]; try rfl, C3.out.1⟩
      rw [if_neg g] at ER
      by_cases h : v9 = -1
      · subst h
        clear g
        have EQ : Hid (r = 2) := ER
        clear ER
        go_wp2_with fail
        go_ret
        exact ⟨by rw [EQ.out]; try rfl, C3.out.1⟩
      · have g2 : ¬ -(lf - ag) ≤ v9 := fun x => g ⟨h, x⟩
        clear g
        have EQ : Hid (r = 2) := ER
        clear ER
        go_wp2_with fail
        go_ret
        exact ⟨by rw [EQ.out]; try rfl, C3.out.1⟩
    · have g2 : ¬ lf - ag < v8 := fun x => g ⟨h, x⟩
      clear g
      by_cases g3 : 0 < lf - ag
      · have EQ : Hid (r = 0) := by unfold Hid; rw [ER.out, if_pos g3]
        clear ER
        go_wp2_with fail
        go_ret
        exact ⟨by rw [EQ.out]; try rfl, C3.out.1⟩
      rw [if_neg g3] at ER
      cases b4 with
      | true =>
        have EQ : Hid (r = 2) := by unfold Hid; rw [ER.out, if_pos (.inl rfl)]
        clear ER
        go_wp2_with fail
        go_ret
        exact ⟨by rw [EQ.out]; try rfl, C3.out.1⟩
      | false =>
      by_cases g4 : n7 = -1
      case neg =>
        have EQ : Hid (r = 2) := by unfold Hid; rw [ER.out, if_pos (.inr g4)]
        have g5 : 0 ≤ n7 := by omega
        clear ER
        go_wp2_with fail
        go_ret
        exact ⟨by rw [EQ.out]; try rfl, C3.out.1⟩
      subst g4
      rw [if_neg (by simp)] at ER
      by_cases g : v9 ≠ -1 ∧ -(lf - ag) ≤ v9
      · have EQ : Hid (r = 1) := by unfold Hid; rw [ER.out, if_pos g]
        obtain ⟨g1, g2⟩ := g
        clear ER
        go_wp2_with fail
        go_ret
        exact ⟨by rw [EQ.out]; try rfl, C3.out.1⟩
      rw [if_neg g] at ER
      by_cases h : v9 = -1
      · subst h
        clear g
        have EQ : Hid (r = 2) := ER
        clear ER
        go_wp2_with fail
        go_ret
        exact ⟨by rw [EQ.out]; try rfl, C3.out.1⟩
      · have g2 : ¬ -(lf - ag) ≤ v9 := fun x => g ⟨h, x⟩
        clear g
        have EQ : Hid (r = 2) := ER
        clear ER
        go_wp2_with fail
        go_ret
        exact ⟨by rw [EQ.out]; try rfl, C3.out.1⟩
  · have g2 : ¬ v6 < ag := fun x => g ⟨h, x⟩
    clear g
    by_cases g : v8 ≠ -1 ∧ lf - ag < v8
    · have EQ : Hid (r = 2) := by unfold Hid; rw [ER.out, if_pos g]
      obtain ⟨g1, g2⟩ := g
      clear ER
      go_wp2_with fail
      go_ret
      exact ⟨by rw [EQ.out]; try rfl, C3.out.1⟩
    rw [if_neg g] at ER
    by_cases h : v8 = -1
    · subst h
      clear g
      by_cases g3 : 0 < lf - ag
      · have EQ : Hid (r = 0) := by unfold Hid; rw [ER.out, if_pos g3]
        clear ER
        go_wp2_with fail
        go_ret
        exact ⟨by rw [EQ.out]; try rfl, C3.out.1⟩
      rw [if_neg g3] at ER
      cases b4 with
      | true =>
        have EQ : Hid (r = 2) := by unfold Hid; rw [ER.out, if_pos (.inl rfl)]
        clear ER
        go_wp2_with fail
        go_ret
        exact ⟨by rw [EQ.out]; try rfl, C3.out.1⟩
      | false =>
      by_cases g4 : n7 = -1
      case neg =>
        have EQ : Hid (r = 2) := by unfold Hid; rw [ER.out, if_pos (.inr g4)]
        have g5 : 0 ≤ n7 := by omega
        clear ER
        go_wp2_with fail
        go_ret
        exact ⟨by rw [EQ.out]; try rfl, C3.out.1⟩
      subst g4
      rw [if_neg (by simp)] at ER
      by_cases g : v9 ≠ -1 ∧ -(lf - ag) ≤ v9
      · have EQ : Hid (r = 1) := by unfold Hid; rw [ER.out, if_pos g]
        obtain ⟨g1, g2⟩ := g
        clear ER
        go_wp2_with fail
        go_ret
        exact ⟨by rw [EQ.out]; try rfl, C3.out.1⟩
      rw [if_neg g] at ER
      by_cases h : v9 = -1
      · subst h
        clear g
        have EQ : Hid (r = 2) := ER
        clear ER
        go_wp2_with fail
        go_ret
        exact ⟨by rw [EQ.out]; try rfl, C3.out.1⟩
      · have g2 : ¬ -(lf - ag) ≤ v9 := fun x => g ⟨h, x⟩
        clear g
        have EQ : Hid (r = 2) := ER
        clear ER
        go_wp2_with fail
        go_ret
        exact ⟨by rw [EQ.out]; try rfl, C3.out.1⟩
    · have g2 : ¬ lf - ag < v8 := fun x => g ⟨h, x⟩
      clear g
      by_cases g3 : 0 < lf - ag
      · have EQ : Hid (r = 0) := by unfold Hid; rw [ER.out, if_pos g3]
        clear ER
        go_wp2_with fail
        go_ret
        exact ⟨by rw [EQ.out]; try rfl, C3.out.1⟩
      rw [if_neg g3] at ER
      cases b4 with
      | true =>
        have EQ : Hid (r = 2) := by unfold Hid; rw [ER.out, if_pos (.inl rfl)]
        clear ER
        go_wp2_with fail
        go_ret
        exact ⟨by rw [EQ.out]; try rfl, C3.out.1⟩
      | false =>
      by_cases g4 : n7 = -1
      case neg =>
        have EQ : Hid (r = 2) := by unfold Hid; rw [ER.out, if_pos (.inr g4)]
        have g5 : 0 ≤ n7 := by omega
        clear ER
        go_wp2_with fail
        go_ret
        exact ⟨by rw [EQ.out]; try rfl, C3.out.1⟩
      subst g4
      rw [if_neg (by simp)] at ER
      by_cases g : v9 ≠ -1 ∧ -(lf - ag) ≤ v9
      · have EQ : Hid (r = 1) := by unfold Hid; rw [ER.out, if_pos g]
        obtain ⟨g1, g2⟩ := g
        clear ER
        go_wp2_with fail
        go_ret
        exact ⟨by rw [EQ.out]; try rfl, C3.out.1⟩
      rw [if_neg g] at ER
      by_cases h : v9 = -1
      · subst h
        clear g
        have EQ : Hid (r = 2) := ER
        clear ER
        go_wp2_with fail
        go_ret
        exact ⟨by rw [EQ.out]; try rfl, C3.out.1⟩
      · have g2 : ¬ -(lf - ag) ≤ v9 := fun x => g ⟨h, x⟩
        clear g
        have EQ : Hid (r = 2) := ER
        clear ER
        go_wp2_with fail
        go_ret
        exact ⟨by rw [EQ.out]; try rfl, C3.out.1⟩
end Go.Proofs.YtlhhcpbfjjhbfabDoor
