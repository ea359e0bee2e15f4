/- The walk of FreshJudges. -/
import Derived.Test.YtlhhcpbfjjhbfaaGreatDoorLawFhA
import Derived.Test.YtlhhcpbfjjhbfaaGreatDoorFhJ
import Derived.Test.YtlhhcpbfjjhbfaaGreatDoorBr
namespace Go.Proofs.YtlhhcpbfjjhbfaaGreatDoor
open Go.RowKit
/-- a Control, an entry and a policy in blocks, and a copy of the entry in the block z -/
def JuO (w wz : World) (z : Nat) (W : World) (K V R : ByteArray) (s k a g : Int) (ao ba : Option Addr) (n m ca bc : Nat) (p0 p1 p2 p3 : Int) (u0 u1 u2 u3 u4 u5 : Bool) (v6 v7 v8 v9 : Int) (ao2 ba2 : Option Addr) (ca2 bc2 : Nat) : Prop := JdO w z W K V R s k a g ao ba n m ca bc p0 p1 p2 p3 u0 u1 u2 u3 u4 u5 v6 v7 v8 v9 [.string K, .string V, .int .i64 s, .string R, .int .i64 k, .slice ao2 n ca2, .slice ba2 m bc2, .int .i64 a, .int .i64 g] ∧ Below wz.heap.size wz W
theorem juO_below {w wz : World} {z : Nat} {W W' : World} {K V R : ByteArray} {s k a g : Int} {ao ba : Option Addr} {n m ca bc : Nat} {p0 p1 p2 p3 : Int} {u0 u1 u2 u3 u4 u5 : Bool} {v6 v7 v8 v9 : Int} {ao2 ba2 : Option Addr} {ca2 bc2 : Nat} (h : JuO w wz z W K V R s k a g ao ba n m ca bc p0 p1 p2 p3 u0 u1 u2 u3 u4 u5 v6 v7 v8 v9 ao2 ba2 ca2 bc2) (hb : Below W.heap.size W W') : JuO w wz z W' K V R s k a g ao ba n m ca bc p0 p1 p2 p3 u0 u1 u2 u3 u4 u5 v6 v7 v8 v9 ao2 ba2 ca2 bc2 := ⟨jdO_below h.1 hb, bt' h.2 hb⟩
theorem juO_drew {w wz : World} {z : Nat} {W : World} {K V R : ByteArray} {s k a g : Int} {ao ba : Option Addr} {n m ca bc : Nat} {p0 p1 p2 p3 : Int} {u0 u1 u2 u3 u4 u5 : Bool} {v6 v7 v8 v9 : Int} {ao2 ba2 : Option Addr} {ca2 bc2 : Nat} (h : JuO w wz z W K V R s k a g ao ba n m ca bc p0 p1 p2 p3 u0 u1 u2 u3 u4 u5 v6 v7 v8 v9 ao2 ba2 ca2 bc2) : JuO w wz z W.drew K V R s k a g ao ba n m ca bc p0 p1 p2 p3 u0 u1 u2 u3 u4 u5 v6 v7 v8 v9 ao2 ba2 ca2 bc2 := juO_below h (Below.refl _ _).drew
theorem juO_cells {w wz : World} {z q : Nat} {W : World} {K V R : ByteArray} {s k a g : Int} {ao ba : Option Addr} {n m ca bc : Nat} {p0 p1 p2 p3 : Int} {u0 u1 u2 u3 u4 u5 : Bool} {v6 v7 v8 v9 : Int} {ao2 ba2 : Option Addr} {ca2 bc2 : Nat} (hq : q = w.heap.size) (h : JuO w wz z W K V R s k a g ao ba n m ca bc p0 p1 p2 p3 u0 u1 u2 u3 u4 u5 v6 v7 v8 v9 ao2 ba2 ca2 bc2) : W.cell? ⟨q, 0, none⟩ = some (.bool u0) ∧ W.cell? ⟨q, 1, none⟩ = some (.bool u1) ∧ W.cell? ⟨q, 2, none⟩ = some (.bool u2) ∧ W.cell? ⟨q, 3, none⟩ = some (.bool u3) ∧ W.cell? ⟨q, 4, none⟩ = some (.bool u4) ∧ W.cell? ⟨q, 5, none⟩ = some (.bool u5) ∧ W.cell? ⟨q, 6, none⟩ = some (.int .i64 v6) ∧ W.cell? ⟨q, 7, none⟩ = some (.int .i64 v7) ∧ W.cell? ⟨q, 8, none⟩ = some (.int .i64 v8) ∧ W.cell? ⟨q, 9, none⟩ = some (.int .i64 v9) ∧ W.cell? ⟨q + 1, 0, none⟩ = some (.string K) ∧ W.cell? ⟨q + 1, 1, none⟩ = some (.string V) ∧ W.cell? ⟨q + 1, 2, none⟩ = some (.int .i64 s) ∧ W.cell? ⟨q + 1, 3, none⟩ = some (.string R) ∧ W.cell? ⟨q + 1, 4, none⟩ = some (.int .i64 k) ∧ W.cell? ⟨q + 1, 5, none⟩ = some (.slice ao n ca) ∧ W.cell? ⟨q + 1, 6, none⟩ = some (.slice ba m bc) ∧ W.cell? ⟨q + 1, 7, none⟩ = some (.int .i64 a) ∧ W.cell? ⟨q + 1, 8, none⟩ = some (.int .i64 g) ∧ W.cell? ⟨q + 1 + 1, 0, none⟩ = some (.int .i64 p0) ∧ W.cell? ⟨q + 1 + 1, 1, none⟩ = some (.int .i64 p1) ∧ W.cell? ⟨q + 1 + 1, 2, none⟩ = some (.int .i64 p2) ∧ W.cell? ⟨q + 1 + 1, 3, none⟩ = some (.int .i64 p3) ∧ W.cell? ⟨z, 0, none⟩ = some (.string K) ∧ W.cell? ⟨z, 1, none⟩ = some (.string V) ∧ W.cell? ⟨z, 2, none⟩ = some (.int .i64 s) ∧ W.cell? ⟨z, 3, none⟩ = some (.string R) ∧ W.cell? ⟨z, 4, none⟩ = some (.int .i64 k) ∧ W.cell? ⟨z, 5, none⟩ = some (.slice ao2 n ca2) ∧ W.cell? ⟨z, 6, none⟩ = some (.slice ba2 m bc2) ∧ W.cell? ⟨z, 7, none⟩ = some (.int .i64 a) ∧ W.cell? ⟨z, 8, none⟩ = some (.int .i64 g) := by
  subst hq
  obtain ⟨k0, k1, k2, k3, k4, k5, k6, k7, k8, k9⟩ := (cells10K h.1.2.1).1
  obtain ⟨-, h0, h1, h2, h3, h4, h5, h6, h7, h8⟩ := enC_open h.1.2.2.1
  obtain ⟨-, i0, i1, i2, i3⟩ := poC_open h.1.2.2.2.1
  obtain ⟨-, j0, j1, j2, j3, j4, j5, j6, j7, j8⟩ := enC_open (show EnC z W K V R s k a g ao2 ba2 n m ca2 bc2 from h.1.2.2.2.2)
  exact ⟨k0, k1, k2, k3, k4, k5, k6, k7, k8, k9, h0, h1, h2, h3, h4, h5, h6, h7, h8, i0, i1, i2, i3, j0, j1, j2, j3, j4, j5, j6, j7, j8⟩
set_option maxRecDepth 20000 in
set_option maxHeartbeats 16000000 in
theorem judgesW (e : En) (lv bv : Value) (p0 p1 p2 p3 : Int) (u0 u1 u2 u3 u4 u5 : Bool) (v6 v7 v8 v9 : Int) (now : Int) (w : World) (hF : HoldsF w lv e.r.fs) (hB : HoldsB w bv e.body) (hb : e.key.length + e.vary.length + e.r.r.length + bulkF e.r.fs + e.body.length ≤ 1048576) (E : EvD w) :
    Calls Tryz.prog 4 #[.agg #[.bool u0, .bool u1, .bool u2, .bool u3, .bool u4, .bool u5, .int .i64 v6, .int .i64 v7, .int .i64 v8, .int .i64 v9], entV e lv bv, .agg #[.int .i64 p0, .int .i64 p1, .int .i64 p2, .int .i64 p3], .int .i64 now] w fun e w' => e = .returned (.bool true) ∧ Below w.heap.size w w' := by
  obtain ⟨key, vary, ⟨s, r, k, fs⟩, body, a, g⟩ := e
  dsimp only at hb hF hB
  have hn : fs.length ≤ 2000000 := by have := bulkF_len fs; omega
  have hfs : bulkF fs ≤ 1048576 := by omega
  have hbd : body.length ≤ 2000000 := by omega
  obtain ⟨b0, b1, b2, b3, b4, b5, n6, n7, n8, n9, T⟩ := told_ex fs
  have jb : ∀ nm, (joinOf (valsOf fs nm)).length < 4294967281 := fun nm => by have h1 := join_len (valsOf fs nm); have h2 := bulk_vals fs nm; omega
  obtain ⟨d, D⟩ := dt_exB (joinOf (valsOf fs dab)) (jb dab)
  obtain ⟨x, X⟩ := dt_exB (joinOf (valsOf fs exb)) (jb exb)
  obtain ⟨y, Y⟩ := dt_exB (joinOf (valsOf fs lmb)) (jb lmb)
  have cA := hide' (fun W (h : Below w.heap.size w W) => aliveF W (evD_below E h))
  obtain ⟨ao, ca, _, _, el, _⟩ := holdsF_parts hF
  obtain ⟨ba, bc, eb, _⟩ := holdsB_parts hB
  subst el eb
  have cC := fun W (h : Below w.heap.size w W) => copyEC ⟨key, vary, ⟨s, r, k, fs⟩, body, a, g⟩ _ _ W (holdsF_mono hF h) (holdsB_mono hB h) hn (by dsimp only; omega)
  have cS := fun W lu bu (h : Below w.heap.size w W) (h1 : HoldsF W lu fs) (h2 : HoldsB W bu body) => sameEC ⟨key, vary, ⟨s, r, k, fs⟩, body, a, g⟩ lu _ bu _ W h1 (holdsF_mono hF h) h2 (holdsB_mono hB h) hn (by dsimp only; omega)
  unfold entV at cC cS ⊢
  dsimp only at cC cS ⊢
  generalize (⟨key.toArray⟩ : ByteArray) = K at cC cS ⊢
  generalize (⟨vary.toArray⟩ : ByteArray) = V at cC cS ⊢
  generalize (⟨r.toArray⟩ : ByteArray) = R at cC cS ⊢
  have k1 := fun ao2 ca2 ba2 bc2 W (h : Below w.heap.size w W) (hx : HoldsF W (.slice ao2 fs.length ca2) fs) => judgeFC K V R s k a g ao2 ba2 fs.length body.length ca2 bc2 p0 p1 p2 p3 u0 u1 u2 u3 u4 u5 v6 v7 v8 v9 now fs b0 b1 b2 b3 b4 b5 n6 n7 n8 n9 d x y W hx hfs (evD_below E h) T D.1 X.1 Y.1
  have k3 := fun W (h : Below w.heap.size w W) => judgeRC K V R s k a g ao ba fs.length body.length ca bc p0 p1 p2 p3 u0 u1 u2 u3 u4 u5 v6 v7 v8 v9 now fs b0 b1 b2 b3 b4 b5 n6 n7 n8 n9 d x y W (holdsF_mono hF h) hfs T D X Y
  generalize judN u1 b1 v6 v8 v9 b4 n7 (lifeN n7 n6 (hasN fs exb) d x y s g p0 p2 p3 p1) (ageN d (secs (joinOf (valsOf fs agb))) a g now) = L at k1 k3
  clear T D X Y E jb hb hn hfs hbd hF hB
  generalize hn' : fs.length = n at cC cS k1 k3 ⊢
  generalize hm' : body.length = m at cC cS k1 k3 ⊢
  have HN := hide' hn'
  have HM := hide' hm'
  replace cC := hide' cC
  replace cS := hide' cS
  replace k1 := hide' k1
  replace k3 := hide' k3
  clear hn' hm'
  have C0 := hide' (jd_lit w K V R s k a g ao ba n m ca bc p0 p1 p2 p3 u0 u1 u2 u3 u4 u5 v6 v7 v8 v9)
  go_enter Tryz.func4, Tryz.ntmps4
  go_wp2_with fail
  refine (cA.out _ C0.out.1).mono ?_
  rintro e w1 ⟨rfl, bw1⟩
  have C1 : Hid (Below w.heap.size w w1 ∧ Blk w.heap.size w1 [.bool u0, .bool u1, .bool u2, .bool u3, .bool u4, .bool u5, .int .i64 v6, .int .i64 v7, .int .i64 v8, .int .i64 v9] ∧ EnC (w.heap.size + 1) w1 K V R s k a g ao ba n m ca bc ∧ PoC (w.heap.size + 1 + 1) w1 p0 p1 p2 p3) := ⟨bt' C0.out.1 bw1, cells_below C0.out.2.1 bw1, enC_below C0.out.2.2.1 bw1, cells_below C0.out.2.2.2 bw1⟩
  clear bw1 C0 cA
  have O0 := C1.out
  obtain ⟨-, i0, i1, i2, i3, i4, i5, i6, i7, i8⟩ := enC_open O0.2.2.1
  clear O0
  go_wp2_with fail
  refine (cC.out _ C1.out.1).mono ?_
  rintro e w2 ⟨lu, bu, rfl, hu, hbu⟩
  obtain ⟨ao2, ca2, _, _, el2, _⟩ := holdsF_parts (holdsF_own hu)
  obtain ⟨ba2, bc2, eb2, _⟩ := holdsB_parts (holdsB_own hbu)
  rw [HN.out] at el2
  rw [HM.out] at eb2
  have hx := holdsF_own hu
  have hy := holdsB_own hbu
  rw [el2] at hx ⊢
  rw [eb2] at hy ⊢
  have bw2 := hu.2
  clear hu hbu el2 eb2 lu bu cC i0 i1 i2 i3 i4 i5 i6 i7 i8
  obtain ⟨W, hW⟩ : ∃ W, W = w2.alloc (.cells #[.string K, .string V, .int .i64 s, .string R, .int .i64 k, .slice ao2 n ca2, .slice ba2 m bc2, .int .i64 a, .int .i64 g] 27) := ⟨_, rfl⟩
  obtain ⟨q, hq⟩ : ∃ q, q = w.heap.size := ⟨_, rfl⟩
  obtain ⟨z, hz⟩ : ∃ z, z = w2.heap.size := ⟨_, rfl⟩
  have O := hide' (show JuO w w2 z W K V R s k a g ao ba n m ca bc p0 p1 p2 p3 u0 u1 u2 u3 u4 u5 v6 v7 v8 v9 ao2 ba2 ca2 bc2 from by
    rw [hW, hz]
    have b3 := below_alloc' w2 (.cells #[.string K, .string V, .int .i64 s, .string R, .int .i64 k, .slice ao2 n ca2, .slice ba2 m bc2, .int .i64 a, .int .i64 g] 27)
    have bb := bt' bw2 b3
    exact ⟨⟨bt' C1.out.1 bb, cells_below C1.out.2.1 bb, enC_below C1.out.2.2.1 bb, cells_below C1.out.2.2.2 bb, enC_lit w2 K V R s k a g ao2 ba2 n m ca2 bc2⟩, b3⟩)
  have q1 : Hid (∀ W, JuO w w2 z W K V R s k a g ao ba n m ca bc p0 p1 p2 p3 u0 u1 u2 u3 u4 u5 v6 v7 v8 v9 ao2 ba2 ca2 bc2 → Calls Tryz.prog 12 #[.agg #[.bool u0, .bool u1, .bool u2, .bool u3, .bool u4, .bool u5, .int .i64 v6, .int .i64 v7, .int .i64 v8, .int .i64 v9], .agg #[.string K, .string V, .int .i64 s, .string R, .int .i64 k, .slice ao2 n ca2, .slice ba2 m bc2, .int .i64 a, .int .i64 g], .agg #[.int .i64 p0, .int .i64 p1, .int .i64 p2, .int .i64 p3], .int .i64 now] W fun e w' => e = .returned (.int .i64 L) ∧ Hid (JuO w w2 z w' K V R s k a g ao ba n m ca bc p0 p1 p2 p3 u0 u1 u2 u3 u4 u5 v6 v7 v8 v9 ao2 ba2 ca2 bc2) ∧ w'.cell? ⟨q, 0, none⟩ = some (.bool u0) ∧ w'.cell? ⟨q, 1, none⟩ = some (.bool u1) ∧ w'.cell? ⟨q, 2, none⟩ = some (.bool u2) ∧ w'.cell? ⟨q, 3, none⟩ = some (.bool u3) ∧ w'.cell? ⟨q, 4, none⟩ = some (.bool u4) ∧ w'.cell? ⟨q, 5, none⟩ = some (.bool u5) ∧ w'.cell? ⟨q, 6, none⟩ = some (.int .i64 v6) ∧ w'.cell? ⟨q, 7, none⟩ = some (.int .i64 v7) ∧ w'.cell? ⟨q, 8, none⟩ = some (.int .i64 v8) ∧ w'.cell? ⟨q, 9, none⟩ = some (.int .i64 v9) ∧ w'.cell? ⟨q + 1, 0, none⟩ = some (.string K) ∧ w'.cell? ⟨q + 1, 1, none⟩ = some (.string V) ∧ w'.cell? ⟨q + 1, 2, none⟩ = some (.int .i64 s) ∧ w'.cell? ⟨q + 1, 3, none⟩ = some (.string R) ∧ w'.cell? ⟨q + 1, 4, none⟩ = some (.int .i64 k) ∧ w'.cell? ⟨q + 1, 5, none⟩ = some (.slice ao n ca) ∧ w'.cell? ⟨q + 1, 6, none⟩ = some (.slice ba m bc) ∧ w'.cell? ⟨q + 1, 7, none⟩ = some (.int .i64 a) ∧ w'.cell? ⟨q + 1, 8, none⟩ = some (.int .i64 g) ∧ w'.cell? ⟨q + 1 + 1, 0, none⟩ = some (.int .i64 p0) ∧ w'.cell? ⟨q + 1 + 1, 1, none⟩ = some (.int .i64 p1) ∧ w'.cell? ⟨q + 1 + 1, 2, none⟩ = some (.int .i64 p2) ∧ w'.cell? ⟨q + 1 + 1, 3, none⟩ = some (.int .i64 p3) ∧ w'.cell? ⟨z, 0, none⟩ = some (.string K) ∧ w'.cell? ⟨z, 1, none⟩ = some (.string V) ∧ w'.cell? ⟨z, 2, none⟩ = some (.int .i64 s) ∧ w'.cell? ⟨z, 3, none⟩ = some (.string R) ∧ w'.cell? ⟨z, 4, none⟩ = some (.int .i64 k) ∧ w'.cell? ⟨z, 5, none⟩ = some (.slice ao2 n ca2) ∧ w'.cell? ⟨z, 6, none⟩ = some (.slice ba2 m bc2) ∧ w'.cell? ⟨z, 7, none⟩ = some (.int .i64 a) ∧ w'.cell? ⟨z, 8, none⟩ = some (.int .i64 g)) := fun W h => (k1.out ao2 ca2 ba2 bc2 W h.1.1 (holdsF_mono hx h.2)).mono (fun e w' ⟨h1, h2⟩ => ⟨h1, juO_below h h2, juO_cells hq (juO_below h h2)⟩)
  have q2 : Hid (∀ W, JuO w w2 z W K V R s k a g ao ba n m ca bc p0 p1 p2 p3 u0 u1 u2 u3 u4 u5 v6 v7 v8 v9 ao2 ba2 ca2 bc2 → Calls Tryz.prog 13 #[.agg #[.bool u0, .bool u1, .bool u2, .bool u3, .bool u4, .bool u5, .int .i64 v6, .int .i64 v7, .int .i64 v8, .int .i64 v9], .agg #[.string K, .string V, .int .i64 s, .string R, .int .i64 k, .slice ao n ca, .slice ba m bc, .int .i64 a, .int .i64 g], .agg #[.int .i64 p0, .int .i64 p1, .int .i64 p2, .int .i64 p3], .int .i64 now] W fun e w' => e = .returned (.int .i64 L) ∧ Hid (JuO w w2 z w' K V R s k a g ao ba n m ca bc p0 p1 p2 p3 u0 u1 u2 u3 u4 u5 v6 v7 v8 v9 ao2 ba2 ca2 bc2) ∧ w'.cell? ⟨q, 0, none⟩ = some (.bool u0) ∧ w'.cell? ⟨q, 1, none⟩ = some (.bool u1) ∧ w'.cell? ⟨q, 2, none⟩ = some (.bool u2) ∧ w'.cell? ⟨q, 3, none⟩ = some (.bool u3) ∧ w'.cell? ⟨q, 4, none⟩ = some (.bool u4) ∧ w'.cell? ⟨q, 5, none⟩ = some (.bool u5) ∧ w'.cell? ⟨q, 6, none⟩ = some (.int .i64 v6) ∧ w'.cell? ⟨q, 7, none⟩ = some (.int .i64 v7) ∧ w'.cell? ⟨q, 8, none⟩ = some (.int .i64 v8) ∧ w'.cell? ⟨q, 9, none⟩ = some (.int .i64 v9) ∧ w'.cell? ⟨q + 1, 0, none⟩ = some (.string K) ∧ w'.cell? ⟨q + 1, 1, none⟩ = some (.string V) ∧ w'.cell? ⟨q + 1, 2, none⟩ = some (.int .i64 s) ∧ w'.cell? ⟨q + 1, 3, none⟩ = some (.string R) ∧ w'.cell? ⟨q + 1, 4, none⟩ = some (.int .i64 k) ∧ w'.cell? ⟨q + 1, 5, none⟩ = some (.slice ao n ca) ∧ w'.cell? ⟨q + 1, 6, none⟩ = some (.slice ba m bc) ∧ w'.cell? ⟨q + 1, 7, none⟩ = some (.int .i64 a) ∧ w'.cell? ⟨q + 1, 8, none⟩ = some (.int .i64 g) ∧ w'.cell? ⟨q + 1 + 1, 0, none⟩ = some (.int .i64 p0) ∧ w'.cell? ⟨q + 1 + 1, 1, none⟩ = some (.int .i64 p1) ∧ w'.cell? ⟨q + 1 + 1, 2, none⟩ = some (.int .i64 p2) ∧ w'.cell? ⟨q + 1 + 1, 3, none⟩ = some (.int .i64 p3) ∧ w'.cell? ⟨z, 0, none⟩ = some (.string K) ∧ w'.cell? ⟨z, 1, none⟩ = some (.string V) ∧ w'.cell? ⟨z, 2, none⟩ = some (.int .i64 s) ∧ w'.cell? ⟨z, 3, none⟩ = some (.string R) ∧ w'.cell? ⟨z, 4, none⟩ = some (.int .i64 k) ∧ w'.cell? ⟨z, 5, none⟩ = some (.slice ao2 n ca2) ∧ w'.cell? ⟨z, 6, none⟩ = some (.slice ba2 m bc2) ∧ w'.cell? ⟨z, 7, none⟩ = some (.int .i64 a) ∧ w'.cell? ⟨z, 8, none⟩ = some (.int .i64 g)) := fun W h => (k3.out W h.1.1).mono (fun e w' ⟨h1, h2⟩ => ⟨h1, juO_below h h2, juO_cells hq (juO_below h h2)⟩)
  have q5 : Hid (∀ W, JuO w w2 z W K V R s k a g ao ba n m ca bc p0 p1 p2 p3 u0 u1 u2 u3 u4 u5 v6 v7 v8 v9 ao2 ba2 ca2 bc2 → Calls Tryz.prog 11 #[.agg #[.string K, .string V, .int .i64 s, .string R, .int .i64 k, .slice ao2 n ca2, .slice ba2 m bc2, .int .i64 a, .int .i64 g], .agg #[.string K, .string V, .int .i64 s, .string R, .int .i64 k, .slice ao n ca, .slice ba m bc, .int .i64 a, .int .i64 g]] W fun e w' => e = .returned (.bool true) ∧ Hid (JuO w w2 z w' K V R s k a g ao ba n m ca bc p0 p1 p2 p3 u0 u1 u2 u3 u4 u5 v6 v7 v8 v9 ao2 ba2 ca2 bc2) ∧ w'.cell? ⟨q, 0, none⟩ = some (.bool u0) ∧ w'.cell? ⟨q, 1, none⟩ = some (.bool u1) ∧ w'.cell? ⟨q, 2, none⟩ = some (.bool u2) ∧ w'.cell? ⟨q, 3, none⟩ = some (.bool u3) ∧ w'.cell? ⟨q, 4, none⟩ = some (.bool u4) ∧ w'.cell? ⟨q, 5, none⟩ = some (.bool u5) ∧ w'.cell? ⟨q, 6, none⟩ = some (.int .i64 v6) ∧ w'.cell? ⟨q, 7, none⟩ = some (.int .i64 v7) ∧ w'.cell? ⟨q, 8, none⟩ = some (.int .i64 v8) ∧ w'.cell? ⟨q, 9, none⟩ = some (.int .i64 v9) ∧ w'.cell? ⟨q + 1, 0, none⟩ = some (.string K) ∧ w'.cell? ⟨q + 1, 1, none⟩ = some (.string V) ∧ w'.cell? ⟨q + 1, 2, none⟩ = some (.int .i64 s) ∧ w'.cell? ⟨q + 1, 3, none⟩ = some (.string R) ∧ w'.cell? ⟨q + 1, 4, none⟩ = some (.int .i64 k) ∧ w'.cell? ⟨q + 1, 5, none⟩ = some (.slice ao n ca) ∧ w'.cell? ⟨q + 1, 6, none⟩ = some (.slice ba m bc) ∧ w'.cell? ⟨q + 1, 7, none⟩ = some (.int .i64 a) ∧ w'.cell? ⟨q + 1, 8, none⟩ = some (.int .i64 g) ∧ w'.cell? ⟨q + 1 + 1, 0, none⟩ = some (.int .i64 p0) ∧ w'.cell? ⟨q + 1 + 1, 1, none⟩ = some (.int .i64 p1) ∧ w'.cell? ⟨q + 1 + 1, 2, none⟩ = some (.int .i64 p2) ∧ w'.cell? ⟨q + 1 + 1, 3, none⟩ = some (.int .i64 p3) ∧ w'.cell? ⟨z, 0, none⟩ = some (.string K) ∧ w'.cell? ⟨z, 1, none⟩ = some (.string V) ∧ w'.cell? ⟨z, 2, none⟩ = some (.int .i64 s) ∧ w'.cell? ⟨z, 3, none⟩ = some (.string R) ∧ w'.cell? ⟨z, 4, none⟩ = some (.int .i64 k) ∧ w'.cell? ⟨z, 5, none⟩ = some (.slice ao2 n ca2) ∧ w'.cell? ⟨z, 6, none⟩ = some (.slice ba2 m bc2) ∧ w'.cell? ⟨z, 7, none⟩ = some (.int .i64 a) ∧ w'.cell? ⟨z, 8, none⟩ = some (.int .i64 g)) := fun W h => (cS.out W _ _ h.1.1 (holdsF_mono hx h.2) (holdsB_mono hy h.2)).mono (fun e w' ⟨h1, h2⟩ => ⟨h1, juO_below h h2, juO_cells hq (juO_below h h2)⟩)
  clear k1 k3 cS hx hy C1 bw2
  have hqW : q < W.heap.size := by have := O.out.1.2.1.2; omega
  have hqW1 : q + 1 < W.heap.size := by have := (enC_open O.out.1.2.2.1).1; omega
  have hqW2 : q + 1 + 1 < W.heap.size := by have := (poC_open O.out.1.2.2.2.1).1; omega
  have hzW : z < W.heap.size := O.out.1.2.2.2.2.2
  obtain ⟨ce0, ce1, ce2, ce3, ce4, ce5, ce6, ce7, ce8, ce9, ce10, ce11, ce12, ce13, ce14, ce15, ce16, ce17, ce18, ce19, ce20, ce21, ce22, ce23, ce24, ce25, ce26, ce27, ce28, ce29, ce30, ce31⟩ := juO_cells hq O.out
  go_upto_region 4 with fail
  rw [← hW, ← hz, ← hq]
  clear hq hW hz
  go_region_held3 (fun w' => w'.cell? ⟨q, 0, none⟩ = some (.bool u0) ∧ w'.cell? ⟨q, 1, none⟩ = some (.bool u1) ∧ w'.cell? ⟨q, 2, none⟩ = some (.bool u2) ∧ w'.cell? ⟨q, 3, none⟩ = some (.bool u3) ∧ w'.cell? ⟨q, 4, none⟩ = some (.bool u4) ∧ w'.cell? ⟨q, 5, none⟩ = some (.bool u5) ∧ w'.cell? ⟨q, 6, none⟩ = some (.int .i64 v6) ∧ w'.cell? ⟨q, 7, none⟩ = some (.int .i64 v7) ∧ w'.cell? ⟨q, 8, none⟩ = some (.int .i64 v8) ∧ w'.cell? ⟨q, 9, none⟩ = some (.int .i64 v9) ∧ w'.cell? ⟨q + 1, 0, none⟩ = some (.string K) ∧ w'.cell? ⟨q + 1, 1, none⟩ = some (.string V) ∧ w'.cell? ⟨q + 1, 2, none⟩ = some (.int .i64 s) ∧ w'.cell? ⟨q + 1, 3, none⟩ = some (.string R) ∧ w'.cell? ⟨q + 1, 4, none⟩ = some (.int .i64 k) ∧ w'.cell? ⟨q + 1, 5, none⟩ = some (.slice ao n ca) ∧ w'.cell? ⟨q + 1, 6, none⟩ = some (.slice ba m bc) ∧ w'.cell? ⟨q + 1, 7, none⟩ = some (.int .i64 a) ∧ w'.cell? ⟨q + 1, 8, none⟩ = some (.int .i64 g) ∧ w'.cell? ⟨q + 1 + 1, 0, none⟩ = some (.int .i64 p0) ∧ w'.cell? ⟨q + 1 + 1, 1, none⟩ = some (.int .i64 p1) ∧ w'.cell? ⟨q + 1 + 1, 2, none⟩ = some (.int .i64 p2) ∧ w'.cell? ⟨q + 1 + 1, 3, none⟩ = some (.int .i64 p3) ∧ w'.cell? ⟨z, 0, none⟩ = some (.string K) ∧ w'.cell? ⟨z, 1, none⟩ = some (.string V) ∧ w'.cell? ⟨z, 2, none⟩ = some (.int .i64 s) ∧ w'.cell? ⟨z, 3, none⟩ = some (.string R) ∧ w'.cell? ⟨z, 4, none⟩ = some (.int .i64 k) ∧ w'.cell? ⟨z, 5, none⟩ = some (.slice ao2 n ca2) ∧ w'.cell? ⟨z, 6, none⟩ = some (.slice ba2 m bc2) ∧ w'.cell? ⟨z, 7, none⟩ = some (.int .i64 a) ∧ w'.cell? ⟨z, 8, none⟩ = some (.int .i64 g)) (go_keep)
    (first
      | (go_at_call 12; refine (q1.out _ ?_).mono ?_; (first | exact O.out | exact juO_drew O.out); rintro e w9 ⟨rfl, O, ce0, ce1, ce2, ce3, ce4, ce5, ce6, ce7, ce8, ce9, ce10, ce11, ce12, ce13, ce14, ce15, ce16, ce17, ce18, ce19, ce20, ce21, ce22, ce23, ce24, ce25, ce26, ce27, ce28, ce29, ce30, ce31⟩)
      | (go_at_call 13; refine (q2.out _ ?_).mono ?_; (first | exact O.out | exact juO_drew O.out); rintro e w9 ⟨rfl, O, ce0, ce1, ce2, ce3, ce4, ce5, ce6, ce7, ce8, ce9, ce10, ce11, ce12, ce13, ce14, ce15, ce16, ce17, ce18, ce19, ce20, ce21, ce22, ce23, ce24, ce25, ce26, ce27, ce28, ce29, ce30, ce31⟩)
      | (go_at_call 11; refine (q5.out _ ?_).mono ?_; (first | exact O.out | exact juO_drew O.out); rintro e w9 ⟨rfl, O, ce0, ce1, ce2, ce3, ce4, ce5, ce6, ce7, ce8, ce9, ce10, ce11, ce12, ce13, ce14, ce15, ce16, ce17, ce18, ce19, ce20, ce21, ce22, ce23, ce24, ce25, ce26, ce27, ce28, ce29, ce30, ce31⟩))
  all_goals
    go_wp2_with fail
    go_ret
    exact ⟨rfl, O.out.1.1⟩
end Go.Proofs.YtlhhcpbfjjhbfaaGreatDoor
