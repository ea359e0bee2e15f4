/- The walk of FreshServed. -/
import Derived.Test.YtlhhcpbfjjhbfaaDoorLawFhV
namespace Go.Proofs.YtlhhcpbfjjhbfaaDoor
open Go.RowKit
set_option maxRecDepth 20000 in
set_option maxHeartbeats 16000000 in
theorem servedW (e : En) (lv bv : Value) (p0 p1 p2 p3 : Int) (u0 u1 u2 u3 u4 u5 : Bool) (v6 v7 v8 v9 : Int) (now : Int) (w : World) (hF : HoldsF w lv e.r.fs) (hB : HoldsB w bv e.body) (hb : e.key.length + e.vary.length + e.r.r.length + bulkF e.r.fs + e.body.length ≤ 1048576) (E : EvD w) :
    Calls Tryd.prog 6 #[.agg #[.bool u0, .bool u1, .bool u2, .bool u3, .bool u4, .bool u5, .int .i64 v6, .int .i64 v7, .int .i64 v8, .int .i64 v9], entV e lv bv, .agg #[.int .i64 p0, .int .i64 p1, .int .i64 p2, .int .i64 p3], .int .i64 now] w fun e w' => e = .returned (.bool true) ∧ Below w.heap.size w w' := by
  obtain ⟨key, vary, ⟨s, r, k, fs⟩, body, a, g⟩ := e
  dsimp only at hb hF hB
  have hn : fs.length ≤ 2000000 := by have := bulkF_len fs; omega
  have hfs : bulkF fs ≤ 1048576 := by omega
  have hbd : body.length ≤ 2000000 := by omega
  obtain ⟨b0, b1, b2, b3, b4, b5, n6, n7, n8, n9, T⟩ := told_ex fs
  have jb : ∀ nm, (joinOf (valsOf fs nm)).length < 4294967281 := fun nm => by have h1 := join_len (valsOf fs nm); have h2 := bulk_vals fs nm; omega
  obtain ⟨d, D⟩ := dt_ex (joinOf (valsOf fs dab)) (jb dab)
  obtain ⟨x, X⟩ := dt_ex (joinOf (valsOf fs exb)) (jb exb)
  obtain ⟨y, Y⟩ := dt_ex (joinOf (valsOf fs lmb)) (jb lmb)
  have cA := hide' (fun W (h : Below w.heap.size w W) => aliveF W (evD_below E h))
  obtain ⟨ao, ca, _, _, el, _⟩ := holdsF_parts hF
  obtain ⟨ba, bc, eb, _⟩ := holdsB_parts hB
  subst el eb
  have cC := fun W (h : Below w.heap.size w W) => copyEC ⟨key, vary, ⟨s, r, k, fs⟩, body, a, g⟩ _ _ W (holdsF_mono hF h) (holdsB_mono hB h) hn (by dsimp only; omega)
  unfold entV at cC ⊢
  dsimp only at cC ⊢
  generalize (⟨key.toArray⟩ : ByteArray) = K at cC ⊢
  generalize (⟨vary.toArray⟩ : ByteArray) = V at cC ⊢
  generalize (⟨r.toArray⟩ : ByteArray) = R at cC ⊢
  have kj := fun ao2 ca2 ba2 bc2 nw W (h : Below w.heap.size w W) (hx : HoldsF W (.slice ao2 fs.length ca2) fs) => judgeFC K V R s k a g ao2 ba2 fs.length body.length ca2 bc2 p0 p1 p2 p3 u0 u1 u2 u3 u4 u5 v6 v7 v8 v9 nw fs b0 b1 b2 b3 b4 b5 n6 n7 n8 n9 d x y W hx hfs (evD_below E h) T D X Y
  have jI := judN_in u1 b1 v6 v8 v9 b4 n7 (lifeN n7 n6 (hasN fs exb) d x y s g p0 p2 p3 p1) (ageN d (secs (joinOf (valsOf fs agb))) a g now)
  have jS := judN_served u1 b1 v6 v8 v9 b4 n7 (lifeN n7 n6 (hasN fs exb) d x y s g p0 p2 p3 p1) (ageN d (secs (joinOf (valsOf fs agb))) a g now)
  have aI := ageN_in d (secs (joinOf (valsOf fs agb))) a g now D.2.1 (secs_in _).2
  have lI := lifeN_in n7 n6 (hasN fs exb) d x y s g p0 p2 p3 p1 T.i7 T.i6
  have k1 := fun ao2 ca2 ba2 bc2 => kj ao2 ca2 ba2 bc2 now
  have k2 := fun ao2 ca2 ba2 bc2 W (h : Below w.heap.size w W) (hx : HoldsF W (.slice ao2 fs.length ca2) fs) => ageFC K V R s k a g ao2 ba2 fs.length body.length ca2 bc2 now fs d W hx hfs (evD_below E h) D
  have k3 := fun ao2 ca2 ba2 bc2 W (h : Below w.heap.size w W) (hx : HoldsF W (.slice ao2 fs.length ca2) fs) => lifeFC K V R s k a g ao2 ba2 fs.length body.length ca2 bc2 p0 p1 p2 p3 fs b0 b1 b2 b3 b4 b5 n6 n7 n8 n9 d x y W hx hfs (evD_below E h) T D X Y
  have k4 := fun W (h : Below w.heap.size w W) => copyF (.slice ao fs.length ca) fs W (holdsF_mono hF h) (by omega)
  have k5 := fun ao2 ca2 W (hx : HoldsF W (.slice ao2 fs.length ca2) fs) => toldFC (.slice ao2 fs.length ca2) fs b0 b1 b2 b3 b4 b5 n6 n7 n8 n9 T W hx hfs
  clear kj
  generalize judN u1 b1 v6 v8 v9 b4 n7 (lifeN n7 n6 (hasN fs exb) d x y s g p0 p2 p3 p1) (ageN d (secs (joinOf (valsOf fs agb))) a g now) = J at k1 jI jS
  generalize ageN d (secs (joinOf (valsOf fs agb))) a g now = A at k2 jS aI
  generalize lifeN n7 n6 (hasN fs exb) d x y s g p0 p2 p3 p1 = L at k3 jS lI
  clear T D X Y E jb hb hn hfs hbd hF hB
  obtain ⟨j0, j1⟩ := jI
  obtain ⟨aI0, aI1⟩ := aI
  obtain ⟨lI0, lI1⟩ := lI
  replace jS := hide' jS
  generalize hn' : fs.length = n at cC k1 k2 k3 k4 k5 ⊢
  generalize hm' : body.length = m at cC k1 k2 k3 k4 k5 ⊢
  have HN := hide' hn'
  have HM := hide' hm'
  replace cC := hide' cC
  clear hn' hm'
  obtain ⟨q, hq⟩ : ∃ q, q = w.heap.size := ⟨_, rfl⟩
  have HQ := hide' hq
  have C0 := hide' (jd_lit w K V R s k a g ao ba n m ca bc p0 p1 p2 p3 u0 u1 u2 u3 u4 u5 v6 v7 v8 v9)
  have kC : Hid (∀ W, J3 w W K V R s k a g ao ba n m ca bc p0 p1 p2 p3 u0 u1 u2 u3 u4 u5 v6 v7 v8 v9 → Calls Tryd.prog 15 #[.agg #[.string K, .string V, .int .i64 s, .string R, .int .i64 k, .slice ao n ca, .slice ba m bc, .int .i64 a, .int .i64 g]] W fun e w' => ∃ ao2 ca2 ba2 bc2, e = .returned (.agg #[.string K, .string V, .int .i64 s, .string R, .int .i64 k, .slice ao2 n ca2, .slice ba2 m bc2, .int .i64 a, .int .i64 g]) ∧ Hid (J3H w w' K V R s k a g ao ba n m ca bc p0 p1 p2 p3 u0 u1 u2 u3 u4 u5 v6 v7 v8 v9 ao2 ca2 fs) ∧ w'.cell? ⟨q, 0, none⟩ = some (.bool u0) ∧ w'.cell? ⟨q, 1, none⟩ = some (.bool u1) ∧ w'.cell? ⟨q, 2, none⟩ = some (.bool u2) ∧ w'.cell? ⟨q, 3, none⟩ = some (.bool u3) ∧ w'.cell? ⟨q, 4, none⟩ = some (.bool u4) ∧ w'.cell? ⟨q, 5, none⟩ = some (.bool u5) ∧ w'.cell? ⟨q, 6, none⟩ = some (.int .i64 v6) ∧ w'.cell? ⟨q, 7, none⟩ = some (.int .i64 v7) ∧ w'.cell? ⟨q, 8, none⟩ = some (.int .i64 v8) ∧ w'.cell? ⟨q, 9, none⟩ = some (.int .i64 v9) ∧ w'.cell? ⟨q + 1, 0, none⟩ = some (.string K) ∧ w'.cell? ⟨q + 1, 1, none⟩ = some (.string V) ∧ w'.cell? ⟨q + 1, 2, none⟩ = some (.int .i64 s) ∧ w'.cell? ⟨q + 1, 3, none⟩ = some (.string R) ∧ w'.cell? ⟨q + 1, 4, none⟩ = some (.int .i64 k) ∧ w'.cell? ⟨q + 1, 5, none⟩ = some (.slice ao n ca) ∧ w'.cell? ⟨q + 1, 6, none⟩ = some (.slice ba m bc) ∧ w'.cell? ⟨q + 1, 7, none⟩ = some (.int .i64 a) ∧ w'.cell? ⟨q + 1, 8, none⟩ = some (.int .i64 g) ∧ w'.cell? ⟨q + 1 + 1, 0, none⟩ = some (.int .i64 p0) ∧ w'.cell? ⟨q + 1 + 1, 1, none⟩ = some (.int .i64 p1) ∧ w'.cell? ⟨q + 1 + 1, 2, none⟩ = some (.int .i64 p2) ∧ w'.cell? ⟨q + 1 + 1, 3, none⟩ = some (.int .i64 p3)) := fun W h => (cC.out W h.1).mono (fun e w' ⟨lu, bu, h1, h2, h3⟩ => by
    obtain ⟨ao2, ca2, _, _, el2, _⟩ := holdsF_parts (holdsF_own h2)
    obtain ⟨ba2, bc2, eb2, _⟩ := holdsB_parts (holdsB_own h3)
    rw [HN.out] at el2
    rw [HM.out] at eb2
    have hx := holdsF_own h2
    rw [el2, eb2] at h1
    rw [el2] at hx
    exact ⟨ao2, ca2, ba2, bc2, h1, ⟨j3_below h h2.2, hx⟩, j3_cells hq (j3_below h h2.2)⟩)
  have kJ : Hid (∀ ao2 ca2 ba2 bc2 W, J3H w W K V R s k a g ao ba n m ca bc p0 p1 p2 p3 u0 u1 u2 u3 u4 u5 v6 v7 v8 v9 ao2 ca2 fs → Calls Tryd.prog 16 #[.agg #[.bool u0, .bool u1, .bool u2, .bool u3, .bool u4, .bool u5, .int .i64 v6, .int .i64 v7, .int .i64 v8, .int .i64 v9], .agg #[.string K, .string V, .int .i64 s, .string R, .int .i64 k, .slice ao2 n ca2, .slice ba2 m bc2, .int .i64 a, .int .i64 g], .agg #[.int .i64 p0, .int .i64 p1, .int .i64 p2, .int .i64 p3], .int .i64 now] W fun e w' => e = .returned (.int .i64 J) ∧ Hid (J3 w w' K V R s k a g ao ba n m ca bc p0 p1 p2 p3 u0 u1 u2 u3 u4 u5 v6 v7 v8 v9) ∧ w'.cell? ⟨q, 0, none⟩ = some (.bool u0) ∧ w'.cell? ⟨q, 1, none⟩ = some (.bool u1) ∧ w'.cell? ⟨q, 2, none⟩ = some (.bool u2) ∧ w'.cell? ⟨q, 3, none⟩ = some (.bool u3) ∧ w'.cell? ⟨q, 4, none⟩ = some (.bool u4) ∧ w'.cell? ⟨q, 5, none⟩ = some (.bool u5) ∧ w'.cell? ⟨q, 6, none⟩ = some (.int .i64 v6) ∧ w'.cell? ⟨q, 7, none⟩ = some (.int .i64 v7) ∧ w'.cell? ⟨q, 8, none⟩ = some (.int .i64 v8) ∧ w'.cell? ⟨q, 9, none⟩ = some (.int .i64 v9) ∧ w'.cell? ⟨q + 1, 0, none⟩ = some (.string K) ∧ w'.cell? ⟨q + 1, 1, none⟩ = some (.string V) ∧ w'.cell? ⟨q + 1, 2, none⟩ = some (.int .i64 s) ∧ w'.cell? ⟨q + 1, 3, none⟩ = some (.string R) ∧ w'.cell? ⟨q + 1, 4, none⟩ = some (.int .i64 k) ∧ w'.cell? ⟨q + 1, 5, none⟩ = some (.slice ao n ca) ∧ w'.cell? ⟨q + 1, 6, none⟩ = some (.slice ba m bc) ∧ w'.cell? ⟨q + 1, 7, none⟩ = some (.int .i64 a) ∧ w'.cell? ⟨q + 1, 8, none⟩ = some (.int .i64 g) ∧ w'.cell? ⟨q + 1 + 1, 0, none⟩ = some (.int .i64 p0) ∧ w'.cell? ⟨q + 1 + 1, 1, none⟩ = some (.int .i64 p1) ∧ w'.cell? ⟨q + 1 + 1, 2, none⟩ = some (.int .i64 p2) ∧ w'.cell? ⟨q + 1 + 1, 3, none⟩ = some (.int .i64 p3)) := fun ao2 ca2 ba2 bc2 W h => (k1 ao2 ca2 ba2 bc2 W h.1.1 h.2).mono (fun e w' ⟨h1, h2⟩ => ⟨h1, j3_below h.1 h2, j3_cells hq (j3_below h.1 h2)⟩)
  have kA : Hid (∀ ao2 ca2 ba2 bc2 W, J3H w W K V R s k a g ao ba n m ca bc p0 p1 p2 p3 u0 u1 u2 u3 u4 u5 v6 v7 v8 v9 ao2 ca2 fs → Calls Tryd.prog 14 #[.agg #[.string K, .string V, .int .i64 s, .string R, .int .i64 k, .slice ao2 n ca2, .slice ba2 m bc2, .int .i64 a, .int .i64 g], .int .i64 now] W fun e w' => e = .returned (.int .i64 A) ∧ Hid (J3 w w' K V R s k a g ao ba n m ca bc p0 p1 p2 p3 u0 u1 u2 u3 u4 u5 v6 v7 v8 v9) ∧ w'.cell? ⟨q, 0, none⟩ = some (.bool u0) ∧ w'.cell? ⟨q, 1, none⟩ = some (.bool u1) ∧ w'.cell? ⟨q, 2, none⟩ = some (.bool u2) ∧ w'.cell? ⟨q, 3, none⟩ = some (.bool u3) ∧ w'.cell? ⟨q, 4, none⟩ = some (.bool u4) ∧ w'.cell? ⟨q, 5, none⟩ = some (.bool u5) ∧ w'.cell? ⟨q, 6, none⟩ = some (.int .i64 v6) ∧ w'.cell? ⟨q, 7, none⟩ = some (.int .i64 v7) ∧ w'.cell? ⟨q, 8, none⟩ = some (.int .i64 v8) ∧ w'.cell? ⟨q, 9, none⟩ = some (.int .i64 v9) ∧ w'.cell? ⟨q + 1, 0, none⟩ = some (.string K) ∧ w'.cell? ⟨q + 1, 1, none⟩ = some (.string V) ∧ w'.cell? ⟨q + 1, 2, none⟩ = some (.int .i64 s) ∧ w'.cell? ⟨q + 1, 3, none⟩ = some (.string R) ∧ w'.cell? ⟨q + 1, 4, none⟩ = some (.int .i64 k) ∧ w'.cell? ⟨q + 1, 5, none⟩ = some (.slice ao n ca) ∧ w'.cell? ⟨q + 1, 6, none⟩ = some (.slice ba m bc) ∧ w'.cell? ⟨q + 1, 7, none⟩ = some (.int .i64 a) ∧ w'.cell? ⟨q + 1, 8, none⟩ = some (.int .i64 g) ∧ w'.cell? ⟨q + 1 + 1, 0, none⟩ = some (.int .i64 p0) ∧ w'.cell? ⟨q + 1 + 1, 1, none⟩ = some (.int .i64 p1) ∧ w'.cell? ⟨q + 1 + 1, 2, none⟩ = some (.int .i64 p2) ∧ w'.cell? ⟨q + 1 + 1, 3, none⟩ = some (.int .i64 p3)) := fun ao2 ca2 ba2 bc2 W h => (k2 ao2 ca2 ba2 bc2 W h.1.1 h.2).mono (fun e w' ⟨h1, h2⟩ => ⟨h1, j3_below h.1 h2, j3_cells hq (j3_below h.1 h2)⟩)
  have kL : Hid (∀ ao2 ca2 ba2 bc2 W, J3H w W K V R s k a g ao ba n m ca bc p0 p1 p2 p3 u0 u1 u2 u3 u4 u5 v6 v7 v8 v9 ao2 ca2 fs → Calls Tryd.prog 17 #[.agg #[.string K, .string V, .int .i64 s, .string R, .int .i64 k, .slice ao2 n ca2, .slice ba2 m bc2, .int .i64 a, .int .i64 g], .agg #[.int .i64 p0, .int .i64 p1, .int .i64 p2, .int .i64 p3]] W fun e w' => e = .returned (.int .i64 L) ∧ Hid (J3 w w' K V R s k a g ao ba n m ca bc p0 p1 p2 p3 u0 u1 u2 u3 u4 u5 v6 v7 v8 v9) ∧ w'.cell? ⟨q, 0, none⟩ = some (.bool u0) ∧ w'.cell? ⟨q, 1, none⟩ = some (.bool u1) ∧ w'.cell? ⟨q, 2, none⟩ = some (.bool u2) ∧ w'.cell? ⟨q, 3, none⟩ = some (.bool u3) ∧ w'.cell? ⟨q, 4, none⟩ = some (.bool u4) ∧ w'.cell? ⟨q, 5, none⟩ = some (.bool u5) ∧ w'.cell? ⟨q, 6, none⟩ = some (.int .i64 v6) ∧ w'.cell? ⟨q, 7, none⟩ = some (.int .i64 v7) ∧ w'.cell? ⟨q, 8, none⟩ = some (.int .i64 v8) ∧ w'.cell? ⟨q, 9, none⟩ = some (.int .i64 v9) ∧ w'.cell? ⟨q + 1, 0, none⟩ = some (.string K) ∧ w'.cell? ⟨q + 1, 1, none⟩ = some (.string V) ∧ w'.cell? ⟨q + 1, 2, none⟩ = some (.int .i64 s) ∧ w'.cell? ⟨q + 1, 3, none⟩ = some (.string R) ∧ w'.cell? ⟨q + 1, 4, none⟩ = some (.int .i64 k) ∧ w'.cell? ⟨q + 1, 5, none⟩ = some (.slice ao n ca) ∧ w'.cell? ⟨q + 1, 6, none⟩ = some (.slice ba m bc) ∧ w'.cell? ⟨q + 1, 7, none⟩ = some (.int .i64 a) ∧ w'.cell? ⟨q + 1, 8, none⟩ = some (.int .i64 g) ∧ w'.cell? ⟨q + 1 + 1, 0, none⟩ = some (.int .i64 p0) ∧ w'.cell? ⟨q + 1 + 1, 1, none⟩ = some (.int .i64 p1) ∧ w'.cell? ⟨q + 1 + 1, 2, none⟩ = some (.int .i64 p2) ∧ w'.cell? ⟨q + 1 + 1, 3, none⟩ = some (.int .i64 p3)) := fun ao2 ca2 ba2 bc2 W h => (k3 ao2 ca2 ba2 bc2 W h.1.1 h.2).mono (fun e w' ⟨h1, h2⟩ => ⟨h1, j3_below h.1 h2, j3_cells hq (j3_below h.1 h2)⟩)
  have kF : Hid (∀ W, J3 w W K V R s k a g ao ba n m ca bc p0 p1 p2 p3 u0 u1 u2 u3 u4 u5 v6 v7 v8 v9 → Calls Tryd.prog 19 #[.slice ao n ca] W fun e w' => ∃ ao2 ca2, e = .returned (.slice ao2 n ca2) ∧ Hid (J3H w w' K V R s k a g ao ba n m ca bc p0 p1 p2 p3 u0 u1 u2 u3 u4 u5 v6 v7 v8 v9 ao2 ca2 fs)) := fun W h => (k4 W h.1).mono (fun e w' ⟨lu, h1, h2⟩ => by
    obtain ⟨ao2, ca2, _, _, el2, _⟩ := holdsF_parts (holdsF_own h2)
    rw [HN.out] at el2
    have hx := holdsF_own h2
    rw [el2] at h1 hx
    exact ⟨ao2, ca2, h1, j3_below h h2.2, hx⟩)
  have kP : Hid (∀ ao2 ca2 W, J3H w W K V R s k a g ao ba n m ca bc p0 p1 p2 p3 u0 u1 u2 u3 u4 u5 v6 v7 v8 v9 ao2 ca2 fs → Calls Tryd.prog 18 #[.slice ao2 n ca2] W fun e w' => e = .returned (.agg #[.bool b0, .bool b1, .bool b2, .bool b3, .bool b4, .bool b5, .int .i64 n6, .int .i64 n7, .int .i64 n8, .int .i64 n9]) ∧ Hid (J3 w w' K V R s k a g ao ba n m ca bc p0 p1 p2 p3 u0 u1 u2 u3 u4 u5 v6 v7 v8 v9)) := fun ao2 ca2 W h => (k5 ao2 ca2 W h.2).mono (fun e w' ⟨h1, h2⟩ => ⟨h1, j3_below h.1 h2⟩)
  clear k1 k2 k3 k4 k5 cC
  go_enter Tryd.func6, Tryd.ntmps6
  go_wp2_with fail
  refine (cA.out _ C0.out.1).mono ?_
  rintro e w1 ⟨rfl, bw1⟩
  have O : Hid (J3 w w1 K V R s k a g ao ba n m ca bc p0 p1 p2 p3 u0 u1 u2 u3 u4 u5 v6 v7 v8 v9) := j3_below C0.out bw1
  clear bw1 C0 cA
  obtain ⟨ce0, ce1, ce2, ce3, ce4, ce5, ce6, ce7, ce8, ce9, ce10, ce11, ce12, ce13, ce14, ce15, ce16, ce17, ce18, ce19, ce20, ce21, ce22⟩ := j3_cells hq O.out
  have qz : q < w1.heap.size := by have := O.out.2.1.2; have := HQ.out; omega
  have qz1 : q + 1 < w1.heap.size := by have := (enC_open O.out.2.2.1).1; have := HQ.out; omega
  have qz2 : q + 1 + 1 < w1.heap.size := by have := (poC_open O.out.2.2.2).1; have := HQ.out; omega
  rw [← hq]
  clear hq
  go_upto_region 3 with fail
  go_region_held3 (fun w' => w'.cell? ⟨q, 0, none⟩ = some (.bool u0) ∧ w'.cell? ⟨q, 1, none⟩ = some (.bool u1) ∧ w'.cell? ⟨q, 2, none⟩ = some (.bool u2) ∧ w'.cell? ⟨q, 3, none⟩ = some (.bool u3) ∧ w'.cell? ⟨q, 4, none⟩ = some (.bool u4) ∧ w'.cell? ⟨q, 5, none⟩ = some (.bool u5) ∧ w'.cell? ⟨q, 6, none⟩ = some (.int .i64 v6) ∧ w'.cell? ⟨q, 7, none⟩ = some (.int .i64 v7) ∧ w'.cell? ⟨q, 8, none⟩ = some (.int .i64 v8) ∧ w'.cell? ⟨q, 9, none⟩ = some (.int .i64 v9) ∧ w'.cell? ⟨q + 1, 0, none⟩ = some (.string K) ∧ w'.cell? ⟨q + 1, 1, none⟩ = some (.string V) ∧ w'.cell? ⟨q + 1, 2, none⟩ = some (.int .i64 s) ∧ w'.cell? ⟨q + 1, 3, none⟩ = some (.string R) ∧ w'.cell? ⟨q + 1, 4, none⟩ = some (.int .i64 k) ∧ w'.cell? ⟨q + 1, 5, none⟩ = some (.slice ao n ca) ∧ w'.cell? ⟨q + 1, 6, none⟩ = some (.slice ba m bc) ∧ w'.cell? ⟨q + 1, 7, none⟩ = some (.int .i64 a) ∧ w'.cell? ⟨q + 1, 8, none⟩ = some (.int .i64 g) ∧ w'.cell? ⟨q + 1 + 1, 0, none⟩ = some (.int .i64 p0) ∧ w'.cell? ⟨q + 1 + 1, 1, none⟩ = some (.int .i64 p1) ∧ w'.cell? ⟨q + 1 + 1, 2, none⟩ = some (.int .i64 p2) ∧ w'.cell? ⟨q + 1 + 1, 3, none⟩ = some (.int .i64 p3)) (go_keep)
    (first
      | (go_at_call 15; refine (kC.out _ ?_).mono ?_; (first | exact O.out | exact j3_drew O.out); rintro e w8 ⟨ao2, ca2, ba2, bc2, rfl, OH, ce0, ce1, ce2, ce3, ce4, ce5, ce6, ce7, ce8, ce9, ce10, ce11, ce12, ce13, ce14, ce15, ce16, ce17, ce18, ce19, ce20, ce21, ce22⟩)
      | (go_at_call 16; refine (kJ.out _ _ _ _ _ ?_).mono ?_; (first | exact OH.out | exact j3H_drew OH.out); rintro e w9 ⟨rfl, O, ce0, ce1, ce2, ce3, ce4, ce5, ce6, ce7, ce8, ce9, ce10, ce11, ce12, ce13, ce14, ce15, ce16, ce17, ce18, ce19, ce20, ce21, ce22⟩))
  all_goals
    have qz : q < w9.heap.size := by have := O.out.2.1.2; have := HQ.out; omega
    have qz1 : q + 1 < w9.heap.size := by have := (enC_open O.out.2.2.1).1; have := HQ.out; omega
    have qz2 : q + 1 + 1 < w9.heap.size := by have := (poC_open O.out.2.2.2).1; have := HQ.out; omega
    go_wp2_with fail
    refine (kC.out _ O.out).mono ?_
    rintro e w8 ⟨ao2, ca2, ba2, bc2, rfl, OH, ce0, ce1, ce2, ce3, ce4, ce5, ce6, ce7, ce8, ce9, ce10, ce11, ce12, ce13, ce14, ce15, ce16, ce17, ce18, ce19, ce20, ce21, ce22⟩
    go_wp2_with fail
    refine (kA.out _ _ _ _ _ OH.out).mono ?_
    rintro e w9 ⟨rfl, O, ce0, ce1, ce2, ce3, ce4, ce5, ce6, ce7, ce8, ce9, ce10, ce11, ce12, ce13, ce14, ce15, ce16, ce17, ce18, ce19, ce20, ce21, ce22⟩
    have qz : q < w9.heap.size := by have := O.out.2.1.2; have := HQ.out; omega
    have qz1 : q + 1 < w9.heap.size := by have := (enC_open O.out.2.2.1).1; have := HQ.out; omega
    have qz2 : q + 1 + 1 < w9.heap.size := by have := (poC_open O.out.2.2.2).1; have := HQ.out; omega
    go_upto_region 5 with fail
    go_region_held3 (fun w' => w'.cell? ⟨q, 0, none⟩ = some (.bool u0) ∧ w'.cell? ⟨q, 1, none⟩ = some (.bool u1) ∧ w'.cell? ⟨q, 2, none⟩ = some (.bool u2) ∧ w'.cell? ⟨q, 3, none⟩ = some (.bool u3) ∧ w'.cell? ⟨q, 4, none⟩ = some (.bool u4) ∧ w'.cell? ⟨q, 5, none⟩ = some (.bool u5) ∧ w'.cell? ⟨q, 6, none⟩ = some (.int .i64 v6) ∧ w'.cell? ⟨q, 7, none⟩ = some (.int .i64 v7) ∧ w'.cell? ⟨q, 8, none⟩ = some (.int .i64 v8) ∧ w'.cell? ⟨q, 9, none⟩ = some (.int .i64 v9) ∧ w'.cell? ⟨q + 1, 0, none⟩ = some (.string K) ∧ w'.cell? ⟨q + 1, 1, none⟩ = some (.string V) ∧ w'.cell? ⟨q + 1, 2, none⟩ = some (.int .i64 s) ∧ w'.cell? ⟨q + 1, 3, none⟩ = some (.string R) ∧ w'.cell? ⟨q + 1, 4, none⟩ = some (.int .i64 k) ∧ w'.cell? ⟨q + 1, 5, none⟩ = some (.slice ao n ca) ∧ w'.cell? ⟨q + 1, 6, none⟩ = some (.slice ba m bc) ∧ w'.cell? ⟨q + 1, 7, none⟩ = some (.int .i64 a) ∧ w'.cell? ⟨q + 1, 8, none⟩ = some (.int .i64 g) ∧ w'.cell? ⟨q + 1 + 1, 0, none⟩ = some (.int .i64 p0) ∧ w'.cell? ⟨q + 1 + 1, 1, none⟩ = some (.int .i64 p1) ∧ w'.cell? ⟨q + 1 + 1, 2, none⟩ = some (.int .i64 p2) ∧ w'.cell? ⟨q + 1 + 1, 3, none⟩ = some (.int .i64 p3)) (go_keep)
      (first
        | (go_at_call 15; refine (kC.out _ ?_).mono ?_; (first | exact O.out | exact j3_drew O.out); rintro e w8 ⟨ao2, ca2, ba2, bc2, rfl, OH, ce0, ce1, ce2, ce3, ce4, ce5, ce6, ce7, ce8, ce9, ce10, ce11, ce12, ce13, ce14, ce15, ce16, ce17, ce18, ce19, ce20, ce21, ce22⟩)
        | (go_at_call 17; refine (kL.out _ _ _ _ _ ?_).mono ?_; (first | exact OH.out | exact j3H_drew OH.out); rintro e w9 ⟨rfl, O, ce0, ce1, ce2, ce3, ce4, ce5, ce6, ce7, ce8, ce9, ce10, ce11, ce12, ce13, ce14, ce15, ce16, ce17, ce18, ce19, ce20, ce21, ce22⟩))
    all_goals
      have qz : q < w9.heap.size := by have := O.out.2.1.2; have := HQ.out; omega
      have qz1 : q + 1 < w9.heap.size := by have := (enC_open O.out.2.2.1).1; have := HQ.out; omega
      have qz2 : q + 1 + 1 < w9.heap.size := by have := (poC_open O.out.2.2.2).1; have := HQ.out; omega
      go_wp2_with fail
      refine (kF.out _ O.out).mono ?_
      rintro e wf ⟨ao3, ca3, rfl, OF⟩
      go_wp2_with fail
      refine (kP.out _ _ _ OF.out).mono ?_
      rintro e wp ⟨rfl, OP⟩
      have OZ := hide' (j3_below OP.out (below_alloc' wp (.cells #[.bool b0, .bool b1, .bool b2, .bool b3, .bool b4, .bool b5, .int .i64 n6, .int .i64 n7, .int .i64 n8, .int .i64 n9] 40)))
      have hzz := j3_cells HQ.out OZ.out
      obtain ⟨ce0, ce1, ce2, ce3, ce4, ce5, ce6, ce7, ce8, ce9, ce10, ce11, ce12, ce13, ce14, ce15, ce16, ce17, ce18, ce19, ce20, ce21, ce22⟩ := hzz
      clear OF OP O kC kJ kA kL kF kP
      by_cases hJ : J = 2
      · subst hJ
        go_wp2_with fail
        go_ret
        exact ⟨rfl, OZ.out.1⟩
      obtain ⟨s1, s2, s3, s4⟩ := jS.out hJ
      obtain ⟨su, sb⟩ := Bool.or_eq_false_iff.1 s1
      subst su sb
      by_cases gv6 : v6 = -1
      · subst gv6
        by_cases gv8 : v8 = -1
        · subst gv8
          rcases s4 with ⟨e0, e1⟩ | ⟨e0, e1, e2, e3, e4⟩
          · subst e0
            go_wp2_with fail
            go_ret
            exact ⟨by first | rfl | (simp; omega), OZ.out.1⟩
          · subst e0 e2 e3
            go_wp2_with fail
            go_ret
            exact ⟨by first | rfl | (simp; omega), OZ.out.1⟩
        · have gbv8 : (v8 != -1) = true := by simpa using gv8
          have gcv8 : ¬ L - A < v8 := fun x => s3 ⟨gv8, x⟩
          rcases s4 with ⟨e0, e1⟩ | ⟨e0, e1, e2, e3, e4⟩
          · subst e0
            go_wp2_with fail
            go_ret
            exact ⟨by first | rfl | (simp; omega), OZ.out.1⟩
          · subst e0 e2 e3
            go_wp2_with fail
            go_ret
            exact ⟨by first | rfl | (simp; omega), OZ.out.1⟩
      · have gbv6 : (v6 != -1) = true := by simpa using gv6
        have gcv6 : ¬ v6 < A := fun x => s2 ⟨gv6, x⟩
        by_cases gv8 : v8 = -1
        · subst gv8
          rcases s4 with ⟨e0, e1⟩ | ⟨e0, e1, e2, e3, e4⟩
          · subst e0
            go_wp2_with fail
            go_ret
            exact ⟨by first | rfl | (simp; omega), OZ.out.1⟩
          · subst e0 e2 e3
            go_wp2_with fail
            go_ret
            exact ⟨by first | rfl | (simp; omega), OZ.out.1⟩
        · have gbv8 : (v8 != -1) = true := by simpa using gv8
          have gcv8 : ¬ L - A < v8 := fun x => s3 ⟨gv8, x⟩
          rcases s4 with ⟨e0, e1⟩ | ⟨e0, e1, e2, e3, e4⟩
          · subst e0
            go_wp2_with fail
            go_ret
            exact ⟨by first | rfl | (simp; omega), OZ.out.1⟩
          · subst e0 e2 e3
            go_wp2_with fail
            go_ret
            exact ⟨by first | rfl | (simp; omega), OZ.out.1⟩
end Go.Proofs.YtlhhcpbfjjhbfaaDoor
