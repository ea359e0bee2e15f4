/- Copies of requests and responses; two that are alike are told as such. How much a list that came in holds; where its cells lie. A list of fields, and a list of texts, that came in: what the reading says of them. -/
import Derived.Deep.SlicePairs
import Derived.SliceStrings
import Derived.SizedLaws
import Derived.ChangeOld
import Derived.OpenShut
import Derived.ChangeSlices
import Derived.Test.YtibjcofbhldenaaGreatDoorZ02
import Derived.Test.YtibjcofbhldenaaGreatDoorZ01
namespace Go.Proofs.YtibjcofbhldenaaGreatDoor
open Go.RowKit
theorem sameFe (va vb : Value) (xs : FL) (w : World) (ha : HoldsF w va xs) (hb : HoldsF w vb xs) (la : xs.length ≤ 1000000000000000) :
    Calls Tryz.prog 118 #[va, vb] w fun e w' => e = .returned (.bool true) ∧ Below w.heap.size w w' := by
  refine (sameF va vb xs xs w ha hb la la).mono ?_
  rintro e w' ⟨rfl, n, rfl⟩
  exact ⟨by simp, below_drewN _ _⟩
set_option maxRecDepth 20000 in
set_option maxHeartbeats 2000000 in
theorem sameRs (s k : Int) (r : List UInt8) (fs : FL) (la lb : Value) (w : World) (ha : HoldsF w la fs) (hb : HoldsF w lb fs) (hl : fs.length ≤ 2000000) :
    Calls Tryz.prog 68 #[.agg #[.int .i64 s, .string ⟨r.toArray⟩, .int .i64 k, la], .agg #[.int .i64 s, .string ⟨r.toArray⟩, .int .i64 k, lb]] w fun e w' => e = .returned (.bool true) ∧ Below w.heap.size w w' := by
  obtain ⟨a1, c1, b1, o1, e1, _⟩ := holdsF_parts ha
  obtain ⟨a2, c2, b2, o2, e2, _⟩ := holdsF_parts hb
  subst e1 e2
  have b0 := below_alloc' w (.cells #[.int .i64 s, .string ⟨r.toArray⟩, .int .i64 k, .slice a1 fs.length c1] 56)
  have b1' := below_alloc' (w.alloc (.cells #[.int .i64 s, .string ⟨r.toArray⟩, .int .i64 k, .slice a1 fs.length c1] 56)) (.cells #[.int .i64 s, .string ⟨r.toArray⟩, .int .i64 k, .slice a2 fs.length c2] 56)
  have bb := bt' b0 b1'
  have cS := hide' (sameFe _ _ fs _ (holdsF_mono ha bb) (holdsF_mono hb bb) (by omega))
  have BB := hide' bb
  clear ha hb b0 b1' bb
  generalize fs.length = n at cS BB ⊢
  go_enter Tryz.func68, Tryz.ntmps68
  go_wp2_with fail
  refine cS.out.mono ?_
  rintro e w' ⟨rfl, b⟩
  have B' := hide' (bt' BB.out b)
  clear b
  go_wp2_with fail
  go_ret
  exact ⟨rfl, B'.out⟩
set_option maxRecDepth 20000 in
set_option maxHeartbeats 4000000 in
theorem copyRs (s k : Int) (r : List UInt8) (fs : FL) (lv : Value) (w : World) (hv : HoldsF w lv fs) (hl : fs.length ≤ 2000000) :
    Calls Tryz.prog 58 #[.agg #[.int .i64 s, .string ⟨r.toArray⟩, .int .i64 k, lv]] w fun e w' => ∃ u, e = .returned (.agg #[.int .i64 s, .string ⟨r.toArray⟩, .int .i64 k, u]) ∧ OwnF w u fs w' := by
  obtain ⟨la, lc, lb, lo, hlv, _⟩ := holdsF_parts hv
  subst hlv
  have b1 := below_alloc' w (.cells #[.int .i64 s, .string ⟨r.toArray⟩, .int .i64 k, .slice la fs.length lc] 56)
  have b2 := below_alloc' (w.alloc (.cells #[.int .i64 s, .string ⟨r.toArray⟩, .int .i64 k, .slice la fs.length lc] 56)) (.cells #[.int .i64 0, .string ⟨#[]⟩, .int .i64 0, .slice none 0 0] 56)
  have Q1 := quad_below (quad_lit w (.int .i64 s) (.string ⟨r.toArray⟩) (.int .i64 k) (.slice la fs.length lc) 56) b2
  have Q2 := quad_lit (w.alloc (.cells #[.int .i64 s, .string ⟨r.toArray⟩, .int .i64 k, .slice la fs.length lc] 56)) (.int .i64 0) (.string ⟨#[]⟩) (.int .i64 0) (.slice none 0 0) 56
  have z1 : (w.alloc (.cells #[.int .i64 s, .string ⟨r.toArray⟩, .int .i64 k, .slice la fs.length lc] 56)).heap.size = w.heap.size + 1 := by simp
  rw [z1] at Q2
  have hv2 := holdsF_mono hv (bt' b1 b2)
  have B2 := hide' (bt' b1 b2)
  obtain ⟨W2, hW2⟩ : ∃ W2, W2 = (w.alloc (.cells #[.int .i64 s, .string ⟨r.toArray⟩, .int .i64 k, .slice la fs.length lc] 56)).alloc (.cells #[.int .i64 0, .string ⟨#[]⟩, .int .i64 0, .slice none 0 0] 56) := ⟨_, rfl⟩
  have HW2 := hide' hW2
  have zs : Hid (W2.heap.size = w.heap.size + 2) := by unfold Hid; rw [hW2]; simp
  rw [← hW2] at Q1 Q2 hv2 B2
  have HQ1 := hide' Q1
  have HQ2 := hide' Q2
  have cC := hide' (copyF _ fs _ hv2 (by omega))
  obtain ⟨i0, i1, i2, i3, _⟩ := Q1
  clear hv b1 b2 Q2 hv2 hW2 z1
  go_enter Tryz.func58, Tryz.ntmps58
  go_wp2_with fail
  rw [← HW2.out]
  refine cC.out.mono ?_
  rintro e w3 ⟨u, rfl, ho⟩
  obtain ⟨ua, uc, ub, uo, hu, _⟩ := holdsF_parts (holdsF_own ho)
  subst hu
  have P3 := hide' (quad_below HQ1.out ho.2)
  have Q3 := hide' (quad_below HQ2.out ho.2)
  have B3 := hide' (bt' B2.out ho.2)
  have R3 := hide' ho.1
  clear ho i0 i1 i2 i3 cC HQ1 HQ2
  have P4 := hide' (quad_set3 P3.out (.slice ua fs.length uc))
  have Q4 := hide' (quad_other (o := 3) Q3.out (show w.heap.size + 1 ≠ w.heap.size by omega) (.slice ua fs.length uc))
  have B4 := hide' (B3.out.setCell (p := ⟨w.heap.size, 3, none⟩) (Nat.le_refl _) (.slice ua fs.length uc))
  have R4 := hide' (row_poke (o := 3) (x := .slice ua fs.length uc) R3.out (b := w.heap.size) (by rw [zs.out]; omega))
  obtain ⟨h0, h1, h2, h3, e0, e1, e2, e3, hz⟩ := P3.out
  obtain ⟨k0, k1, k2, k3, d0, d1, d2, d3, dz⟩ := P4.out
  obtain ⟨j0, j1, j2, j3, f0, f1, f2, f3, fz⟩ := Q4.out
  go_wp2_with fail
  obtain ⟨q0, q1, q2, q3⟩ := quad_store Q4.out (.int .i64 s) (.string ⟨r.toArray⟩) (.int .i64 k) (.slice ua fs.length uc)
  have qb := put4_below B4.out (Nat.le_succ _) (.int .i64 s) (.string ⟨r.toArray⟩) (.int .i64 k) (.slice ua fs.length uc)
  have qr := row_base (row_put (v0 := .int .i64 s) (v1 := .string ⟨r.toArray⟩) (v2 := .int .i64 k) (v3 := .slice ua fs.length uc) R4.out (b := w.heap.size + 1) (by rw [zs.out]; omega)) B2.out.size
  unfold put4 at q0 q1 q2 q3 qb qr
  exact bodyPost_ret (v := .agg #[.int .i64 s, .string ⟨r.toArray⟩, .int .i64 k, .slice ua fs.length uc]) (by simp [results, Tryz.results58, go_sem, q0, q1, q2, q3]) rfl ⟨.slice ua fs.length uc, rfl, qr, qb⟩
end Go.Proofs.YtibjcofbhldenaaGreatDoor
namespace Go.Proofs.YtibjcofbhldenaaGreatDoor
open Go.ChangeShapes Go.WideShapes Go.ChangeAt Go.RowKit
/-- how many letters and values fields hold -/
def bulkF : FL → Nat
  | [] => 0
  | f :: r => f.1.length + f.2.length + 3 + bulkF r
theorem weight_all {H : Type} {P : Program} {e : TypeId} {d : DataW H} {n : Nat} (hn : n ∈ d.weights P e) : ∀ {l : List (DataW H)}, d ∈ l → n ∈ DataW.weightsAll P e l
  | [], h => by cases h
  | x :: r, h => by
    simp only [DataW.weightsAll, List.mem_append]
    rcases List.mem_cons.1 h with rfl | h
    · exact Or.inl hn
    · exact Or.inr (weight_all hn h)
theorem addr_at {W : World} {a : Addr} {u : Value} (h : W.cell? (a.add 0) = some u) : ∃ b off, a = ⟨b, off, none⟩ ∧ b < W.heap.size := by
  obtain ⟨b, off, spot⟩ := a
  have hspot : spot = none := by simpa [Addr.add] using World.cell?_spot h
  subst hspot
  refine ⟨b, off, rfl, ?_⟩
  rcases Nat.lt_or_ge b W.heap.size with hlt | hge
  · exact hlt
  · rw [Go.WideShapes.add_plain] at h
    unfold World.cell? at h
    rw [Array.getElem?_eq_none hge] at h
    cases h
theorem laidOut : laidOutB Tryz.prog = true := by kernel_rfl
theorem bulk_lits {H : Type} (l : List Int) : Rows.uptoBulkAll (H := H) (lits .u8 l) = l.length := by
  induction l with
  | nil => rfl
  | cons f r ih =>
    show Rows.uptoBulk (.lit (.int .u8 f)) + Rows.uptoBulkAll (lits .u8 r) = _
    rw [ih]
    simp only [Rows.uptoBulk, List.length_cons]
    omega
theorem byte_wf {n : Int} (h : (Lit.int .u8 n).wf = true) : 0 ≤ n ∧ n < 256 := by
  have h1 : IntKind.u8.min = 0 := rfl
  have h2 : IntKind.u8.max = 255 := rfl
  simp only [Lit.wf, Bool.and_eq_true, decide_eq_true_eq] at h
  omega
end Go.Proofs.YtibjcofbhldenaaGreatDoor
namespace Go.Proofs.YtibjcofbhldenaaGreatDoor
open Go.ChangeShapes Go.WideShapes Go.ChangeAt Go.RowKit
def strOf : Value → ByteArray
  | .string s => s
  | _ => ByteArray.empty
def fieldD {H : Type} (f : List UInt8 × List UInt8) : DataW H := .agg [.lit (.string f.1), .lit (.string f.2)]
theorem bulk_fieldD {H : Type} (fs : FL) : Rows.uptoBulkAll (H := H) (fs.map fieldD) = bulkF fs := by
  induction fs with
  | nil => rfl
  | cons f r ih =>
    show Rows.uptoBulk (fieldD f) + Rows.uptoBulkAll (r.map fieldD) = _
    rw [ih]
    simp only [fieldD, Rows.uptoBulk, Rows.uptoBulkAll, bulkF]
    omega
set_option maxRecDepth 100000 in
theorem open_fieldsS {H : Type} {enc : TypeId × Value → H} {W : World} {v : Value} {d : DataW H} {p : List MemPlace} (hform : ∃ a l c, v = .slice a l c) (h : DataW.Trod enc Tryz.prog W 0 (fun _ => true) true 54 v d p) :
    ∃ fs : FL, HoldsF W v fs ∧ bulkF fs + 1 ≤ Rows.uptoBulk d ∧ ((∀ n ∈ d.weights Tryz.prog 54, n ≤ reachBytes) → fs.length * 32 ≤ reachBytes ∧ ∀ f ∈ fs, f.1.length ≤ reachBytes ∧ f.2.length ≤ reachBytes) := by
  obtain ⟨a0, len0, cap0, rfl⟩ := hform
  obtain ⟨fuel, hf⟩ := h
  rcases Go.Deep.open_slice_pairs Tryz.underlying54 Tryz.underlying208 (by kernel_rfl) rfl rfl (by kernel_rfl) (by kernel_rfl) hf with ⟨hcs, hx⟩ | ⟨a, len, cap, m, n, V0, V1, D0, D1, P0, P1, hcs, _, hl, hm, hmm, hx, hcell⟩
  · simp [Value.cells] at hcs
    obtain ⟨rfl, rfl, rfl⟩ := hcs
    simp only [Prod.mk.injEq] at hx
    obtain ⟨rfl, _⟩ := hx
    exact ⟨[], holdsF_lit0 W, by simp [bulkF, Rows.uptoBulk], fun _ => ⟨by simp, fun f hf => by cases hf⟩⟩
  · simp [Value.cells] at hcs
    obtain ⟨rfl, rfl, rfl⟩ := hcs
    simp only [Prod.mk.injEq] at hx
    obtain ⟨hd, _⟩ := hx
    have hmm' : m = cap0 := by simpa using hmm
    subst hmm'
    have E : ∀ i, i < m → V0 i = .string (strOf (V0 i)) ∧ V1 i = .string (strOf (V1 i)) ∧ D0 i = .lit (.string (strOf (V0 i)).data.toList) ∧ D1 i = .lit (.string (strOf (V1 i)).data.toList) := by
      intro i hi
      obtain ⟨_, _, t0, t1⟩ := hcell i hi
      obtain ⟨s0, e0, x0, _⟩ := DataW.trod_string Tryz.underlying9 t0
      obtain ⟨s1, e1, x1, _⟩ := DataW.trod_string Tryz.underlying9 t1
      simp only [List.cons.injEq, and_true] at e0 e1
      simp only [Prod.mk.injEq] at x0 x1
      rw [e0, e1, x0.1, x1.1]
      exact ⟨rfl, rfl, rfl, rfl⟩
    have hes : ∀ k o : Nat, o + k ≤ m → (List.range k).map (fun i => DataW.agg (H := H) [D0 (o + i), D1 (o + i)]) = ((List.range k).map fun i => ((strOf (V0 (o + i))).data.toList, (strOf (V1 (o + i))).data.toList)).map fieldD := by
      intro k o hk
      rw [List.map_map]
      apply List.map_congr_left
      intro i hi
      have hi' := List.mem_range.1 hi
      obtain ⟨_, _, d0, d1⟩ := E (o + i) (by omega)
      simp only [Function.comp, fieldD]
      rw [d0, d1]
    obtain ⟨fs, efs⟩ : ∃ fs : FL, fs = (List.range len0).map fun i => ((strOf (V0 i)).data.toList, (strOf (V1 i)).data.toList) := ⟨_, rfl⟩
    have hlen : fs.length = len0 := by rw [efs]; simp
    have h1 := hes len0 0 (by omega)
    simp only [Nat.zero_add] at h1
    rw [h1, ← efs] at hd
    refine ⟨fs, ⟨some a, m, by rw [hlen], (fun e => by cases e), by omega, fun hne => ?_⟩, ?_, ?_⟩
    · have hp : 0 < len0 := by
        rcases Nat.eq_zero_or_pos len0 with h | h
        · exact absurd (List.eq_nil_of_length_eq_zero (hlen.trans h)) hne
        · exact h
      have c0 := (hcell 0 (by omega)).1
      rw [Nat.zero_mul] at c0
      obtain ⟨b, off, rfl, hlt⟩ := addr_at c0
      refine ⟨b, off, rfl, hlt, fun j hj => ?_⟩
      obtain ⟨x0, x1, _, _⟩ := hcell j (by omega)
      obtain ⟨v0, v1, _, _⟩ := E j (by omega)
      rw [Go.WideShapes.add_plain] at x0 x1
      rw [Nat.add_assoc, x0, x1, v0, v1]
      subst efs
      simp [S, strOf]
    · rw [hd]
      simp only [Rows.uptoBulk, bulk_fieldD]
      omega
    · intro hw
      have hub : Tryz.prog.bytesOf 208 = 32 := by kernel_rfl
      rw [hd] at hw
      simp only [DataW.weights, Tryz.underlying54, List.mem_cons, List.mem_append, forall_eq_or_imp, hub] at hw
      obtain ⟨hw1, hw2⟩ := hw
      refine ⟨?_, fun f hf => ?_⟩
      · rw [List.length_map] at hw1
        omega
      · have mem : fieldD f ∈ fs.map (fieldD (H := H)) := List.mem_map.2 ⟨f, hf, rfl⟩
        constructor
        · refine hw2 _ (Or.inl (weight_all ?_ mem))
          simp [fieldD, DataW.weights, Tryz.underlying208, DataW.weightsEach]
        · refine hw2 _ (Or.inl (weight_all ?_ mem))
          simp [fieldD, DataW.weights, Tryz.underlying208, DataW.weightsEach]
end Go.Proofs.YtibjcofbhldenaaGreatDoor
