/- How much a list that came in holds; where its cells lie. A list of integers that came in: what the reading says of it. A list of files (a text and bytes each) that came in: what the reading says of it; the types are given by their numbers. A list of steps (a number, two texts and bytes each) that came in: what the reading says of it; the types are given by their numbers. -/
import Derived.Test.YtijnjgnckipghaaGreatBw1
import Derived.Deep.SlicePairs
import Derived.SliceStrings
import Derived.SizedLaws
import Derived.ChangeOld
import Derived.OpenShut
import Derived.ChangeSlices
import Derived.Deep.Slices
import Derived.Lib.SmallJoins
namespace Go.Proofs.YtijnjgnckipghaaGreat
open Go.ChangeShapes Go.WideShapes Go.ChangeAt Go.RowKit
/-- how many letters and values fields hold -/
def bulkF : FL → Nat
  | [] => 0
  | f :: r => f.1.length + f.2.length + 3 + bulkF r
def bulkT : List (List UInt8) → Nat
  | [] => 0
  | f :: r => f.length + 1 + bulkT r
theorem bulkF_len (fs : FL) : fs.length ≤ bulkF fs := by
  induction fs with
  | nil => simp [bulkF]
  | cons f r ih => simp only [bulkF, List.length_cons]; omega
theorem bulkF_mem (fs : FL) : ∀ f ∈ fs, f.1.length + f.2.length ≤ bulkF fs := by
  induction fs with
  | nil => intro f hf; cases hf
  | cons g r ih =>
    intro f hf
    simp only [bulkF]
    rcases List.mem_cons.1 hf with rfl | hf
    · omega
    · have := ih f hf; omega
theorem bulkT_len (l : List (List UInt8)) : l.length ≤ bulkT l := by
  induction l with
  | nil => simp [bulkT]
  | cons f r ih => simp only [bulkT, List.length_cons]; omega
theorem bulkT_mem (l : List (List UInt8)) : ∀ f ∈ l, f.length ≤ bulkT l := by
  induction l with
  | nil => intro f hf; cases hf
  | cons g r ih =>
    intro f hf
    simp only [bulkT]
    rcases List.mem_cons.1 hf with rfl | hf
    · omega
    · have := ih f hf; omega
theorem weight_all {H : Type} {P : Program} {e : TypeId} {d : DataW H} {n : Nat} (hn : n ∈ d.weights P e) : ∀ {l : List (DataW H)}, d ∈ l → n ∈ DataW.weightsAll P e l
  | [], h => by cases h
  | x :: r, h => by
    simp only [DataW.weightsAll, List.mem_append]
    rcases List.mem_cons.1 h with rfl | h
    · exact Or.inl hn
    · exact Or.inr (weight_all hn h)
theorem addr_at {W : World} {a : Addr} {u : Value} (h : W.cell? (a.add 0) = some u) : ∃ b off, a = ⟨b, off, none⟩ ∧ b < W.heap.size := by
  obtain ⟨b, off, spot⟩ := a
  have hspot : spot = none := by simpa [Addr.add] using World.cell?_spot h
  subst hspot
  refine ⟨b, off, rfl, ?_⟩
  rcases Nat.lt_or_ge b W.heap.size with hlt | hge
  · exact hlt
  · rw [Go.WideShapes.add_plain] at h
    unfold World.cell? at h
    rw [Array.getElem?_eq_none hge] at h
    cases h
theorem laidOut : laidOutB Tryz.prog = true := by kernel_rfl
theorem bulk_lits {H : Type} (l : List Int) : Rows.uptoBulkAll (H := H) (lits .u8 l) = l.length := by
  induction l with
  | nil => rfl
  | cons f r ih =>
    show Rows.uptoBulk (.lit (.int .u8 f)) + Rows.uptoBulkAll (lits .u8 r) = _
    rw [ih]
    simp only [Rows.uptoBulk, List.length_cons]
    omega
theorem byte_wf {n : Int} (h : (Lit.int .u8 n).wf = true) : 0 ≤ n ∧ n < 256 := by
  have h1 : IntKind.u8.min = 0 := rfl
  have h2 : IntKind.u8.max = 255 := rfl
  simp only [Lit.wf, Bool.and_eq_true, decide_eq_true_eq] at h
  omega
end Go.Proofs.YtijnjgnckipghaaGreat
namespace Go.Proofs.YtijnjgnckipghaaGreat
open Go.ChangeShapes Go.WideShapes Go.ChangeAt Go.RowKit
/-- v is a slice whose elements are these integers -/
def HoldsI (w : World) (v : Value) (zs : List Int) : Prop :=
  ∃ ao cap, v = .slice ao zs.length cap ∧ (ao = none → cap = 0) ∧ zs.length ≤ cap ∧ (zs ≠ [] → ∃ b off, ao = some ⟨b, off, none⟩ ∧ b < w.heap.size ∧ ∀ j (h : j < zs.length), w.cell? ⟨b, off + j, none⟩ = some (.int .i64 zs[j]))
theorem holdsI_mono {w w' : World} {v : Value} {zs : List Int} (h : HoldsI w v zs) (hb : Below w.heap.size w w') : HoldsI w' v zs := by
  obtain ⟨ao, cap, rfl, h0, hcp, hc⟩ := h
  refine ⟨ao, cap, rfl, h0, hcp, fun hne => ?_⟩
  obtain ⟨b, off, rfl, hlt, hcell⟩ := hc hne
  exact ⟨b, off, rfl, Nat.lt_of_lt_of_le hlt hb.size, fun j hj => by rw [hb.cell (p := ⟨b, off + j, none⟩) hlt]; exact hcell j hj⟩
theorem bulk_lits64 {H : Type} (l : List Int) : Rows.uptoBulkAll (H := H) (lits .i64 l) = l.length := by
  induction l with
  | nil => rfl
  | cons f r ih =>
    show Rows.uptoBulk (.lit (.int .i64 f)) + Rows.uptoBulkAll (lits .i64 r) = _
    rw [ih]
    simp only [Rows.uptoBulk, List.length_cons]
    omega
theorem i64_wf {n : Int} (h : (Lit.int .i64 n).wf = true) : -9223372036854775808 ≤ n ∧ n ≤ 9223372036854775807 := by
  have h1 : IntKind.i64.min = -9223372036854775808 := rfl
  have h2 : IntKind.i64.max = 9223372036854775807 := rfl
  simp only [Lit.wf, Bool.and_eq_true, decide_eq_true_eq] at h
  omega
set_option maxRecDepth 100000 in
theorem open_numsS {H : Type} {enc : TypeId × Value → H} {W : World} {v : Value} {d : DataW H} {p : List MemPlace} (hform : ∃ a l c, v = .slice a l c) (h : DataW.Trod enc Tryz.prog W 0 (fun _ => true) true 23 v d p) :
    ∃ zs : List Int, HoldsI W v zs ∧ zs.length + 1 ≤ Rows.uptoBulk d ∧ ∀ z ∈ zs, -9223372036854775808 ≤ z ∧ z ≤ 9223372036854775807 := by
  obtain ⟨a0, len0, cap0, rfl⟩ := hform
  obtain ⟨fuel, hf⟩ := h
  rcases open_ints Tryz.underlying23 Tryz.underlying3 (by kernel_rfl) hf with ⟨hcs, hx⟩ | ⟨x, l, c, zs, hcs, _, hl, hm, hz, hx, hcell, hws⟩
  · simp [Value.cells] at hcs
    obtain ⟨rfl, rfl, rfl⟩ := hcs
    simp only [Prod.mk.injEq] at hx
    obtain ⟨rfl, _⟩ := hx
    exact ⟨[], ⟨none, 0, rfl, fun _ => rfl, Nat.le_refl _, fun h => absurd rfl h⟩, by simp [Rows.uptoBulk], fun z hz => by cases hz⟩
  · simp [Value.cells] at hcs
    obtain ⟨rfl, rfl, rfl⟩ := hcs
    simp only [Prod.mk.injEq] at hx
    obtain ⟨hd, _⟩ := hx
    have hz' : zs.length = cap0 := by simpa using hz
    have hlen : (zs.take len0).length = len0 := by rw [List.length_take, Nat.min_eq_left (by omega)]
    refine ⟨zs.take len0, ⟨some x, cap0, by rw [hlen], (fun e => by cases e), by omega, ?_⟩, ?_, fun z hz => i64_wf (hws z (List.mem_of_mem_take hz))⟩
    · intro hne
      have hpos : 0 < len0 := by
        rcases Nat.eq_zero_or_pos len0 with h | h
        · subst h; simp at hne
        · exact h
      obtain ⟨b, off, rfl, hblt⟩ := addr_at (hcell 0 (by omega))
      refine ⟨b, off, rfl, hblt, fun j hj => ?_⟩
      rw [hlen] at hj
      have hc := hcell j (by omega)
      rw [Go.WideShapes.add_plain] at hc
      rw [hc]
      have hjz : j < zs.length := by omega
      simp only [List.getElem_take]
      rw [List.getD_eq_getElem?_getD, List.getElem?_eq_getElem hjz]
      rfl
    · rw [hd, hlen]
      simp only [Rows.uptoBulk]
      rw [bulk_lits64, List.length_take, Nat.min_eq_left (by omega)]
      omega
set_option maxRecDepth 100000 in
theorem open_nums {H : Type} {enc : TypeId × Value → H} {W : World} {base : Nat} {v : Value} {d : DataW H} {p : List MemPlace} (hok : Value.okWide Tryz.prog W .any base 23 v) (h : DataW.Trod enc Tryz.prog W 0 (fun _ => true) true 23 v d p) :
    ∃ zs : List Int, HoldsI W v zs ∧ zs.length + 1 ≤ Rows.uptoBulk d ∧ ∀ z ∈ zs, -9223372036854775808 ≤ z ∧ z ≤ 9223372036854775807 :=
  open_numsS (okWide_slice Tryz.underlying23 hok) h
end Go.Proofs.YtijnjgnckipghaaGreat
namespace Go.Proofs.YtijnjgnckipghaaGreat
open Go.ChangeShapes Go.WideShapes Go.ChangeAt Go.RowKit
set_option maxRecDepth 100000 in
theorem bytes_trod {H : Type} {enc : TypeId × Value → H} {W : World} {n : Nat} {v : Value} {y : DataW H × List MemPlace} (hf : DataW.trod enc Tryz.prog W 0 (fun _ => true) true n 67 [v] = some y) :
    ∃ bs : List UInt8, HoldsB W v bs ∧ bs.length + 1 ≤ Rows.uptoBulk y.1 := by
  rcases open_ints Tryz.underlying67 Tryz.underlying5 (by kernel_rfl) hf with ⟨hcs, hx⟩ | ⟨x, len0, cap0, zs, hcs, _, hl, hm, hz, hx, hcell, hws⟩
  · simp only [List.cons.injEq, and_true] at hcs
    subst hcs hx
    exact ⟨[], ⟨none, 0, rfl, fun _ => rfl, Nat.le_refl _, fun h => absurd rfl h⟩, by simp [Rows.uptoBulk]⟩
  · simp only [List.cons.injEq, and_true] at hcs
    subst hcs hx
    have hz' : zs.length = cap0 := by simpa using hz
    have hlen : ((zs.take len0).map (fun z : Int => UInt8.ofNat z.toNat)).length = len0 := by rw [List.length_map, List.length_take, Nat.min_eq_left (by omega)]
    refine ⟨(zs.take len0).map (fun z : Int => UInt8.ofNat z.toNat), ⟨some x, cap0, by rw [hlen], (fun e => by cases e), by omega, ?_⟩, ?_⟩
    · intro hne
      have hpos : 0 < len0 := by
        rcases Nat.eq_zero_or_pos len0 with h | h
        · subst h; simp at hne
        · exact h
      obtain ⟨b, off, rfl, hblt⟩ := addr_at (hcell 0 (by omega))
      refine ⟨b, off, rfl, hblt, fun j hj => ?_⟩
      rw [hlen] at hj
      have hc := hcell j (by omega)
      rw [Go.WideShapes.add_plain] at hc
      rw [hc]
      have hjz : j < zs.length := by omega
      simp only [List.getElem_map, List.getElem_take]
      rw [List.getD_eq_getElem?_getD, List.getElem?_eq_getElem hjz]
      have hw := hws _ (List.getElem_mem hjz)
      have hb : 0 ≤ zs[j] ∧ zs[j] < 256 := byte_wf hw
      show some (Value.int .u8 zs[j]) = some (B _)
      unfold B
      simp only [Option.some.injEq, Value.int.injEq, true_and]
      rw [UInt8.toNat_ofNat']
      omega
    · rw [hlen]
      simp only [Rows.uptoBulk]
      rw [bulk_lits, List.length_take, Nat.min_eq_left (by omega)]
      omega
/-- v is a slice whose elements are files: a text and bytes each -/
def HoldsFi (w : World) (v : Value) (fs : FL) : Prop :=
  ∃ ao cap, v = .slice ao fs.length cap ∧ (ao = none → cap = 0) ∧ fs.length ≤ cap ∧ (fs ≠ [] → ∃ b off, ao = some ⟨b, off, none⟩ ∧ b < w.heap.size ∧ ∀ j (h : j < fs.length), w.cell? ⟨b, off + j * 2, none⟩ = some (S fs[j].1) ∧ ∃ u, w.cell? ⟨b, off + j * 2 + 1, none⟩ = some u ∧ HoldsB w u fs[j].2)
theorem holdsFi_mono {w w' : World} {v : Value} {fs : FL} (h : HoldsFi w v fs) (hb : Below w.heap.size w w') : HoldsFi w' v fs := by
  obtain ⟨ao, cap, rfl, h0, hcp, hc⟩ := h
  refine ⟨ao, cap, rfl, h0, hcp, fun hne => ?_⟩
  obtain ⟨b, off, rfl, hlt, hcell⟩ := hc hne
  refine ⟨b, off, rfl, Nat.lt_of_lt_of_le hlt hb.size, fun j hj => ?_⟩
  obtain ⟨h1, u, h2, h3⟩ := hcell j hj
  exact ⟨by rw [hb.cell (p := ⟨b, off + j * 2, none⟩) hlt]; exact h1, u, by rw [hb.cell (p := ⟨b, off + j * 2 + 1, none⟩) hlt]; exact h2, holdsB_mono h3 hb⟩
theorem bulk_files {H : Type} (f : Nat → List UInt8 × List UInt8) (g : Nat → DataW H) : ∀ (ks : List Nat), (∀ k ∈ ks, (f k).1.length + (f k).2.length + 3 ≤ Rows.uptoBulk (g k)) → bulkF (ks.map f) ≤ Rows.uptoBulkAll (ks.map g) := by
  intro ks
  induction ks with
  | nil => intro _; exact Nat.zero_le _
  | cons k r ih =>
    intro h
    have h1 := h k (by simp)
    have h2 := ih (fun k hk => h k (by simp [hk]))
    show (f k).1.length + (f k).2.length + 3 + bulkF (r.map f) ≤ Rows.uptoBulk (g k) + Rows.uptoBulkAll (r.map g)
    omega
set_option maxRecDepth 100000 in
theorem open_files {H : Type} {enc : TypeId × Value → H} {W : World} {v : Value} {d : DataW H} {p : List MemPlace} {t e : TypeId} {f0 f1 : Field} (ht : Tryz.prog.underlying t = some (.slice e)) (he : Tryz.prog.underlying e = some (.struct #[f0, f1])) (ce : Tryz.prog.cellsOf e = 2) (o0 : f0.offset = 0) (o1 : f1.offset = 1) (e0 : f0.type = 9) (e1 : f1.type = 67)
    (hform : ∃ a l c, v = .slice a l c) (h : DataW.Trod enc Tryz.prog W 0 (fun _ => true) true t v d p) : ∃ fs : FL, HoldsFi W v fs ∧ bulkF fs + 1 ≤ Rows.uptoBulk d := by
  obtain ⟨a0, len0, cap0, rfl⟩ := hform
  obtain ⟨fuel, hf⟩ := h
  rcases Go.Deep.open_slice_pairs ht he ce o0 o1 (by rw [e0]; kernel_rfl) (by rw [e1]; kernel_rfl) hf with ⟨hcs, hx⟩ | ⟨a, len, cap, m, n, V0, V1, D0, D1, P0, P1, hcs, _, hl, hm, hmm, hx, hcell⟩
  · simp [Value.cells] at hcs
    obtain ⟨rfl, rfl, rfl⟩ := hcs
    simp only [Prod.mk.injEq] at hx
    obtain ⟨rfl, _⟩ := hx
    exact ⟨[], ⟨none, 0, rfl, fun _ => rfl, Nat.le_refl _, fun h => absurd rfl h⟩, by simp [bulkF, Rows.uptoBulk]⟩
  · simp [Value.cells] at hcs
    obtain ⟨rfl, rfl, rfl⟩ := hcs
    simp only [Prod.mk.injEq] at hx
    obtain ⟨hd, _⟩ := hx
    have hmm' : m = cap0 := by simpa using hmm
    subst hmm'
    have E : ∀ i, ∃ q : List UInt8 × List UInt8, i < m → V0 i = S q.1 ∧ HoldsB W (V1 i) q.2 ∧ q.1.length + q.2.length + 3 ≤ Rows.uptoBulk (DataW.agg (H := H) [D0 i, D1 i]) := by
      intro i
      by_cases hi : i < m
      · obtain ⟨_, _, t0, t1⟩ := hcell i hi
        rw [e0] at t0
        rw [e1] at t1
        obtain ⟨s0, q0, x0, _⟩ := DataW.trod_string Tryz.underlying9 t0
        obtain ⟨bs, hb, hk⟩ := bytes_trod t1
        simp only [List.cons.injEq, and_true] at q0
        simp only [Prod.mk.injEq] at x0
        refine ⟨(s0.data.toList, bs), fun _ => ⟨?_, hb, ?_⟩⟩
        · rw [q0]; unfold S; simp
        · rw [x0.1]
          simp only [Rows.uptoBulk, Rows.uptoBulkAll] at hk ⊢
          simp only [Array.length_toList] at *
          omega
      · exact ⟨([], []), fun h => absurd h hi⟩
    have CH := Classical.axiomOfChoice E
    obtain ⟨q, hq⟩ := CH
    have hlen : ((List.range len0).map q).length = len0 := by simp
    refine ⟨(List.range len0).map q, ⟨some a, m, by rw [hlen], (fun e => by cases e), by omega, fun hne => ?_⟩, ?_⟩
    · have hpos : 0 < len0 := by
        rcases Nat.eq_zero_or_pos len0 with h | h
        · subst h; simp at hne
        · exact h
      obtain ⟨b, off, rfl, hblt⟩ := addr_at (by have := (hcell 0 (by omega)).1; rwa [Nat.zero_mul] at this)
      refine ⟨b, off, rfl, hblt, fun j hj => ?_⟩
      rw [hlen] at hj
      obtain ⟨c0, c1, _, _⟩ := hcell j (by omega)
      obtain ⟨g0, g1, _⟩ := hq j (by omega)
      rw [Go.WideShapes.add_plain] at c0 c1
      simp only [List.getElem_map, List.getElem_range]
      exact ⟨by rw [c0, g0], V1 j, by rw [Nat.add_assoc]; exact c1, g1⟩
    · rw [hd]
      have := bulk_files q (fun i => DataW.agg (H := H) [D0 i, D1 i]) (List.range len0) (fun k hk => (hq k (by have := List.mem_range.1 hk; omega)).2.2)
      simp only [Rows.uptoBulk]
      omega
end Go.Proofs.YtijnjgnckipghaaGreat
namespace Go.Proofs.YtijnjgnckipghaaGreat
open Go.ChangeShapes Go.WideShapes Go.ChangeAt Go.RowKit
abbrev OpT := Int × List UInt8 × List UInt8 × List UInt8
/-- v is a slice whose elements are steps -/
def HoldsO (w : World) (v : Value) (os : List OpT) : Prop :=
  ∃ ao cap, v = .slice ao os.length cap ∧ (ao = none → cap = 0) ∧ os.length ≤ cap ∧ (os ≠ [] → ∃ b off, ao = some ⟨b, off, none⟩ ∧ b < w.heap.size ∧ ∀ j (h : j < os.length), w.cell? ⟨b, off + j * 4, none⟩ = some (.int .i64 os[j].1) ∧ w.cell? ⟨b, off + j * 4 + 1, none⟩ = some (S os[j].2.1) ∧ w.cell? ⟨b, off + j * 4 + 2, none⟩ = some (S os[j].2.2.1) ∧ ∃ u, w.cell? ⟨b, off + j * 4 + 3, none⟩ = some u ∧ HoldsB w u os[j].2.2.2)
theorem holdsO_mono {w w' : World} {v : Value} {os : List OpT} (h : HoldsO w v os) (hb : Below w.heap.size w w') : HoldsO w' v os := by
  obtain ⟨ao, cap, rfl, h0, hcp, hc⟩ := h
  refine ⟨ao, cap, rfl, h0, hcp, fun hne => ?_⟩
  obtain ⟨b, off, rfl, hlt, hcell⟩ := hc hne
  refine ⟨b, off, rfl, Nat.lt_of_lt_of_le hlt hb.size, fun j hj => ?_⟩
  obtain ⟨h1, h2, h3, u, h4, h5⟩ := hcell j hj
  have c : ∀ o, w'.cell? ⟨b, o, none⟩ = w.cell? ⟨b, o, none⟩ := fun o => hb.cell (p := ⟨b, o, none⟩) hlt
  exact ⟨by rw [c]; exact h1, by rw [c]; exact h2, by rw [c]; exact h3, u, by rw [c]; exact h4, holdsB_mono h5 hb⟩
def bulkO : List OpT → Nat
  | [] => 0
  | o :: r => o.2.1.length + o.2.2.1.length + o.2.2.2.length + 4 + bulkO r
theorem bulk_ops {H : Type} (f : Nat → OpT) (g : Nat → DataW H) : ∀ (ks : List Nat), (∀ k ∈ ks, (f k).2.1.length + (f k).2.2.1.length + (f k).2.2.2.length + 4 ≤ Rows.uptoBulk (g k)) → bulkO (ks.map f) ≤ Rows.uptoBulkAll (ks.map g) := by
  intro ks
  induction ks with
  | nil => intro _; exact Nat.zero_le _
  | cons k r ih =>
    intro h
    have h1 := h k (by simp)
    have h2 := ih (fun k hk => h k (by simp [hk]))
    show (f k).2.1.length + (f k).2.2.1.length + (f k).2.2.2.length + 4 + bulkO (r.map f) ≤ Rows.uptoBulk (g k) + Rows.uptoBulkAll (r.map g)
    omega
set_option maxRecDepth 100000 in
theorem open_ops {H : Type} {enc : TypeId × Value → H} {W : World} {v : Value} {d : DataW H} {p : List MemPlace} {t e : TypeId} {f0 f1 f2 f3 : Field} (ht : Tryz.prog.underlying t = some (.slice e)) (he : Tryz.prog.underlying e = some (.struct #[f0, f1, f2, f3])) (ce : Tryz.prog.cellsOf e = 4) (o0 : f0.offset = 0) (o1 : f1.offset = 1) (o2 : f2.offset = 2) (o3 : f3.offset = 3) (e0 : f0.type = 3) (e1 : f1.type = 9) (e2 : f2.type = 9) (e3 : f3.type = 67)
    (hform : ∃ a l c, v = .slice a l c) (h : DataW.Trod enc Tryz.prog W 0 (fun _ => true) true t v d p) : ∃ os : List OpT, HoldsO W v os ∧ bulkO os + 1 ≤ Rows.uptoBulk d ∧ ∀ o ∈ os, -9223372036854775808 ≤ o.1 ∧ o.1 ≤ 9223372036854775807 := by
  have k0 : Tryz.prog.cellsOf 3 = 1 := by kernel_rfl
  have k1 : Tryz.prog.cellsOf 9 = 1 := by kernel_rfl
  have k3 : Tryz.prog.cellsOf 67 = 1 := by kernel_rfl
  obtain ⟨a0, len0, cap0, rfl⟩ := hform
  obtain ⟨fuel, hf⟩ := h
  rcases Go.Deep.open_slice ht hf with ⟨hcs, hx⟩ | ⟨a, len, cap, m, n, D, Pl, hcs, _, hl, hm, hmm, hx, hcell⟩
  · simp [Value.cells] at hcs
    obtain ⟨rfl, rfl, rfl⟩ := hcs
    simp only [Prod.mk.injEq] at hx
    obtain ⟨rfl, _⟩ := hx
    exact ⟨[], ⟨none, 0, rfl, fun _ => rfl, Nat.le_refl _, fun h => absurd rfl h⟩, by simp [bulkO, Rows.uptoBulk], fun o ho => by cases ho⟩
  · simp [Value.cells] at hcs
    obtain ⟨rfl, rfl, rfl⟩ := hcs
    simp only [Prod.mk.injEq] at hx
    obtain ⟨hd, _⟩ := hx
    have hmm' : m = cap0 := by simpa using hmm
    subst hmm'
    have E : ∀ i, ∃ q : OpT, i < m → (W.cell? (a.add (i * 4)) = some (.int .i64 q.1) ∧ W.cell? (a.add (i * 4 + 1)) = some (S q.2.1) ∧ W.cell? (a.add (i * 4 + 2)) = some (S q.2.2.1) ∧ ∃ u, W.cell? (a.add (i * 4 + 3)) = some u ∧ HoldsB W u q.2.2.2) ∧ q.2.1.length + q.2.2.1.length + q.2.2.2.length + 4 ≤ Rows.uptoBulk (D i) ∧ (-9223372036854775808 ≤ q.1 ∧ q.1 ≤ 9223372036854775807) := by
      intro i
      by_cases hi : i < m
      · obtain ⟨cs', h1, h2⟩ := hcell i hi
        rw [ce] at h1
        obtain ⟨_, hlen, hc⟩ := World.cells?_some h1
        obtain ⟨y0, y1, y2, y3, k, hxy, _, g0, g1, g2, g3⟩ := Go.Joins.trod_struct4 he h2
        match cs', hlen with
        | [v0, v1, v2, v3], _ =>
          rw [o0, e0, k0] at g0
          rw [o1, e1, k1] at g1
          rw [o2, e2, k1] at g2
          rw [o3, e3, k3] at g3
          simp only [List.drop_zero, List.drop_succ_cons, List.take_succ_cons, List.take_zero] at g0 g1 g2 g3
          obtain ⟨z, q0, x0, hz⟩ := DataW.trod_int Tryz.underlying3 g0
          obtain ⟨s1, q1, x1, _⟩ := DataW.trod_string Tryz.underlying9 g1
          obtain ⟨s2, q2, x2, _⟩ := DataW.trod_string Tryz.underlying9 g2
          obtain ⟨bs, hb, hk⟩ := bytes_trod g3
          simp only [List.cons.injEq, and_true] at q0 q1 q2
          have c0 := hc 0 (by omega)
          have c1 := hc 1 (by omega)
          have c2 := hc 2 (by omega)
          have c3 := hc 3 (by omega)
          rw [Go.Deep.add_add] at c0 c1 c2 c3
          simp at c0 c1 c2 c3
          simp only [Prod.mk.injEq] at hxy
          have hw : -9223372036854775808 ≤ z ∧ z ≤ 9223372036854775807 := by
            have h1 : IntKind.i64.min = -9223372036854775808 := rfl
            have h2 : IntKind.i64.max = 9223372036854775807 := rfl
            simp only [Lit.wf, Bool.and_eq_true, decide_eq_true_eq] at hz
            omega
          refine ⟨(z, s1.data.toList, s2.data.toList, bs), fun _ => ⟨⟨by rw [c0, q0], by rw [c1, q1]; unfold S; simp, by rw [c2, q2]; unfold S; simp, v3, c3, hb⟩, ?_, hw⟩⟩
          rw [hxy.1, x0, x1, x2]
          simp only [Rows.uptoBulk, Rows.uptoBulkAll, Array.length_toList] at hk ⊢
          omega
      · exact ⟨(0, [], [], []), fun h => absurd h hi⟩
    obtain ⟨q, hq⟩ := Classical.axiomOfChoice E
    have hlen : ((List.range len0).map q).length = len0 := by simp
    refine ⟨(List.range len0).map q, ⟨some a, m, by rw [hlen], (fun e => by cases e), by omega, fun hne => ?_⟩, ?_, fun o ho => ?_⟩
    · have hpos : 0 < len0 := by
        rcases Nat.eq_zero_or_pos len0 with h | h
        · subst h; simp at hne
        · exact h
      obtain ⟨b, off, rfl, hblt⟩ := addr_at (by have := (hq 0 (by omega)).1.1; rwa [Nat.zero_mul] at this)
      refine ⟨b, off, rfl, hblt, fun j hj => ?_⟩
      rw [hlen] at hj
      obtain ⟨⟨c0, c1, c2, u, c3, g⟩, _⟩ := hq j (by omega)
      rw [Go.WideShapes.add_plain] at c0 c1 c2 c3
      simp only [List.getElem_map, List.getElem_range]
      exact ⟨c0, by rw [Nat.add_assoc]; exact c1, by rw [Nat.add_assoc]; exact c2, u, by rw [Nat.add_assoc]; exact c3, g⟩
    · rw [hd]
      have := bulk_ops q D (List.range len0) (fun k hk => (hq k (by have := List.mem_range.1 hk; omega)).2.1)
      simp only [Rows.uptoBulk]
      omega
    · obtain ⟨k, hk, rfl⟩ := List.mem_map.1 ho
      exact (hq k (by have := List.mem_range.1 hk; omega)).2.2
end Go.Proofs.YtijnjgnckipghaaGreat
