/- A list of fields, and a list of texts, that came in: what the reading says of them. -/
import Derived.Test.YtikokjclhpgocaaOpnA
import Derived.Test.YtikokjclhpgocaaFdO
import Derived.Deep.SlicePairs
import Derived.SliceStrings
import Derived.SizedLaws
import Derived.ChangeOld
import Derived.OpenShut
namespace Go.Proofs.Ytikokjclhpgocaa
open Go.ChangeShapes Go.WideShapes Go.ChangeAt Go.RowKit
def strOf : Value → ByteArray
  | .string s => s
  | _ => ByteArray.empty
def fieldD {H : Type} (f : List UInt8 × List UInt8) : DataW H := .agg [.lit (.string f.1), .lit (.string f.2)]
theorem bulk_fieldD {H : Type} (fs : FL) : Rows.uptoBulkAll (H := H) (fs.map fieldD) = bulkF fs := by
  induction fs with
  | nil => rfl
  | cons f r ih =>
    show Rows.uptoBulk (fieldD f) + Rows.uptoBulkAll (r.map fieldD) = _
    rw [ih]
    simp only [fieldD, Rows.uptoBulk, Rows.uptoBulkAll, bulkF]
    omega
theorem bulk_texts {H : Type} (l : List (List UInt8)) : Rows.uptoBulkAll (H := H) (l.map fun s => .lit (.string s)) = bulkT l := by
  induction l with
  | nil => rfl
  | cons f r ih =>
    show Rows.uptoBulk (.lit (.string f)) + Rows.uptoBulkAll (r.map fun s => .lit (.string s)) = _
    rw [ih]
    simp only [Rows.uptoBulk, bulkT]
set_option maxRecDepth 100000 in
theorem open_fieldsS {H : Type} {enc : TypeId × Value → H} {W : World} {v : Value} {d : DataW H} {p : List MemPlace} (hform : ∃ a l c, v = .slice a l c) (h : DataW.Trod enc Try.prog W 0 (fun _ => true) true 27 v d p) :
    ∃ fs : FL, HoldsF W v fs ∧ bulkF fs + 1 ≤ Rows.uptoBulk d ∧ ((∀ n ∈ d.weights Try.prog 27, n ≤ reachBytes) → fs.length * 32 ≤ reachBytes ∧ ∀ f ∈ fs, f.1.length ≤ reachBytes ∧ f.2.length ≤ reachBytes) := by
  obtain ⟨a0, len0, cap0, rfl⟩ := hform
  obtain ⟨fuel, hf⟩ := h
  rcases Go.Deep.open_slice_pairs Try.underlying27 Try.underlying32 (by kernel_rfl) rfl rfl (by kernel_rfl) (by kernel_rfl) hf with ⟨hcs, hx⟩ | ⟨a, len, cap, m, n, V0, V1, D0, D1, P0, P1, hcs, _, hl, hm, hmm, hx, hcell⟩
  · simp [Value.cells] at hcs
    obtain ⟨rfl, rfl, rfl⟩ := hcs
    simp only [Prod.mk.injEq] at hx
    obtain ⟨rfl, _⟩ := hx
    exact ⟨[], holdsF_lit0 W, by simp [bulkF, Rows.uptoBulk], fun _ => ⟨by simp, fun f hf => by cases hf⟩⟩
  · simp [Value.cells] at hcs
    obtain ⟨rfl, rfl, rfl⟩ := hcs
    simp only [Prod.mk.injEq] at hx
    obtain ⟨hd, _⟩ := hx
    have hmm' : m = cap0 := by simpa using hmm
    subst hmm'
    have E : ∀ i, i < m → V0 i = .string (strOf (V0 i)) ∧ V1 i = .string (strOf (V1 i)) ∧ D0 i = .lit (.string (strOf (V0 i)).data.toList) ∧ D1 i = .lit (.string (strOf (V1 i)).data.toList) := by
      intro i hi
      obtain ⟨_, _, t0, t1⟩ := hcell i hi
      obtain ⟨s0, e0, x0, _⟩ := DataW.trod_string Try.underlying9 t0
      obtain ⟨s1, e1, x1, _⟩ := DataW.trod_string Try.underlying9 t1
      simp only [List.cons.injEq, and_true] at e0 e1
      simp only [Prod.mk.injEq] at x0 x1
      rw [e0, e1, x0.1, x1.1]
      exact ⟨rfl, rfl, rfl, rfl⟩
    have hes : ∀ k o : Nat, o + k ≤ m → (List.range k).map (fun i => DataW.agg (H := H) [D0 (o + i), D1 (o + i)]) = ((List.range k).map fun i => ((strOf (V0 (o + i))).data.toList, (strOf (V1 (o + i))).data.toList)).map fieldD := by
      intro k o hk
      rw [List.map_map]
      apply List.map_congr_left
      intro i hi
      have hi' := List.mem_range.1 hi
      obtain ⟨_, _, d0, d1⟩ := E (o + i) (by omega)
      simp only [Function.comp, fieldD]
      rw [d0, d1]
    obtain ⟨fs, efs⟩ : ∃ fs : FL, fs = (List.range len0).map fun i => ((strOf (V0 i)).data.toList, (strOf (V1 i)).data.toList) := ⟨_, rfl⟩
    have hlen : fs.length = len0 := by rw [efs]; simp
    have h1 := hes len0 0 (by omega)
    simp only [Nat.zero_add] at h1
    rw [h1, ← efs] at hd
    refine ⟨fs, ⟨some a, m, by rw [hlen], (fun e => by cases e), by omega, fun hne => ?_⟩, ?_, ?_⟩
    · have hp : 0 < len0 := by
        rcases Nat.eq_zero_or_pos len0 with h | h
        · exact absurd (List.eq_nil_of_length_eq_zero (hlen.trans h)) hne
        · exact h
      have c0 := (hcell 0 (by omega)).1
      rw [Nat.zero_mul] at c0
      obtain ⟨b, off, rfl, hlt⟩ := addr_at c0
      refine ⟨b, off, rfl, hlt, fun j hj => ?_⟩
      obtain ⟨x0, x1, _, _⟩ := hcell j (by omega)
      obtain ⟨v0, v1, _, _⟩ := E j (by omega)
      rw [Go.WideShapes.add_plain] at x0 x1
      rw [Nat.add_assoc, x0, x1, v0, v1]
      subst efs
      simp [S, strOf]
    · rw [hd]
      simp only [Rows.uptoBulk, bulk_fieldD]
      omega
    · intro hw
      have hub : Try.prog.bytesOf 32 = 32 := by kernel_rfl
      rw [hd] at hw
      simp only [DataW.weights, Try.underlying27, List.mem_cons, List.mem_append, forall_eq_or_imp, hub] at hw
      obtain ⟨hw1, hw2⟩ := hw
      refine ⟨?_, fun f hf => ?_⟩
      · rw [List.length_map] at hw1
        omega
      · have mem : fieldD f ∈ fs.map (fieldD (H := H)) := List.mem_map.2 ⟨f, hf, rfl⟩
        constructor
        · refine hw2 _ (Or.inl (weight_all ?_ mem))
          simp [fieldD, DataW.weights, Try.underlying32, DataW.weightsEach]
        · refine hw2 _ (Or.inl (weight_all ?_ mem))
          simp [fieldD, DataW.weights, Try.underlying32, DataW.weightsEach]
set_option maxRecDepth 100000 in
theorem open_fields {H : Type} {enc : TypeId × Value → H} {W : World} {base : Nat} {v : Value} {d : DataW H} {p : List MemPlace} (hok : Value.okWide Try.prog W .any base 27 v) (h : DataW.Trod enc Try.prog W 0 (fun _ => true) true 27 v d p) :
    ∃ fs : FL, HoldsF W v fs ∧ bulkF fs + 1 ≤ Rows.uptoBulk d ∧ ((∀ n ∈ d.weights Try.prog 27, n ≤ reachBytes) → fs.length * 32 ≤ reachBytes ∧ ∀ f ∈ fs, f.1.length ≤ reachBytes ∧ f.2.length ≤ reachBytes) :=
  open_fieldsS (okWide_slice Try.underlying27 hok) h
set_option maxRecDepth 100000 in
theorem open_texts {H : Type} {enc : TypeId × Value → H} {W : World} {base : Nat} {v : Value} {d : DataW H} {p : List MemPlace} (hok : Value.okWide Try.prog W .any base 38 v) (h : DataW.Trod enc Try.prog W 0 (fun _ => true) true 38 v d p) :
    ∃ ts : List (List UInt8), Holds W v ts ∧ (∀ cap, v = .slice none 0 cap → cap = 0) ∧ bulkT ts + 1 ≤ Rows.uptoBulk d ∧ ((∀ n ∈ d.weights Try.prog 38, n ≤ reachBytes) → ts.length * 16 ≤ reachBytes ∧ ∀ f ∈ ts, f.length ≤ reachBytes) := by
  obtain ⟨a0, len0, cap0, rfl⟩ := okWide_slice Try.underlying38 hok
  obtain ⟨fuel, hf⟩ := h
  rcases open_strings Try.underlying38 Try.underlying9 (by kernel_rfl) hf with ⟨hcs, hx⟩ | ⟨x, l, c, ss, hcs, _, hl, hm, hz, hx, hcell, hws⟩
  · simp [Value.cells] at hcs
    obtain ⟨rfl, rfl, rfl⟩ := hcs
    simp only [Prod.mk.injEq] at hx
    obtain ⟨rfl, _⟩ := hx
    exact ⟨[], ⟨none, 0, rfl, fun h => absurd rfl h⟩, fun cap e => by simpa using e.symm, by simp [bulkT, Rows.uptoBulk], fun _ => ⟨by simp, fun f hf => by cases hf⟩⟩
  · simp [Value.cells] at hcs
    obtain ⟨rfl, rfl, rfl⟩ := hcs
    simp only [Prod.mk.injEq] at hx
    obtain ⟨hd, _⟩ := hx
    have hz' : ss.length = cap0 := by simpa using hz
    have est : strs (H := H) (ss.take len0) = ((ss.take len0).map (fun s => s.data.toList)).map (fun s => .lit (.string s)) := by unfold strs; rw [List.map_map]; rfl
    refine ⟨(ss.take len0).map (fun s => s.data.toList), ⟨some x, cap0, ?_, ?_⟩, fun cap e => by simp at e, ?_, ?_⟩
    · rw [List.length_map, List.length_take, Nat.min_eq_left (by omega)]
    · intro hne
      have hpos : 0 < len0 := by
        rcases Nat.eq_zero_or_pos len0 with h | h
        · subst h; simp at hne
        · exact h
      obtain ⟨b, off, rfl, hblt⟩ := addr_at (hcell 0 (by omega))
      refine ⟨b, off, rfl, hblt, fun j hj => ?_⟩
      rw [List.length_map, List.length_take] at hj
      have hc := hcell j (by omega)
      rw [Go.WideShapes.add_plain] at hc
      rw [hc]
      simp only [List.getElem_map, List.getElem_take]
      rw [List.getD_eq_getElem?_getD, List.getElem?_eq_getElem (by omega)]
      rfl
    · rw [hd, est]
      simp only [Rows.uptoBulk, bulk_texts]
      omega
    · intro hw
      have hub : Try.prog.bytesOf 9 = 16 := by kernel_rfl
      rw [hd, est] at hw
      simp only [DataW.weights, Try.underlying38, List.mem_cons, List.mem_append, forall_eq_or_imp, hub] at hw
      obtain ⟨hw1, hw2⟩ := hw
      refine ⟨?_, fun f hf => ?_⟩
      · simp only [List.length_map] at hw1 ⊢
        omega
      · refine hw2 _ (Or.inl (weight_all ?_ (List.mem_map.2 ⟨f, hf, rfl⟩)))
        simp [DataW.weights]
end Go.Proofs.Ytikokjclhpgocaa
