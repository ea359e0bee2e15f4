/- A list of fields, and a list of texts, that came in: what the reading says of them. A list of bytes that came in: what the reading says of it. What a row lists of the library's variables, and what the start of the world gives, is what the road of Parse reads. -/
import Derived.Test.YtmikgpmnffdnnaaGreatDoorBa
import Derived.Deep.SlicePairs
import Derived.SliceStrings
import Derived.SizedLaws
import Derived.ChangeOld
import Derived.OpenShut
import Derived.Test.YtmikgpmnffdnnaaGreatDoorBb
import Derived.ChangeSlices
import Derived.Test.YtmikgpmnffdnnaaGreatDoorBc
import Derived.Lib.LaidU8T
import GoSem.PinnedTables
import Derived.MakeChecks
namespace Go.Proofs.YtmikgpmnffdnnaaGreatDoor
open Go.ChangeShapes Go.WideShapes Go.ChangeAt Go.RowKit
def strOf : Value → ByteArray
  | .string s => s
  | _ => ByteArray.empty
def fieldD {H : Type} (f : List UInt8 × List UInt8) : DataW H := .agg [.lit (.string f.1), .lit (.string f.2)]
/-- how many letters and values fields hold -/
def bulkF : FL → Nat
  | [] => 0
  | f :: r => f.1.length + f.2.length + 3 + bulkF r
def bulkT : List (List UInt8) → Nat
  | [] => 0
  | f :: r => f.length + 1 + bulkT r
theorem bulk_fieldD {H : Type} (fs : FL) : Rows.uptoBulkAll (H := H) (fs.map fieldD) = bulkF fs := by
  induction fs with
  | nil => rfl
  | cons f r ih =>
    show Rows.uptoBulk (fieldD f) + Rows.uptoBulkAll (r.map fieldD) = _
    rw [ih]
    simp only [fieldD, Rows.uptoBulk, Rows.uptoBulkAll, bulkF]
    omega
theorem bulk_texts {H : Type} (l : List (List UInt8)) : Rows.uptoBulkAll (H := H) (l.map fun s => .lit (.string s)) = bulkT l := by
  induction l with
  | nil => rfl
  | cons f r ih =>
    show Rows.uptoBulk (.lit (.string f)) + Rows.uptoBulkAll (r.map fun s => .lit (.string s)) = _
    rw [ih]
    simp only [Rows.uptoBulk, bulkT]
theorem bulkF_len (fs : FL) : fs.length ≤ bulkF fs := by
  induction fs with
  | nil => simp [bulkF]
  | cons f r ih => simp only [bulkF, List.length_cons]; omega
theorem bulkF_mem (fs : FL) : ∀ f ∈ fs, f.1.length + f.2.length ≤ bulkF fs := by
  induction fs with
  | nil => intro f hf; cases hf
  | cons g r ih =>
    intro f hf
    simp only [bulkF]
    rcases List.mem_cons.1 hf with rfl | hf
    · omega
    · have := ih f hf; omega
theorem bulkT_len (l : List (List UInt8)) : l.length ≤ bulkT l := by
  induction l with
  | nil => simp [bulkT]
  | cons f r ih => simp only [bulkT, List.length_cons]; omega
theorem bulkT_mem (l : List (List UInt8)) : ∀ f ∈ l, f.length ≤ bulkT l := by
  induction l with
  | nil => intro f hf; cases hf
  | cons g r ih =>
    intro f hf
    simp only [bulkT]
    rcases List.mem_cons.1 hf with rfl | hf
    · omega
    · have := ih f hf; omega
theorem weight_all {H : Type} {P : Program} {e : TypeId} {d : DataW H} {n : Nat} (hn : n ∈ d.weights P e) : ∀ {l : List (DataW H)}, d ∈ l → n ∈ DataW.weightsAll P e l
  | [], h => by cases h
  | x :: r, h => by
    simp only [DataW.weightsAll, List.mem_append]
    rcases List.mem_cons.1 h with rfl | h
    · exact Or.inl hn
    · exact Or.inr (weight_all hn h)
theorem addr_at {W : World} {a : Addr} {u : Value} (h : W.cell? (a.add 0) = some u) : ∃ b off, a = ⟨b, off, none⟩ ∧ b < W.heap.size := by
  obtain ⟨b, off, spot⟩ := a
  have hspot : spot = none := by simpa [Addr.add] using World.cell?_spot h
  subst hspot
  refine ⟨b, off, rfl, ?_⟩
  rcases Nat.lt_or_ge b W.heap.size with hlt | hge
  · exact hlt
  · rw [Go.WideShapes.add_plain] at h
    unfold World.cell? at h
    rw [Array.getElem?_eq_none hge] at h
    cases h
set_option maxRecDepth 100000 in
theorem open_fieldsS {H : Type} {enc : TypeId × Value → H} {W : World} {v : Value} {d : DataW H} {p : List MemPlace} (hform : ∃ a l c, v = .slice a l c) (h : DataW.Trod enc Tryz.prog W 0 (fun _ => true) true 25 v d p) :
    ∃ fs : FL, HoldsF W v fs ∧ bulkF fs + 1 ≤ Rows.uptoBulk d ∧ ((∀ n ∈ d.weights Tryz.prog 25, n ≤ reachBytes) → fs.length * 32 ≤ reachBytes ∧ ∀ f ∈ fs, f.1.length ≤ reachBytes ∧ f.2.length ≤ reachBytes) := by
  obtain ⟨a0, len0, cap0, rfl⟩ := hform
  obtain ⟨fuel, hf⟩ := h
  rcases Go.Deep.open_slice_pairs Tryz.underlying25 Tryz.underlying102 (by kernel_rfl) rfl rfl (by kernel_rfl) (by kernel_rfl) hf with ⟨hcs, hx⟩ | ⟨a, len, cap, m, n, V0, V1, D0, D1, P0, P1, hcs, _, hl, hm, hmm, hx, hcell⟩
  · simp [Value.cells] at hcs
    obtain ⟨rfl, rfl, rfl⟩ := hcs
    simp only [Prod.mk.injEq] at hx
    obtain ⟨rfl, _⟩ := hx
    exact ⟨[], holdsF_lit0 W, by simp [bulkF, Rows.uptoBulk], fun _ => ⟨by simp, fun f hf => by cases hf⟩⟩
  · simp [Value.cells] at hcs
    obtain ⟨rfl, rfl, rfl⟩ := hcs
    simp only [Prod.mk.injEq] at hx
    obtain ⟨hd, _⟩ := hx
    have hmm' : m = cap0 := by simpa using hmm
    subst hmm'
    have E : ∀ i, i < m → V0 i = .string (strOf (V0 i)) ∧ V1 i = .string (strOf (V1 i)) ∧ D0 i = .lit (.string (strOf (V0 i)).data.toList) ∧ D1 i = .lit (.string (strOf (V1 i)).data.toList) := by
      intro i hi
      obtain ⟨_, _, t0, t1⟩ := hcell i hi
      obtain ⟨s0, e0, x0, _⟩ := DataW.trod_string Tryz.underlying9 t0
      obtain ⟨s1, e1, x1, _⟩ := DataW.trod_string Tryz.underlying9 t1
      simp only [List.cons.injEq, and_true] at e0 e1
      simp only [Prod.mk.injEq] at x0 x1
      rw [e0, e1, x0.1, x1.1]
      exact ⟨rfl, rfl, rfl, rfl⟩
    have hes : ∀ k o : Nat, o + k ≤ m → (List.range k).map (fun i => DataW.agg (H := H) [D0 (o + i), D1 (o + i)]) = ((List.range k).map fun i => ((strOf (V0 (o + i))).data.toList, (strOf (V1 (o + i))).data.toList)).map fieldD := by
      intro k o hk
      rw [List.map_map]
      apply List.map_congr_left
      intro i hi
      have hi' := List.mem_range.1 hi
      obtain ⟨_, _, d0, d1⟩ := E (o + i) (by omega)
      simp only [Function.comp, fieldD]
      rw [d0, d1]
    obtain ⟨fs, efs⟩ : ∃ fs : FL, fs = (List.range len0).map fun i => ((strOf (V0 i)).data.toList, (strOf (V1 i)).data.toList) := ⟨_, rfl⟩
    have hlen : fs.length = len0 := by rw [efs]; simp
    have h1 := hes len0 0 (by omega)
    simp only [Nat.zero_add] at h1
    rw [h1, ← efs] at hd
    refine ⟨fs, ⟨some a, m, by rw [hlen], (fun e => by cases e), by omega, fun hne => ?_⟩, ?_, ?_⟩
    · have hp : 0 < len0 := by
        rcases Nat.eq_zero_or_pos len0 with h | h
        · exact absurd (List.eq_nil_of_length_eq_zero (hlen.trans h)) hne
        · exact h
      have c0 := (hcell 0 (by omega)).1
      rw [Nat.zero_mul] at c0
      obtain ⟨b, off, rfl, hlt⟩ := addr_at c0
      refine ⟨b, off, rfl, hlt, fun j hj => ?_⟩
      obtain ⟨x0, x1, _, _⟩ := hcell j (by omega)
      obtain ⟨v0, v1, _, _⟩ := E j (by omega)
      rw [Go.WideShapes.add_plain] at x0 x1
      rw [Nat.add_assoc, x0, x1, v0, v1]
      subst efs
      simp [S, strOf]
    · rw [hd]
      simp only [Rows.uptoBulk, bulk_fieldD]
      omega
    · intro hw
      have hub : Tryz.prog.bytesOf 102 = 32 := by kernel_rfl
      rw [hd] at hw
      simp only [DataW.weights, Tryz.underlying25, List.mem_cons, List.mem_append, forall_eq_or_imp, hub] at hw
      obtain ⟨hw1, hw2⟩ := hw
      refine ⟨?_, fun f hf => ?_⟩
      · rw [List.length_map] at hw1
        omega
      · have mem : fieldD f ∈ fs.map (fieldD (H := H)) := List.mem_map.2 ⟨f, hf, rfl⟩
        constructor
        · refine hw2 _ (Or.inl (weight_all ?_ mem))
          simp [fieldD, DataW.weights, Tryz.underlying102, DataW.weightsEach]
        · refine hw2 _ (Or.inl (weight_all ?_ mem))
          simp [fieldD, DataW.weights, Tryz.underlying102, DataW.weightsEach]
set_option maxRecDepth 100000 in
theorem open_fields {H : Type} {enc : TypeId × Value → H} {W : World} {base : Nat} {v : Value} {d : DataW H} {p : List MemPlace} (hok : Value.okWide Tryz.prog W .any base 25 v) (h : DataW.Trod enc Tryz.prog W 0 (fun _ => true) true 25 v d p) :
    ∃ fs : FL, HoldsF W v fs ∧ bulkF fs + 1 ≤ Rows.uptoBulk d ∧ ((∀ n ∈ d.weights Tryz.prog 25, n ≤ reachBytes) → fs.length * 32 ≤ reachBytes ∧ ∀ f ∈ fs, f.1.length ≤ reachBytes ∧ f.2.length ≤ reachBytes) :=
  open_fieldsS (okWide_slice Tryz.underlying25 hok) h
set_option maxRecDepth 100000 in
theorem open_texts {H : Type} {enc : TypeId × Value → H} {W : World} {base : Nat} {v : Value} {d : DataW H} {p : List MemPlace} (hok : Value.okWide Tryz.prog W .any base 73 v) (h : DataW.Trod enc Tryz.prog W 0 (fun _ => true) true 73 v d p) :
    ∃ ts : List (List UInt8), Holds W v ts ∧ (∀ cap, v = .slice none 0 cap → cap = 0) ∧ bulkT ts + 1 ≤ Rows.uptoBulk d ∧ ((∀ n ∈ d.weights Tryz.prog 73, n ≤ reachBytes) → ts.length * 16 ≤ reachBytes ∧ ∀ f ∈ ts, f.length ≤ reachBytes) := by
  obtain ⟨a0, len0, cap0, rfl⟩ := okWide_slice Tryz.underlying73 hok
  obtain ⟨fuel, hf⟩ := h
  rcases open_strings Tryz.underlying73 Tryz.underlying9 (by kernel_rfl) hf with ⟨hcs, hx⟩ | ⟨x, l, c, ss, hcs, _, hl, hm, hz, hx, hcell, hws⟩
  · simp [Value.cells] at hcs
    obtain ⟨rfl, rfl, rfl⟩ := hcs
    simp only [Prod.mk.injEq] at hx
    obtain ⟨rfl, _⟩ := hx
    exact ⟨[], ⟨none, 0, rfl, fun h => absurd rfl h⟩, fun cap e => by simpa using e.symm, by simp [bulkT, Rows.uptoBulk], fun _ => ⟨by simp, fun f hf => by cases hf⟩⟩
  · simp [Value.cells] at hcs
    obtain ⟨rfl, rfl, rfl⟩ := hcs
    simp only [Prod.mk.injEq] at hx
    obtain ⟨hd, _⟩ := hx
    have hz' : ss.length = cap0 := by simpa using hz
    have est : strs (H := H) (ss.take len0) = ((ss.take len0).map (fun s => s.data.toList)).map (fun s => .lit (.string s)) := by unfold strs; rw [List.map_map]; rfl
    refine ⟨(ss.take len0).map (fun s => s.data.toList), ⟨some x, cap0, ?_, ?_⟩, fun cap e => by simp at e, ?_, ?_⟩
    · rw [List.length_map, List.length_take, Nat.min_eq_left (by omega)]
    · intro hne
      have hpos : 0 < len0 := by
        rcases Nat.eq_zero_or_pos len0 with h | h
        · subst h; simp at hne
        · exact h
      obtain ⟨b, off, rfl, hblt⟩ := addr_at (hcell 0 (by omega))
      refine ⟨b, off, rfl, hblt, fun j hj => ?_⟩
      rw [List.length_map, List.length_take] at hj
      have hc := hcell j (by omega)
      rw [Go.WideShapes.add_plain] at hc
      rw [hc]
      simp only [List.getElem_map, List.getElem_take]
      rw [List.getD_eq_getElem?_getD, List.getElem?_eq_getElem (by omega)]
      rfl
    · rw [hd, est]
      simp only [Rows.uptoBulk, bulk_texts]
      omega
    · intro hw
      have hub : Tryz.prog.bytesOf 9 = 16 := by kernel_rfl
      rw [hd, est] at hw
      simp only [DataW.weights, Tryz.underlying73, List.mem_cons, List.mem_append, forall_eq_or_imp, hub] at hw
      obtain ⟨hw1, hw2⟩ := hw
      refine ⟨?_, fun f hf => ?_⟩
      · simp only [List.length_map] at hw1 ⊢
        omega
      · refine hw2 _ (Or.inl (weight_all ?_ (List.mem_map.2 ⟨f, hf, rfl⟩)))
        simp [DataW.weights]
theorem laidOut : laidOutB Tryz.prog = true := by kernel_rfl
end Go.Proofs.YtmikgpmnffdnnaaGreatDoor
namespace Go.Proofs.YtmikgpmnffdnnaaGreatDoor
open Go.ChangeShapes Go.WideShapes Go.ChangeAt Go.RowKit
theorem bulk_lits {H : Type} (l : List Int) : Rows.uptoBulkAll (H := H) (lits .u8 l) = l.length := by
  induction l with
  | nil => rfl
  | cons f r ih =>
    show Rows.uptoBulk (.lit (.int .u8 f)) + Rows.uptoBulkAll (lits .u8 r) = _
    rw [ih]
    simp only [Rows.uptoBulk, List.length_cons]
    omega
theorem byte_wf {n : Int} (h : (Lit.int .u8 n).wf = true) : 0 ≤ n ∧ n < 256 := by
  have h1 : IntKind.u8.min = 0 := rfl
  have h2 : IntKind.u8.max = 255 := rfl
  simp only [Lit.wf, Bool.and_eq_true, decide_eq_true_eq] at h
  omega
set_option maxRecDepth 100000 in
theorem open_bytes {H : Type} {enc : TypeId × Value → H} {W : World} {base : Nat} {v : Value} {d : DataW H} {p : List MemPlace} (hok : Value.okWide Tryz.prog W .any base 22 v) (h : DataW.Trod enc Tryz.prog W 0 (fun _ => true) true 22 v d p) :
    ∃ bs : List UInt8, HoldsB W v bs ∧ bs.length + 1 ≤ Rows.uptoBulk d ∧ ((∀ n ∈ d.weights Tryz.prog 22, n ≤ reachBytes) → bs.length ≤ reachBytes) := by
  obtain ⟨a0, len0, cap0, rfl⟩ := okWide_slice Tryz.underlying22 hok
  obtain ⟨fuel, hf⟩ := h
  rcases open_ints Tryz.underlying22 Tryz.underlying5 (by kernel_rfl) hf with ⟨hcs, hx⟩ | ⟨x, l, c, zs, hcs, _, hl, hm, hz, hx, hcell, hws⟩
  · simp [Value.cells] at hcs
    obtain ⟨rfl, rfl, rfl⟩ := hcs
    simp only [Prod.mk.injEq] at hx
    obtain ⟨rfl, _⟩ := hx
    exact ⟨[], ⟨none, 0, rfl, fun _ => rfl, Nat.le_refl _, fun h => absurd rfl h⟩, by simp [Rows.uptoBulk], fun _ => by simp⟩
  · simp [Value.cells] at hcs
    obtain ⟨rfl, rfl, rfl⟩ := hcs
    simp only [Prod.mk.injEq] at hx
    obtain ⟨hd, _⟩ := hx
    have hz' : zs.length = cap0 := by simpa using hz
    have hlen : ((zs.take len0).map (fun z : Int => UInt8.ofNat z.toNat)).length = len0 := by rw [List.length_map, List.length_take, Nat.min_eq_left (by omega)]
    refine ⟨(zs.take len0).map (fun z : Int => UInt8.ofNat z.toNat), ⟨some x, cap0, by rw [hlen], (fun e => by cases e), by omega, ?_⟩, ?_, ?_⟩
    · intro hne
      have hpos : 0 < len0 := by
        rcases Nat.eq_zero_or_pos len0 with h | h
        · subst h; simp at hne
        · exact h
      obtain ⟨b, off, rfl, hblt⟩ := addr_at (hcell 0 (by omega))
      refine ⟨b, off, rfl, hblt, fun j hj => ?_⟩
      rw [hlen] at hj
      have hc := hcell j (by omega)
      rw [Go.WideShapes.add_plain] at hc
      rw [hc]
      have hjz : j < zs.length := by omega
      simp only [List.getElem_map, List.getElem_take]
      rw [List.getD_eq_getElem?_getD, List.getElem?_eq_getElem hjz]
      have hw := hws _ (List.getElem_mem hjz)
      have hb : 0 ≤ zs[j] ∧ zs[j] < 256 := byte_wf hw
      show some (Value.int .u8 zs[j]) = some (B _)
      unfold B
      simp only [Option.some.injEq, Value.int.injEq, true_and]
      rw [UInt8.toNat_ofNat']
      omega
    · rw [hd, hlen]
      simp only [Rows.uptoBulk]
      rw [bulk_lits, List.length_take, Nat.min_eq_left (by omega)]
      omega
    · intro hw
      have hub : Tryz.prog.bytesOf 5 = 1 := by kernel_rfl
      rw [hd] at hw
      simp only [DataW.weights, Tryz.underlying22, List.mem_cons, List.mem_append, forall_eq_or_imp, hub] at hw
      obtain ⟨hw1, hw2⟩ := hw
      rw [hlen]
      have e : (lits (H := H) .u8 (zs.take len0)).length = len0 := by unfold lits; rw [List.length_map, List.length_take, Nat.min_eq_left (by omega)]
      rw [e] at hw1
      omega
end Go.Proofs.YtmikgpmnffdnnaaGreatDoor
namespace Go.Proofs.YtmikgpmnffdnnaaGreatDoor
open Go.RowKit
def ren : Go.Shelf.Ren where
  f := fun x => x
  t := fun x => if x = 5 then 5 else if x = 119 then 186 else if x = 138 then 188 else 189
  g := fun x => if x = 3 then 1 else 2
theorem ren_types : U8Types Tryz.prog ren := ⟨Tryz.underlying5, Tryz.underlying186, Tryz.underlying188, Tryz.underlying189⟩
theorem ren_extra : U8Extra Tryz.prog ren := ⟨by kernel_rfl, by kernel_rfl, by kernel_rfl, by kernel_rfl, by kernel_rfl, by kernel_rfl, by kernel_rfl⟩
set_option maxRecDepth 100000 in
theorem first_eq : Go.Pinned.utf8First = Lib.firstData := by kernel_rfl
set_option maxRecDepth 100000 in
theorem env_of {W : World} {l : List (String × DataW Unit)} (h : laidMet Tryz.prog l W) (hsh : W.ShapedOpen Tryz.prog) (h1 : ("unicode/utf8.first", Go.Pinned.utf8First) ∈ l) (h2 : ("unicode/utf8.acceptRanges", Lib.acceptData) ∈ l) : Env W := by
  rw [first_eq] at h1
  exact ⟨maxV_of hsh, utf8Tabs_of_readsT (ρ := ren) ren_types ren_extra (Lib.laidMet.reads h h1) (Lib.laidMet.reads h h2)⟩
end Go.Proofs.YtmikgpmnffdnnaaGreatDoor
