/- A list of lists of bytes that came in: what the reading says of it. -/
import Derived.Test.YtbpegpklbenblaaOpnB
import Derived.Deep.Matrix
namespace Go.Proofs.Ytbpegpklbenblaa
open Go.ChangeShapes Go.WideShapes Go.ChangeAt Go.RowKit
/-- v is a slice whose elements are slices of these bytes -/
def HoldsL (w : World) (v : Value) (xs : List (List UInt8)) : Prop :=
  ∃ ao cap, v = .slice ao xs.length cap ∧ (ao = none → cap = 0) ∧ xs.length ≤ cap ∧ (xs ≠ [] → ∃ b off, ao = some ⟨b, off, none⟩ ∧ b < w.heap.size ∧ ∀ j (h : j < xs.length), ∃ u, w.cell? ⟨b, off + j, none⟩ = some u ∧ HoldsB w u xs[j])
theorem holdsL_mono {w w' : World} {v : Value} {xs : List (List UInt8)} (h : HoldsL w v xs) (hb : Below w.heap.size w w') : HoldsL w' v xs := by
  obtain ⟨ao, cap, rfl, h0, hcp, hc⟩ := h
  refine ⟨ao, cap, rfl, h0, hcp, fun hne => ?_⟩
  obtain ⟨b, off, rfl, hlt, hcell⟩ := hc hne
  refine ⟨b, off, rfl, Nat.lt_of_lt_of_le hlt hb.size, fun j hj => ?_⟩
  obtain ⟨u, h1, h2⟩ := hcell j hj
  exact ⟨u, by rw [hb.cell (p := ⟨b, off + j, none⟩) hlt]; exact h1, holdsB_mono h2 hb⟩
theorem bulk_rows {H : Type} (f : Nat → List UInt8) (g : Nat → DataW H) : ∀ (ks : List Nat), (∀ k ∈ ks, (f k).length + 1 ≤ Rows.uptoBulk (g k)) → bulkT (ks.map f) ≤ Rows.uptoBulkAll (ks.map g) := by
  intro ks
  induction ks with
  | nil => intro _; exact Nat.zero_le _
  | cons k r ih =>
    intro h
    have h1 := h k (by simp)
    have h2 := ih (fun k hk => h k (by simp [hk]))
    show (f k).length + 1 + bulkT (r.map f) ≤ Rows.uptoBulk (g k) + Rows.uptoBulkAll (r.map g)
    omega
def bytesZ (zs : List Int) : List UInt8 := zs.map (fun z : Int => UInt8.ofNat z.toNat)
theorem bytesZ_get (zs : List Int) (i : Nat) (h : i < (bytesZ zs).length) : (bytesZ zs)[i] = UInt8.ofNat (zs[i]'(by simpa [bytesZ] using h)).toNat := by simp [bytesZ]
set_option maxRecDepth 100000 in
theorem open_lists {H : Type} {enc : TypeId × Value → H} {W : World} {base : Nat} {v : Value} {d : DataW H} {p : List MemPlace} (hok : Value.okWide Try.prog W .any base 34 v) (h : DataW.Trod enc Try.prog W 0 (fun _ => true) true 34 v d p) :
    ∃ xs : List (List UInt8), HoldsL W v xs ∧ bulkT xs + 1 ≤ Rows.uptoBulk d := by
  obtain ⟨a0, len0, cap0, rfl⟩ := okWide_slice Try.underlying34 hok
  obtain ⟨fuel, hf⟩ := h
  rcases Go.Deep.open_int_rows Try.underlying34 Try.underlying40 Try.underlying5 (by kernel_rfl) (by kernel_rfl) hf with ⟨hcs, hx⟩ | ⟨a, len, cap, A, L, C, Z, hcs, _, hl, hm, hx, hcell⟩
  · simp [Value.cells] at hcs
    obtain ⟨rfl, rfl, rfl⟩ := hcs
    simp only [Prod.mk.injEq] at hx
    obtain ⟨rfl, _⟩ := hx
    exact ⟨[], ⟨none, 0, rfl, fun _ => rfl, Nat.le_refl _, fun h => absurd rfl h⟩, by simp [bulkT, Rows.uptoBulk]⟩
  · simp [Value.cells] at hcs
    obtain ⟨rfl, rfl, rfl⟩ := hcs
    simp only [Prod.mk.injEq] at hx
    obtain ⟨hd, _⟩ := hx
    have rowOf : ∀ r, r < cap0 → (bytesZ ((Z r).take (L r))).length = L r := by
      intro r hr
      obtain ⟨_, hLC, _, hZ, _⟩ := hcell r hr
      unfold bytesZ
      rw [List.length_map, List.length_take, hZ]
      omega
    have hlen : ((List.range len0).map fun r => bytesZ ((Z r).take (L r))).length = len0 := by simp
    refine ⟨(List.range len0).map fun r => bytesZ ((Z r).take (L r)), ⟨some a, cap0, by rw [hlen], (fun e => by cases e), by rw [hlen]; exact hl, fun hne => ?_⟩, ?_⟩
    · have hpos : 0 < len0 := by
        rcases Nat.eq_zero_or_pos len0 with h | h
        · subst h; simp at hne
        · exact h
      obtain ⟨b, off, rfl, hblt⟩ := addr_at (hcell 0 (by omega)).1
      refine ⟨b, off, rfl, hblt, fun j hj => ?_⟩
      rw [hlen] at hj
      obtain ⟨hc, hLC, hCm, hZ, hwf, hnil, hin⟩ := hcell j (by omega)
      rw [Go.WideShapes.add_plain] at hc
      refine ⟨_, hc, ?_⟩
      have hr := rowOf j (by omega)
      simp only [List.getElem_map, List.getElem_range]
      refine ⟨A j, C j, by rw [hr], hnil, by rw [hr]; exact hLC, fun hne2 => ?_⟩
      have hLp : 0 < L j := by
        rcases Nat.eq_zero_or_pos (L j) with h | h
        · exact absurd (List.eq_nil_of_length_eq_zero (hr.trans h)) hne2
        · exact h
      obtain ⟨a', hA⟩ : ∃ a', A j = some a' := by
        cases hA : A j with
        | none => have := hnil hA; omega
        | some a' => exact ⟨a', rfl⟩
      obtain ⟨_, hin'⟩ := hin a' hA
      obtain ⟨b2, off2, e2, hlt2⟩ := addr_at (hin' 0 (by omega))
      subst e2
      refine ⟨b2, off2, hA, hlt2, fun i hi => ?_⟩
      rw [hr] at hi
      have hci := hin' i (by omega)
      rw [Go.WideShapes.add_plain] at hci
      rw [hci]
      have hiz : i < (Z j).length := by rw [hZ]; omega
      rw [bytesZ_get, List.getD_eq_getElem?_getD, List.getElem?_eq_getElem hiz]
      simp only [List.getElem_take]
      have hb : 0 ≤ (Z j)[i] ∧ (Z j)[i] < 256 := byte_wf (hwf _ (List.getElem_mem hiz))
      show some (Value.int .u8 (Z j)[i]) = some (B _)
      unfold B
      simp only [Option.some.injEq, Value.int.injEq, true_and]
      rw [UInt8.toNat_ofNat']
      omega
    · rw [hd]
      simp only [Rows.uptoBulk]
      have := bulk_rows (H := H) (fun r => bytesZ ((Z r).take (L r))) (fun r => Go.Deep.intRow .u8 (A r) (L r) (Z r)) (List.range len0) ?_
      · omega
      · intro r hr
        have hr' := List.mem_range.1 hr
        have e := rowOf r (by omega)
        rw [e]
        obtain ⟨_, hLC, _, hZ, _, hnil, _⟩ := hcell r (by omega)
        unfold Go.Deep.intRow
        cases hA : A r with
        | none =>
          have := hnil hA
          simp [Rows.uptoBulk]
          omega
        | some x =>
          simp only [Rows.uptoBulk]
          rw [bulk_lits, List.length_take, hZ]
          omega
end Go.Proofs.Ytbpegpklbenblaa
