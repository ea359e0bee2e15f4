/- A list of bytes that came in: what the reading says of it. -/
import Derived.Test.YtipcmbonhkelbabGreatDoorBm
import Derived.Test.YtipcmbonhkelbabGreatDoorXb
import Derived.ChangeSlices
namespace Go.Proofs.YtipcmbonhkelbabGreatDoor
open Go.ChangeShapes Go.WideShapes Go.ChangeAt Go.RowKit
set_option maxRecDepth 100000 in
theorem open_bytes {H : Type} {enc : TypeId × Value → H} {W : World} {base : Nat} {v : Value} {d : DataW H} {p : List MemPlace} (hok : Value.okWide Tryz.prog W .any base 25 v) (h : DataW.Trod enc Tryz.prog W 0 (fun _ => true) true 25 v d p) :
    ∃ bs : List UInt8, HoldsB W v bs ∧ bs.length + 1 ≤ Rows.uptoBulk d ∧ ((∀ n ∈ d.weights Tryz.prog 25, n ≤ reachBytes) → bs.length ≤ reachBytes) := by
  obtain ⟨a0, len0, cap0, rfl⟩ := okWide_slice Tryz.underlying25 hok
  obtain ⟨fuel, hf⟩ := h
  rcases open_ints Tryz.underlying25 Tryz.underlying5 (by kernel_rfl) hf with ⟨hcs, hx⟩ | ⟨x, l, c, zs, hcs, _, hl, hm, hz, hx, hcell, hws⟩
  · simp [Value.cells] at hcs
    obtain ⟨rfl, rfl, rfl⟩ := hcs
    simp only [Prod.mk.injEq] at hx
    obtain ⟨rfl, _⟩ := hx
    exact ⟨[], ⟨none, 0, rfl, fun _ => rfl, Nat.le_refl _, fun h => absurd rfl h⟩, by simp [Rows.uptoBulk], fun _ => by simp⟩
  · simp [Value.cells] at hcs
    obtain ⟨rfl, rfl, rfl⟩ := hcs
    simp only [Prod.mk.injEq] at hx
    obtain ⟨hd, _⟩ := hx
    have hz' : zs.length = cap0 := by simpa using hz
    have hlen : ((zs.take len0).map (fun z : Int => UInt8.ofNat z.toNat)).length = len0 := by rw [List.length_map, List.length_take, Nat.min_eq_left (by omega)]
    refine ⟨(zs.take len0).map (fun z : Int => UInt8.ofNat z.toNat), ⟨some x, cap0, by rw [hlen], (fun e => by cases e), by omega, ?_⟩, ?_, ?_⟩
    · intro hne
      have hpos : 0 < len0 := by
        rcases Nat.eq_zero_or_pos len0 with h | h
        · subst h; simp at hne
        · exact h
      obtain ⟨b, off, rfl, hblt⟩ := addr_at (hcell 0 (by omega))
      refine ⟨b, off, rfl, hblt, fun j hj => ?_⟩
      rw [hlen] at hj
      have hc := hcell j (by omega)
      rw [Go.WideShapes.add_plain] at hc
      rw [hc]
      have hjz : j < zs.length := by omega
      simp only [List.getElem_map, List.getElem_take]
      rw [List.getD_eq_getElem?_getD, List.getElem?_eq_getElem hjz]
      have hw := hws _ (List.getElem_mem hjz)
      have hb : 0 ≤ zs[j] ∧ zs[j] < 256 := byte_wf hw
      show some (Value.int .u8 zs[j]) = some (B _)
      unfold B
      simp only [Option.some.injEq, Value.int.injEq, true_and]
      rw [UInt8.toNat_ofNat']
      omega
    · rw [hd, hlen]
      simp only [Rows.uptoBulk]
      rw [bulk_lits, List.length_take, Nat.min_eq_left (by omega)]
      omega
    · intro hw
      have hub : Tryz.prog.bytesOf 5 = 1 := by kernel_rfl
      rw [hd] at hw
      simp only [DataW.weights, Tryz.underlying25, List.mem_cons, List.mem_append, forall_eq_or_imp, hub] at hw
      obtain ⟨hw1, hw2⟩ := hw
      rw [hlen]
      have e : (lits (H := H) .u8 (zs.take len0)).length = len0 := by unfold lits; rw [List.length_map, List.length_take, Nat.min_eq_left (by omega)]
      rw [e] at hw1
      omega
end Go.Proofs.YtipcmbonhkelbabGreatDoor
