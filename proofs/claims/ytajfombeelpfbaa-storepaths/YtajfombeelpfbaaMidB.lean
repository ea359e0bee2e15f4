/- A part of a list of bytes as a value; such a list as a text. -/
import Derived.Test.YtajfombeelpfbaaCpB
namespace Go.Proofs.Ytajfombeelpfbaa
open Go.RowKit
theorem sub_holds {w : World} {b off cap k m : Nat} {bs : List UInt8} (hk : k ≤ m) (hm : m ≤ bs.length) (hcp : bs.length ≤ cap) (hlt : b < w.heap.size) (hcell : ∀ j (h : j < bs.length), w.cell? ⟨b, off + j, none⟩ = some (B bs[j])) :
    HoldsB w (.slice (some ⟨b, off + k, none⟩) (m - k) (cap - k)) ((bs.drop k).take (m - k)) := by
  have hl : ((bs.drop k).take (m - k)).length = m - k := by rw [List.length_take, List.length_drop]; omega
  refine ⟨_, _, by rw [hl], (fun e => by cases e), by omega, fun _ => ⟨b, off + k, rfl, hlt, fun j hj => ?_⟩⟩
  rw [Nat.add_assoc, hcell (k + j) (by omega)]
  simp
theorem midB {w : World} {v : Value} {bs : List UInt8} (h : HoldsB w v bs) (k m : Nat) (hk : k ≤ m) (hm : m ≤ bs.length) :
    ∃ pv, (∀ W, Sem.run Try.prog (Instr.slice 24 v (some (.int .i64 (k : Int))) (some (.int .i64 (m : Int))) none) W = .ok pv W) ∧ HoldsB w pv ((bs.drop k).take (m - k)) := by
  obtain ⟨ao, cap, rfl, h0, hcp, hc⟩ := h
  have hel : Try.prog.elem 24 = 5 := by kernel_rfl
  have hh : ∀ W, Sem.run Try.prog (Instr.slice 24 (.slice ao bs.length cap) (some (.int .i64 (k : Int))) (some (.int .i64 (m : Int))) none) W = .ok (sliced ao k m cap 1) W := by
    intro W
    have h := run_slice_lh (P := Try.prog) W 24 ao bs.length cap (by rw [hel]; exact Try.underlying24) .i64 .i64 k m (by omega) (by omega) (by omega)
    rw [hel, Try.sizeOf5] at h
    simp only [Result.andThen, Int.toNat_natCast] at h
    exact h
  refine ⟨_, hh, ?_⟩
  unfold sliced
  by_cases hz : k < bs.length
  · obtain ⟨b, off, rfl, hlt, hcell⟩ := hc (by intro e; rw [e] at hz; simp at hz)
    rw [if_neg (by omega), Nat.mul_one, Option.map_some, Go.WideShapes.add_plain]
    exact sub_holds hk hm hcp hlt hcell
  · have hl : (bs.drop k).take (m - k) = [] := by rw [List.take_eq_nil_iff]; exact .inl (by omega)
    rw [hl]
    have hz : m - k = 0 := by omega
    rw [hz]
    cases ao with
    | none =>
      have := h0 rfl
      subst this
      refine ⟨none, 0, ?_, fun _ => rfl, Nat.le_refl _, fun h => absurd rfl h⟩
      simp
    | some ad =>
      by_cases hq : cap = k
      · refine ⟨some ad, 0, ?_, (fun h => by cases h), Nat.le_refl _, fun h => absurd rfl h⟩
        simp [hq]
      · refine ⟨some (ad.add k), cap - k, ?_, (fun h => by cases h), Nat.zero_le _, fun h => absurd rfl h⟩
        simp [hq]
theorem takeB {w : World} {v : Value} {bs : List UInt8} (h : HoldsB w v bs) (k : Nat) (hk : k ≤ bs.length) : ∃ pv, (∀ W, Sem.run Try.prog (Instr.slice 24 v none (some (.int .i64 (k : Int))) none) W = .ok pv W) ∧ HoldsB w pv (bs.take k) := by
  have h' := h
  obtain ⟨ao, cap, rfl, h0, hc, _⟩ := h'
  refine ⟨.slice ao k cap, fun W => ?_, holdsB_pre h k hk⟩
  have hel : Try.prog.elem 24 = 5 := by kernel_rfl
  have hh := run_slice_h (P := Try.prog) W 24 ao bs.length cap (by rw [hel]; exact Try.underlying24) .i64 k (by omega) (by omega)
  rw [hel, Try.sizeOf5] at hh
  simp only [Result.andThen, Int.toNat_natCast, sliced] at hh
  rw [hh]
  by_cases hz : cap = 0
  · subst hz
    obtain rfl : k = 0 := by omega
    cases ao <;> simp
  · simp [Addr.add]
theorem conv_holds {w : World} {v : Value} {bs : List UInt8} (h : HoldsB w v bs) : Sem.run Try.prog (convert 24 9 v) w = .ok (.string ⟨bs.toArray⟩) w := by
  obtain ⟨ao, cap, rfl, h0, hcp, hc⟩ := h
  by_cases hz : bs = []
  · subst hz
    rw [run_convert_bytes_string w 24 9 5 _ _ _ Try.underlying24 Try.underlying5 Try.underlying9]
    cases ao with
    | none =>
      unfold Conv.bytesToString
      simp [Sem.run_pure]
      rfl
    | some ad =>
      have hl : (loadCells ad 0).run Try.prog w = .ok ((([] : List UInt8).map (fun c => (c.toNat : Int))).map (Value.int .u8)).toArray w := by
        have := run_loadCells_list (P := Try.prog) (w := w) ad ([] : List Value) (fun j v hv => by simp at hv)
        simpa using this
      rw [List.length_nil, run_bytesToString w _ _ _ _ hl, fold_push]
      simp
  · obtain ⟨b, off, rfl, hlt, hcell⟩ := hc hz
    have hl : (loadCells ⟨b, off, none⟩ bs.length).run Try.prog w = .ok ((bs.map (fun c => (c.toNat : Int))).map (Value.int .u8)).toArray w := by
      have := run_loadCells_list (P := Try.prog) (w := w) ⟨b, off, none⟩ (bs.map B) (fun j v hv => by
        obtain ⟨hj1, hj2⟩ := List.getElem?_eq_some_iff.1 hv
        rw [List.length_map] at hj1
        rw [Go.WideShapes.add_plain, hcell j hj1, ← hj2]
        simp)
      simpa [map_B] using this
    rw [run_convert_bytes_string w 24 9 5 _ _ _ Try.underlying24 Try.underlying5 Try.underlying9, run_bytesToString w _ _ _ _ hl, fold_push]
    simp
end Go.Proofs.Ytajfombeelpfbaa
