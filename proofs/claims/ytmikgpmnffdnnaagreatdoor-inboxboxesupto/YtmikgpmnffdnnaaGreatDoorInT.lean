/- A list's middle part as a value. -/
import Derived.Test.YtmikgpmnffdnnaaGreatDoorBf
import Derived.Test.YtmikgpmnffdnnaaGreatDoorBd
namespace Go.Proofs.YtmikgpmnffdnnaaGreatDoor
open Go.RowKit
theorem holdsB_mid {w : World} {v : Value} {bs : List UInt8} (h : HoldsB w v bs) (k m : Nat) (e : Int) (he : e = m) (hk : k ≤ m) (hm : m ≤ bs.length) :
    ∃ pv, (∀ W, Sem.run Tryz.prog (Instr.slice 22 v (some (.int .i64 (k : Int))) (some (.int .i64 e)) none) W = .ok pv W) ∧ HoldsB w pv ((bs.drop k).take (m - k)) := by
  have HV := h
  obtain ⟨ao, cap, rfl, h0, hcp, hc⟩ := h
  by_cases hz : k < bs.length
  · obtain ⟨b, off, rfl, hlt, hcell⟩ := hc (by intro e; rw [e] at hz; simp at hz)
    refine ⟨.slice (some ⟨b, off + k, none⟩) (m - k) (cap - k), fun W => cutp_at b off bs.length cap k e m he hk hm hz hcp W, ?_⟩
    have e2 : Lib.fromV (some ⟨b, off, none⟩) bs.length cap k = .slice (some ⟨b, off + k, none⟩) (bs.length - k) (cap - k) := by
      unfold Lib.fromV
      rw [if_neg (by omega)]
      simp [Addr.add]
    have HS := holdsB_suf HV k (by omega)
    rw [e2, ← List.length_drop] at HS
    exact holdsB_pre HS (m - k) (by rw [List.length_drop]; omega)
  · have e1 : k = bs.length := by omega
    have e2 : m = bs.length := by omega
    subst he
    have hel : Tryz.prog.elem 22 = 5 := by kernel_rfl
    have hh : ∀ W, Sem.run Tryz.prog (Instr.slice 22 (.slice ao bs.length cap) (some (.int .i64 (k : Int))) (some (.int .i64 (m : Int))) none) W = .ok (sliced ao k m cap 1) W := by
      intro W
      have h := run_slice_lh (P := Tryz.prog) W 22 ao bs.length cap (by rw [hel]; exact Tryz.underlying22) .i64 .i64 k m (by omega) (by omega) (by omega)
      rw [hel, Tryz.sizeOf5] at h
      simp only [Result.andThen, Int.toNat_natCast] at h
      exact h
    have hl : (bs.drop k).take (m - k) = [] := by rw [List.take_eq_nil_iff]; exact .inl (by omega)
    rw [hl]
    refine ⟨_, hh, ?_⟩
    unfold sliced
    have hz : m - k = 0 := by omega
    rw [hz]
    cases ao with
    | none =>
      have := h0 rfl
      subst this
      refine ⟨none, 0, ?_, fun _ => rfl, Nat.le_refl _, fun h => absurd rfl h⟩
      simp
    | some ad =>
      by_cases hq : cap = k
      · refine ⟨some ad, 0, ?_, (fun h => by cases h), Nat.le_refl _, fun h => absurd rfl h⟩
        simp [hq]
      · refine ⟨some (ad.add k), cap - k, ?_, (fun h => by cases h), Nat.zero_le _, fun h => absurd rfl h⟩
        simp [hq]
end Go.Proofs.YtmikgpmnffdnnaaGreatDoor
