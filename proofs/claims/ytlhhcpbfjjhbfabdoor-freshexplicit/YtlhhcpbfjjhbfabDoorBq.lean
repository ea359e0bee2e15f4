/- The contract of the document's Unquote: it returns what unqS says. The contract of the document's directives. The contracts of the document's find and number. -/
import Derived.Test.YtlhhcpbfjjhbfabDoorBn
import Derived.Laws.DeepStrings4
import Derived.Test.YtlhhcpbfjjhbfabDoorKnG
import Derived.Deep.RegionHeld3
import Derived.Deep.DeepCutAuto
namespace Go.Proofs.YtlhhcpbfjjhbfabDoor
open Go.RowKit
theorem cut_inner (s : ByteArray) (h3 : 2 ≤ s.size) (w : World) : ∃ t : ByteArray,
    Sem.run Tryd.prog (Instr.slice 9 (.string s) (some (.int .i64 1)) (some (.int .i64 ((s.size : Int) - 1))) none) w = .ok (.string t) w ∧ t.data.toList = inner s := by
  refine ⟨s.extract 1 (s.size - 1), ?_, ?_⟩
  · rw [run_slice_string (h := Tryd.underlying9)]
    · congr 2; congr 1; omega
    · omega
    · omega
    · omega
  · rw [extract_list]; unfold inner; rw [show s.size - 1 - 1 = s.size - 2 by omega]
section
variable {L : List UInt8} {t : ByteArray} {k : Nat} {o : List UInt8}
theorem list_at (ht : t.data.toList = L) (hk : k < t.size) : ∃ h : k < L.length, L[k] = t[k] := by
  subst ht
  exact ⟨by simpa using hk, by simp; rfl⟩
theorem len_of (ht : t.data.toList = L) : L.length = t.size := by subst ht; simp
end
end Go.Proofs.YtlhhcpbfjjhbfabDoor
namespace Go.Proofs.YtlhhcpbfjjhbfabDoor
open Go.RowKit
theorem els_poke {el : List (List UInt8)} {b o g i : Nat} {v : Value} {W : World} (h : Els el b o v W) (hne : 0 < el.length → b ≠ g) (x : Value) : Els el b o v (W.setCell ⟨g, i, none⟩ x) := by
  intro hp
  obtain ⟨h1, h2, h3⟩ := h hp
  refine ⟨h1, by simpa using h2, fun j hj => ?_⟩
  have e : (W.setCell ⟨g, i, none⟩ x).cell? ⟨b, o + j, none⟩ = W.cell? ⟨b, o + j, none⟩ := by simp [World.cell?, heap_setCell_other W ⟨g, i, none⟩ b x (hne hp)]
  rw [e]
  exact h3 j hj
def KeepsK (W W' : World) : Prop := (∀ g, g < W.heap.size → g < W'.heap.size) ∧ (∀ g o, g < W.heap.size → W'.cell? ⟨g, o, none⟩ = W.cell? ⟨g, o, none⟩) ∧ (∀ g o, g < W.heap.size → W'.frozen? ⟨g, o, none⟩ = W.frozen? ⟨g, o, none⟩)
theorem keepsK_of {W W' : World} (h : Below W.heap.size W W') : KeepsK W W' := ⟨fun _ hg => Nat.lt_of_lt_of_le hg h.size, fun g o hg => h.cell (p := ⟨g, o, none⟩) hg, fun g o hg => h.frozen (p := ⟨g, o, none⟩) hg⟩
theorem below_daK (W : World) (o : Obj) : Below W.heap.size W (W.drew.alloc o) := (Below.refl _ W).drew.alloc (by simp) o
theorem below_adK (W : World) (o : Obj) : Below W.heap.size W (W.alloc o).drew := (below_alloc' W o).drew
theorem arg_yes (Y : ByteArray) (h0 : 0 < Y.size) (h : (Y[0].toNat : Int) = 34) : argOf Y.data.toList = (unqS Y).1 := by
  have e : Y.data.toList.head? = some 34 := by
    cases hd : Y.data.toList with
    | nil => have : Y.data.toList.length = Y.size := by simp
             rw [hd] at this; simp at this; omega
    | cons x r =>
      have e1 : Y[0] = x := by
        have : Y.data.toList[0]'(by simpa using h0) = x := by simp [hd]
        exact this
      rw [e1] at h
      have e2 : x = 34 := by
        have h3 : x.toNat = 34 := by omega
        exact UInt8.toNat_inj.1 (by rw [h3]; rfl)
      rw [e2]; rfl
  unfold argOf
  rw [if_pos e, ba_eta]
theorem arg_no (Y : ByteArray) (h : ∀ h0 : 0 < Y.size, ¬ (Y[0].toNat : Int) = 34) : argOf Y.data.toList = Y.data.toList := by
  unfold argOf
  rw [if_neg]
  intro e
  cases hd : Y.data.toList with
  | nil => rw [hd] at e; simp at e
  | cons x r =>
    rw [hd] at e
    simp at e
    have h0 : 0 < Y.size := by have : Y.data.toList.length = Y.size := by simp
                               rw [hd] at this; simp at this; omega
    have e1 : Y[0] = x := by
      have : Y.data.toList[0]'(by simpa using h0) = x := by simp [hd]
      exact this
    exact h h0 (by rw [e1, e]; decide)
theorem blk_put {w4 W w6 : World} {v0 v1 v2 u0 u1 u2 : Value} {t : TypeId} (hW : Below (w4.alloc (.cells #[u0, u1, u2] t)).heap.size (w4.alloc (.cells #[u0, u1, u2] t)) W) (h : Below W.heap.size W w6) :
    Blk w4.heap.size (((w6.setCell ⟨w4.heap.size, 0, none⟩ v0).setCell ⟨w4.heap.size, 1, none⟩ v1).setCell ⟨w4.heap.size, 2, none⟩ v2) [v0, v1, v2] ∧ Below w4.heap.size w4 (((w6.setCell ⟨w4.heap.size, 0, none⟩ v0).setCell ⟨w4.heap.size, 1, none⟩ v1).setCell ⟨w4.heap.size, 2, none⟩ v2) := by
  have h1 := cells_below (cells_below (cells_lit w4 #[u0, u1, u2] t) hW) h
  have h2 : Below w4.heap.size w4 w6 := bt' (bt' (below_alloc' w4 _) hW) h
  have h3 := cells_put h1 [v0, v1, v2] rfl
  have h4 := put_below (Nat.le_refl _) [v0, v1, v2] 0 w6 h2
  exact ⟨h3, h4⟩
theorem unq_smallK (Y : ByteArray) : (unqS Y).1.length ≤ Y.size := by
  have h := unq_small Y.data.toList
  rw [ba_eta] at h
  simpa using h
theorem ne_cellK {W : World} {g o : Nat} {v : Value} (h : W.cell? ⟨g, o, none⟩ = some v) : W.heap.size ≠ g := fun e => by
  have := World.block_lt_of_cell? _ _ h
  simp at this
  omega
end Go.Proofs.YtlhhcpbfjjhbfabDoor
namespace Go.Proofs.YtlhhcpbfjjhbfabDoor
open Go.RowKit
/-- where the first directive of a name stands: k is the number's length where there is none -/
theorem fnd_split (ds : List DV) (nm : List UInt8) : (∃ (k : Nat) (h : k < ds.length), fndD ds nm = some ds[k] ∧ ∀ j (hj : j < ds.length), j < k → ¬ ds[j].1 = nm) ∨ (fndD ds nm = none ∧ ∀ j (hj : j < ds.length), ¬ ds[j].1 = nm) := by
  cases h : fndD ds nm with
  | none =>
    right
    refine ⟨rfl, fun j hj e => ?_⟩
    unfold fndD at h
    rw [List.find?_eq_none] at h
    have := h _ (List.getElem_mem hj)
    simp at this
    exact this e
  | some d =>
    left
    unfold fndD at h
    rw [List.find?_eq_some_iff_getElem] at h
    obtain ⟨_, k, hk, hd, hlt⟩ := h
    refine ⟨k, hk, by rw [hd], fun j hj hjk => ?_⟩
    have := hlt j hjk
    simpa using this
/-- where find ends: at k, or nowhere -/
def AtD (ds : List DV) (nm : List UInt8) (k : Int) : Prop := (∃ (j : Nat) (h : j < ds.length), k = (j : Int) ∧ fndD ds nm = some ds[j]) ∨ (k = -1 ∧ fndD ds nm = none)
end Go.Proofs.YtlhhcpbfjjhbfabDoor
