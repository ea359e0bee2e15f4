/- Targets as the model holds them, the cell that a call tells one in, and the library's variable that its search looks at. -/
import Derived.Test.YtddbemleialpbaaDoorUaB
import Derived.Test.YtddbemleialpbaaDoorUrS
import Derived.Test.YtddbemleialpbaaDoorRows
import Derived.Shelf.Vars
import Derived.Deep.QuietTactic
import Derived.BigQuiet
namespace Go.Proofs.YtddbemleialpbaaDoor
open Go.RowKit
theorem cell_lt {w : World} {g : Nat} {v : Value} (h : w.cell? ⟨g, 0, none⟩ = some v) : g < w.heap.size := by
  rcases Nat.lt_or_ge g w.heap.size with h1 | h1
  · exact h1
  · unfold World.cell? at h
    rw [Array.getElem?_eq_none h1] at h
    simp at h
theorem below_draw (w : World) (n : Nat) : Below w.heap.size w (w.drewN n) := by
  induction n with
  | zero => exact Below.refl _ _
  | succ n ih => exact ih.drew
theorem mk_list (l : List UInt8) : (⟨l.toArray⟩ : ByteArray).data.toList = l := by simp
theorem mk_size (l : List UInt8) : (⟨l.toArray⟩ : ByteArray).size = l.length := by simp [ByteArray.size]
theorem size_list (s : ByteArray) : s.size = s.data.toList.length := by simp
theorem ba_ext {a b : ByteArray} (h : a.data.toList = b.data.toList) : a = b := by
  rw [← ba_eta a, ← ba_eta b, h]
/-- a target as the model holds it -/
def tgV (t : Tgt) : Value := .agg #[.string ⟨t.host.toArray⟩, .int .i64 t.port, .string ⟨t.path.toArray⟩]
def ansV (p : Tgt × Int) : Value := .tuple #[tgV p.1, .int .i64 p.2]
theorem ans_none (e : Int) : ansV (Tgt.none, e) = .tuple #[.agg #[.string ⟨#[]⟩, .int .i64 0, .string ⟨#[]⟩], .int .i64 e] := rfl
/-- a block of a target's three cells that may be written -/
def Tri (b : Nat) (W : World) : Prop := (∃ x, W.cell? ⟨b, 0, none⟩ = some (.string x)) ∧ (∃ x, W.cell? ⟨b, 1, none⟩ = some (.int .i64 x)) ∧ (∃ x, W.cell? ⟨b, 2, none⟩ = some (.string x)) ∧
  W.frozen? ⟨b, 0, none⟩ = false ∧ W.frozen? ⟨b, 1, none⟩ = false ∧ W.frozen? ⟨b, 2, none⟩ = false ∧ b < W.heap.size
theorem tri_below {b : Nat} {W W' : World} (h : Tri b W) (hb : Below W.heap.size W W') : Tri b W' := by
  obtain ⟨⟨x0, h0⟩, ⟨x1, h1⟩, ⟨x2, h2⟩, f0, f1, f2, hz⟩ := h
  have c : ∀ o, W'.cell? ⟨b, o, none⟩ = W.cell? ⟨b, o, none⟩ := fun o => hb.cell (p := ⟨b, o, none⟩) hz
  have f : ∀ o, W'.frozen? ⟨b, o, none⟩ = W.frozen? ⟨b, o, none⟩ := fun o => hb.frozen (p := ⟨b, o, none⟩) hz
  exact ⟨⟨x0, by rw [c]; exact h0⟩, ⟨x1, by rw [c]; exact h1⟩, ⟨x2, by rw [c]; exact h2⟩, by rw [f]; exact f0, by rw [f]; exact f1, by rw [f]; exact f2, Nat.lt_of_lt_of_le hz hb.size⟩
theorem oth {b i j : Nat} {W : World} {v : Value} (h : j ≠ i) : (W.setCell ⟨b, j, none⟩ v).cell? ⟨b, i, none⟩ = W.cell? ⟨b, i, none⟩ := World.cell?_setCell_other _ _ _ _ (by first | (simp; done) | omega)
def put3 (b : Nat) (W : World) (v0 v1 v2 : Value) : World := ((W.setCell ⟨b, 0, none⟩ v0).setCell ⟨b, 1, none⟩ v1).setCell ⟨b, 2, none⟩ v2
theorem tri_store {b : Nat} {W : World} (h : Tri b W) (v0 v1 v2 : Value) :
    (put3 b W v0 v1 v2).cell? ⟨b, 0, none⟩ = some v0 ∧ (put3 b W v0 v1 v2).cell? ⟨b, 1, none⟩ = some v1 ∧ (put3 b W v0 v1 v2).cell? ⟨b, 2, none⟩ = some v2 := by
  obtain ⟨⟨x0, h0⟩, ⟨x1, h1⟩, ⟨x2, h2⟩, _⟩ := h
  unfold put3
  refine ⟨?_, ?_, ?_⟩
  · rw [oth (by decide), oth (by decide)]
    exact World.cell?_setCell_same _ _ _ h0
  · rw [oth (by decide)]
    exact World.cell?_setCell_same (u := .int .i64 x1) _ _ _ (by rw [oth (by decide)]; exact h1)
  · exact World.cell?_setCell_same (u := .string x2) _ _ _ (by rw [oth (by decide), oth (by decide)]; exact h2)
theorem put3_below {w W : World} {b : Nat} (h : Below w.heap.size w W) (hb : w.heap.size ≤ b) (v0 v1 v2 : Value) : Below w.heap.size w (put3 b W v0 v1 v2) :=
  ((h.setCell hb _).setCell hb _).setCell hb _
theorem tri_new (w : World) : Tri w.heap.size (w.alloc (.cells #[.string ⟨#[]⟩, .int .i64 0, .string ⟨#[]⟩] 23)) :=
  ⟨⟨⟨#[]⟩, by simp⟩, ⟨0, by simp⟩, ⟨⟨#[]⟩, by simp⟩, by simp, by simp, by simp, by simp⟩
theorem tri_lit (w : World) (a c : ByteArray) (p : Int) : Tri w.heap.size (w.alloc (.cells #[.string a, .int .i64 p, .string c] 23)) :=
  ⟨⟨a, by simp⟩, ⟨p, by simp⟩, ⟨c, by simp⟩, by simp, by simp, by simp, by simp⟩
theorem cells_below {b : Nat} {W W' : World} {v0 v1 v2 : Value} (h : W.cell? ⟨b, 0, none⟩ = some v0 ∧ W.cell? ⟨b, 1, none⟩ = some v1 ∧ W.cell? ⟨b, 2, none⟩ = some v2) (hz : b < W.heap.size) (hb : Below W.heap.size W W') :
    W'.cell? ⟨b, 0, none⟩ = some v0 ∧ W'.cell? ⟨b, 1, none⟩ = some v1 ∧ W'.cell? ⟨b, 2, none⟩ = some v2 := by
  have c : ∀ o, W'.cell? ⟨b, o, none⟩ = W.cell? ⟨b, o, none⟩ := fun o => hb.cell (p := ⟨b, o, none⟩) hz
  rw [c, c, c]; exact h
theorem put3_size {b : Nat} {W : World} (v0 v1 v2 : Value) : (put3 b W v0 v1 v2).heap.size = W.heap.size := by simp [put3, World.setCell]
theorem alloc_below (w : World) (r : Obj) : Below w.heap.size w (w.alloc r) := (Below.refl _ _).alloc (Nat.le_refl _) _
/-- what stands ahead of a text's first colon, and behind it -/
def hostT (s : ByteArray) : ByteArray := ⟨(hostOf s.data.toList).toArray⟩
def digsT (s : ByteArray) : ByteArray := ⟨(digsOf s.data.toList).toArray⟩
theorem hostT_list (s : ByteArray) : (hostT s).data.toList = hostOf s.data.toList := mk_list _
theorem digsT_list (s : ByteArray) : (digsT s).data.toList = digsOf s.data.toList := mk_list _
theorem hostT_size (s : ByteArray) : (hostT s).size ≤ s.size := by
  unfold hostT; rw [mk_size, ← len_list]; exact (List.takeWhile_sublist noCol).length_le
theorem digsT_size (s : ByteArray) : (digsT s).size ≤ s.size := by
  unfold digsT digsOf; rw [mk_size, ← len_list, List.length_drop]
  have := (List.dropWhile_sublist (l := s.data.toList) noCol).length_le
  omega
theorem auth_long (s : ByteArray) (h : 4096 < s.size) : authP s.data.toList = (Tgt.none, 101) := by
  unfold authP; rw [len_list, if_pos h]
theorem auth_host (s : ByteArray) (h : ¬ 4096 < s.size) (hh : isHost (hostT s).data.toList = false) : authP s.data.toList = (Tgt.none, 32) := by
  rw [hostT_list] at hh
  unfold authP; rw [len_list, if_neg h, if_pos hh]
theorem auth_port (s : ByteArray) (h : ¬ 4096 < s.size) (hh : isHost (hostT s).data.toList = true) (hp : portOf (digsT s).data.toList = 0) : authP s.data.toList = (Tgt.none, 33) := by
  rw [hostT_list] at hh; rw [digsT_list] at hp
  unfold authP; rw [len_list, if_neg h, if_neg (by rw [hh]; simp), if_pos hp]
theorem auth_ok (s : ByteArray) (h : ¬ 4096 < s.size) (hh : isHost (hostT s).data.toList = true) (p : Int) (hp : portOf (digsT s).data.toList = p) (h0 : p ≠ 0) : authP s.data.toList = (⟨lows (hostT s).data.toList, p, []⟩, 0) := by
  rw [hostT_list] at hh ⊢; rw [digsT_list] at hp
  unfold authP; rw [len_list, if_neg h, if_neg (by rw [hh]; simp), hp, if_neg h0]
end Go.Proofs.YtddbemleialpbaaDoor
