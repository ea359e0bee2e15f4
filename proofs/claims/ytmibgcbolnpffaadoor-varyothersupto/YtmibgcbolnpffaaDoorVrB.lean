/- The contracts of the library's Builder: WriteString, WriteByte, String; of Join at a comma. -/
import Derived.Test.YtmibgcbolnpffaaDoorVrP
import Derived.Test.YtmibgcbolnpffaaDoorBk
import Derived.Test.YtmibgcbolnpffaaDoorBm
import Derived.Test.YtmibgcbolnpffaaDoorShelfW
namespace Go.Proofs.YtmibgcbolnpffaaDoor
open Go.RowKit
theorem Tryd.Builder_Extra_W : Builder.Extra Tryd.prog Tryd.laysW_ren where
  sizeBuilder := by kernel_rfl
  liesBuilder := by kernel_rfl
  t5 := Tryd.underlying5
  a5 := Tryd.isAgg5
  z5 := Tryd.sizeOf5
  v5 := Tryd.zeroValue5
  infoByte := by kernel_rfl
  cellsByte := by kernel_rfl
  sizeByte := by kernel_rfl
  neB5 := by decide
/-- a builder at block b, above B, that holds these bytes -/
def BlD (B b : Nat) (l : List UInt8) (w : World) : Prop := Lib.IsBuilder 54 5 B b (Lib.byteCells l) w ∧ B ≤ w.heap.size
theorem byteCells_app (a b : List UInt8) : Lib.byteCells (a ++ b) = Lib.byteCells a ++ Lib.byteCells b := by simp [Lib.byteCells]
theorem byteCells_len (a : List UInt8) : (Lib.byteCells a).length = a.length := by simp [Lib.byteCells]
theorem strCells_l (l : List UInt8) : Lib.strCells ⟨l.toArray⟩ = Lib.byteCells l := by simp [Lib.strCells, Lib.byteCells]
theorem blD_new (w : World) : BlD w.heap.size w.heap.size [] (w.alloc (.cells #[.pointer none, .slice none 0 0] 54)) := by
  refine ⟨.inl ⟨Nat.le_refl _, .slice none 0 0, heap_alloc_new _ _, World.ownsRow_nil _ _ _ _, by simp [Value.ownBlock]⟩, by simp⟩
theorem wrS {B b : Nat} {l : List UInt8} {w : World} (h : BlD B b l w) (s : ByteArray) (t : List UInt8) (hs : s.data.toList = t) (hlen : l.length + t.length ≤ 140737488355328) :
    Calls Tryd.prog 30 #[.pointer (some ⟨b, 0, none⟩), .string s] w fun e w' => ∃ x y, e = .returned (.tuple #[x, y]) ∧ BlD B b (l ++ t) w' ∧ Below B w w' := by
  have e : s = ⟨t.toArray⟩ := by cases s; simp at hs; simp [← hs]
  subst e
  refine (Any.Builder_WriteString { Tryd.laysW with } Tryd.Builder_Extra_W B b _ ⟨t.toArray⟩ w h.1 (by rw [byteCells_len, size_l]; exact hlen) h.2).mono ?_
  rintro e w' ⟨rfl, h1, h2⟩
  rw [strCells_l, ← byteCells_app] at h1
  exact ⟨_, _, rfl, ⟨.inr h1, Nat.le_trans h.2 h2.size⟩, h2⟩
theorem wrB {B b : Nat} {l : List UInt8} {w : World} (h : BlD B b l w) (c : UInt8) (n : Int) (hn : n = (c.toNat : Int)) (hlen : l.length + 1 ≤ 140737488355328) :
    Calls Tryd.prog 31 #[.pointer (some ⟨b, 0, none⟩), .int .u8 n] w fun e w' => ∃ x, e = .returned x ∧ BlD B b (l ++ [c]) w' ∧ Below B w w' := by
  subst hn
  refine (Any.Builder_WriteByte Tryd.laysW7 Tryd.Builder_Extra_W B b _ (c.toNat : Int) w h.1 (by rw [byteCells_len]; exact hlen) h.2).mono ?_
  rintro e w' ⟨rfl, h1, h2⟩
  exact ⟨_, rfl, ⟨.inr (by rw [byteCells_app]; exact h1), Nat.le_trans h.2 h2.size⟩, h2⟩
theorem blS {B b : Nat} {l : List UInt8} {w : World} (h : BlD B b l w) :
    Calls Tryd.prog 33 #[.pointer (some ⟨b, 0, none⟩)] w fun e w' => e = .returned (.string ⟨l.toArray⟩) ∧ Below B w w' :=
  Any.Builder_String_any { Tryd.laysW with } Tryd.Builder_Extra_W B b l w h.1 h.2
theorem joinV (w1 wr : World) (F : List Nm) (u : Value) (hown : OwnS w1 u F wr) (hlen : bulkT F ≤ 4194304) :
    Calls Tryd.prog 32 #[u, .string ⟨#[44]⟩] wr fun e w' => e = .returned (.string ⟨(commas F).toArray⟩) ∧ Below wr.heap.size wr w' := by
  have hF := bulkT_len F
  have hj := commas_len F
  have em : (F.map (fun l => (⟨l.toArray⟩ : ByteArray))).map (·.data.toList) = F := by
    rw [List.map_map]
    conv => rhs; rw [← List.map_id F]
    exact List.map_congr_left (fun l _ => by simp)
  obtain ⟨hl, h1 | ⟨g, cap, cur, rfl, hg, hh, hr⟩⟩ := hown.1
  · obtain ⟨rfl, hn⟩ := h1
    obtain rfl : F = [] := List.eq_nil_of_length_eq_zero hn
    refine (Any.strings_Join_none Tryd.laysW Tryd.Builder_Extra_W none 0 ⟨#[44]⟩ wr).mono ?_
    rintro e w' ⟨rfl, rfl⟩
    exact ⟨rfl, Below.refl _ _⟩
  · have hlt := hown.1.lt g rfl
    have c := Any.strings_Join Tryd.laysW Tryd.Builder_Extra_W g 0 cap (F.map (fun l => (⟨l.toArray⟩ : ByteArray))) ⟨#[44]⟩ wr (by
      intro j x hx
      have h2 : j < F.length := by
        have := (List.getElem?_eq_some_iff.1 hx).1
        simpa using this
      rw [Nat.zero_add, hown.1.cellAt j (by omega)]
      rw [List.getElem?_map, List.getElem?_eq_getElem h2] at hx ⊢
      simp only [Option.map_some, Option.some.injEq] at hx ⊢
      rw [← hx]; rfl) hlt.2 (by rw [List.length_map]; omega) (by rw [List.length_map]; exact hr.1) (by rw [em]; show (commas F).length ≤ _; omega)
    rw [em, List.length_map] at c
    exact c
end Go.Proofs.YtmibgcbolnpffaaDoor
