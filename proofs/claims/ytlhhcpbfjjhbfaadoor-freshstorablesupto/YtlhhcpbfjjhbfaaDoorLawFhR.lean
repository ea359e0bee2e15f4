/- The walk of FreshRefuses. -/
import Derived.Test.YtlhhcpbfjjhbfaaDoorFhS
import Derived.Test.YtlhhcpbfjjhbfaaDoorBr
import Derived.Deep.DeepCutAuto
namespace Go.Proofs.YtlhhcpbfjjhbfaaDoor
open Go.RowKit
/-- a request and a response in blocks, and what lists of fields hold besides -/
def H2 (w W : World) (mt tg zr : List UInt8) (kq s k : Int) (aq ao : Option Addr) (nq cq n ca : Nat) (l : List (Value × FL)) : Prop := Below w.heap.size w W ∧ Blk w.heap.size W [.string ⟨mt.toArray⟩, .string ⟨tg.toArray⟩, .int .i64 kq, .slice aq nq cq] ∧ Blk (w.heap.size + 1) W [.int .i64 s, .string ⟨zr.toArray⟩, .int .i64 k, .slice ao n ca] ∧ ∀ p ∈ l, HoldsF W p.1 p.2
theorem h2_below {w W W' : World} {mt tg zr : List UInt8} {kq s k : Int} {aq ao : Option Addr} {nq cq n ca : Nat} {l : List (Value × FL)} (h : H2 w W mt tg zr kq s k aq ao nq cq n ca l) (hb : Below W.heap.size W W') : H2 w W' mt tg zr kq s k aq ao nq cq n ca l := ⟨bt' h.1 hb, cells_below h.2.1 hb, cells_below h.2.2.1 hb, fun p hp => holdsF_mono (h.2.2.2 p hp) hb⟩
theorem h2_drew {w W : World} {mt tg zr : List UInt8} {kq s k : Int} {aq ao : Option Addr} {nq cq n ca : Nat} {l : List (Value × FL)} (h : H2 w W mt tg zr kq s k aq ao nq cq n ca l) : H2 w W.drew mt tg zr kq s k aq ao nq cq n ca l := h2_below h (Below.refl _ _).drew
theorem h2_cells {w W : World} {q : Nat} {mt tg zr : List UInt8} {kq s k : Int} {aq ao : Option Addr} {nq cq n ca : Nat} {l : List (Value × FL)} (hq : q = w.heap.size) (h : H2 w W mt tg zr kq s k aq ao nq cq n ca l) : W.cell? ⟨q, 0, none⟩ = some (.string ⟨mt.toArray⟩) ∧ W.cell? ⟨q, 1, none⟩ = some (.string ⟨tg.toArray⟩) ∧ W.cell? ⟨q, 2, none⟩ = some (.int .i64 kq) ∧ W.cell? ⟨q, 3, none⟩ = some (.slice aq nq cq) ∧ W.cell? ⟨q + 1, 0, none⟩ = some (.int .i64 s) ∧ W.cell? ⟨q + 1, 1, none⟩ = some (.string ⟨zr.toArray⟩) ∧ W.cell? ⟨q + 1, 2, none⟩ = some (.int .i64 k) ∧ W.cell? ⟨q + 1, 3, none⟩ = some (.slice ao n ca) := by
  subst hq
  obtain ⟨h0, h1, h2, h3⟩ := four_open h.2.1
  obtain ⟨i0, i1, i2, i3⟩ := four_open h.2.2.1
  exact ⟨h0, h1, h2, h3, i0, i1, i2, i3⟩
theorem h2_lit (w : World) (mt tg zr : List UInt8) (kq s k : Int) (aq ao : Option Addr) (nq cq n ca : Nat) : H2 w ((w.alloc (.cells #[.string ⟨mt.toArray⟩, .string ⟨tg.toArray⟩, .int .i64 kq, .slice aq nq cq] 24)).alloc (.cells #[.int .i64 s, .string ⟨zr.toArray⟩, .int .i64 k, .slice ao n ca] 26)) mt tg zr kq s k aq ao nq cq n ca [] := by
  have b1 := below_alloc' w (.cells #[.string ⟨mt.toArray⟩, .string ⟨tg.toArray⟩, .int .i64 kq, .slice aq nq cq] 24)
  have b2 := below_alloc' (w.alloc (.cells #[.string ⟨mt.toArray⟩, .string ⟨tg.toArray⟩, .int .i64 kq, .slice aq nq cq] 24)) (.cells #[.int .i64 s, .string ⟨zr.toArray⟩, .int .i64 k, .slice ao n ca] 26)
  have c2 := cells_lit (w.alloc (.cells #[.string ⟨mt.toArray⟩, .string ⟨tg.toArray⟩, .int .i64 kq, .slice aq nq cq] 24)) #[.int .i64 s, .string ⟨zr.toArray⟩, .int .i64 k, .slice ao n ca] 26
  have z : (w.alloc (.cells #[.string ⟨mt.toArray⟩, .string ⟨tg.toArray⟩, .int .i64 kq, .slice aq nq cq] 24)).heap.size = w.heap.size + 1 := by simp
  rw [z] at c2
  exact ⟨bt' b1 b2, cells_below (cells_lit w #[.string ⟨mt.toArray⟩, .string ⟨tg.toArray⟩, .int .i64 kq, .slice aq nq cq] 24) b2, c2, fun p hp => by cases hp⟩
theorem nil_told : Told [] false false false false false false (-1) (-1) (-1) (-1) := ⟨rfl, by omega, by omega, by omega, by omega⟩
theorem nil_holds (w : World) : HoldsF w (.slice none 0 0) [] := ⟨none, 0, rfl, fun _ => rfl, Nat.le_refl _, fun h => absurd rfl h⟩
theorem sto_true {get ok cns dns prv hA op star hR part : Bool} (h : stoB get ok cns dns prv hA op star hR part = true) : get = true ∧ ok = true ∧ cns = false ∧ dns = false ∧ prv = false := by
  unfold stoB at h
  cases get <;> cases ok <;> cases cns <;> cases dns <;> cases prv <;> simp at h ⊢
theorem ok_st {s smx mx : Int} {hE : Bool} (h : okS s smx mx hE = true) : s ≠ 206 ∧ s ≠ 304 ∧ 200 ≤ s := by
  unfold okS negS at h
  simp at h
  omega
/-- the first line of both laws -/
theorem getOk (w : World) : Calls Tryd.prog 7 #[.agg #[.string ⟨getB.toArray⟩, .string ⟨#[]⟩, .int .i64 0, .slice none 0 0], .agg #[.int .i64 200, .string ⟨#[]⟩, .int .i64 0, .slice none 0 0]] w fun e w' => e = .returned (.bool true) ∧ Below w.heap.size w w' := by
  have c := storableFC getB ⟨#[]⟩ ⟨#[]⟩ 0 200 0 none none 0 0 0 0 [] [] false false false false false false (-1) (-1) (-1) (-1) false false false false false false (-1) (-1) (-1) (-1) w (nil_holds w) (nil_holds w) (by decide) (by decide) nil_told nil_told
  rw [show stoB (decide (getB = getB)) (okS 200 (-1) (-1) (hasN [] exb)) false false false (hasN [] aub) (false || (false || decide ((-1 : Int) ≠ -1))) (hasStar []) (hasN [] rab) (decide ((200 : Int) ≤ 200 ∧ (200 : Int) ≤ 299)) = true by decide] at c
  exact c
end Go.Proofs.YtlhhcpbfjjhbfaaDoor
