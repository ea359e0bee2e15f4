/- The contract of object.sections. -/
import Derived.Test.YtnlehfondhegbaaDoorObD
import Derived.Test.YtnlehfondhegbaaDoorBi
namespace Go.Proofs.YtnlehfondhegbaaDoor
open Go.RowKit
/-- a slice of some kind -/
def Sls (x : Value) : Prop := ∃ a n c, x = .slice a n c
theorem holds_sls {w : World} {v : Value} {bs : List UInt8} (h : HoldsB w v bs) : Sls v := by
  obtain ⟨a, c, e, _⟩ := h
  exact ⟨a, _, c, e⟩
theorem sufB {w : World} {v : Value} {bs : List UInt8} (h : HoldsB w v bs) (k : Nat) (hk : k ≤ bs.length) :
    ∃ pv, (∀ W, Sem.run Tryd.prog (Instr.slice 25 v (some (.int .i64 (k : Int))) none none) W = .ok pv W) ∧ HoldsB w pv (bs.drop k) := by
  have hh := h
  obtain ⟨ao, cap, rfl, h0, hcp, hc⟩ := h
  exact ⟨_, fun W => from_run ao bs.length cap k hk hcp W, holdsB_suf hh k hk⟩
theorem list5 {vs : List Value} (h : vs.length = 5) : ∃ x0 x1 x2 x3 x4, vs = [x0, x1, x2, x3, x4] := by
  match vs, h with
  | [x0, x1, x2, x3, x4], _ => exact ⟨x0, x1, x2, x3, x4, rfl⟩
theorem cells_five {b : Nat} {W : World} {v0 v1 v2 v3 v4 : Value} (h : Blk b W [v0, v1, v2, v3, v4]) : (W.cell? ⟨b, 0, none⟩ = some v0 ∧ W.cell? ⟨b, 1, none⟩ = some v1 ∧ W.cell? ⟨b, 2, none⟩ = some v2 ∧ W.cell? ⟨b, 3, none⟩ = some v3 ∧ W.cell? ⟨b, 4, none⟩ = some v4) ∧ (W.frozen? ⟨b, 0, none⟩ = false ∧ W.frozen? ⟨b, 1, none⟩ = false ∧ W.frozen? ⟨b, 2, none⟩ = false ∧ W.frozen? ⟨b, 3, none⟩ = false ∧ W.frozen? ⟨b, 4, none⟩ = false) :=
  ⟨⟨(h.1 0 (by simp)).1, (h.1 1 (by simp)).1, (h.1 2 (by simp)).1, (h.1 3 (by simp)).1, (h.1 4 (by simp)).1⟩, ⟨(h.1 0 (by simp)).2, (h.1 1 (by simp)).2, (h.1 2 (by simp)).2, (h.1 3 (by simp)).2, (h.1 4 (by simp)).2⟩⟩
theorem put_five (b : Nat) (W : World) (v0 v1 v2 v3 v4 : Value) : putFrom b 0 W [v0, v1, v2, v3, v4] = (((((W.setCell ⟨b, 0, none⟩ v0).setCell ⟨b, 1, none⟩ v1).setCell ⟨b, 2, none⟩ v2).setCell ⟨b, 3, none⟩ v3).setCell ⟨b, 4, none⟩ v4) := rfl
def Z5 : List Value := [.slice none 0 0, .slice none 0 0, .slice none 0 0, .slice none 0 0, .slice none 0 0]
/-- what sections tells -/
def SecA (w : World) (bs : List UInt8) (e : Ending) : Prop :=
  (3 ≤ bs.length ∧ ∃ ds r p0 p1 p2 p3 p4, secsN 5 (bs.drop 3) = some (ds, r) ∧ e = .returned (.tuple #[.agg #[p0, p1, p2, p3, p4], .bool true]) ∧ HoldsB w p0 (ds.getD 0 []) ∧ HoldsB w p1 (ds.getD 1 []) ∧ HoldsB w p2 (ds.getD 2 []) ∧ HoldsB w p3 (ds.getD 3 []) ∧ HoldsB w p4 (ds.getD 4 [])) ∨
  ((bs.length < 3 ∨ secsN 5 (bs.drop 3) = none) ∧ ∃ p0 p1 p2 p3 p4, e = .returned (.tuple #[.agg #[p0, p1, p2, p3, p4], .bool false]) ∧ Sls p0 ∧ Sls p1 ∧ Sls p2 ∧ Sls p3 ∧ Sls p4)
/-- the state of the loop -/
structure SecI (bs : List UInt8) (w0 w : World) (q g : Nat) (k : Nat) (rest : List UInt8) (rv : Value) (vs : List Value) (wr : World) : Prop where
  told : ∃ ds, secsN k (bs.drop 3) = some (ds, rest) ∧ ∀ i, i < k → HoldsB w0 (vs.getD i (.bool false)) (ds.getD i [])
  hold : HoldsB w0 rv rest
  len : rest.length ≤ 100000
  five : vs.length = 5
  sl : ∀ x ∈ vs, Sls x
  blk : Blk g wr vs
  res : Blk q wr Z5
  bel : Below w.heap.size w wr
theorem secI_step {bs : List UInt8} {w0 w : World} {q g k : Nat} {rest : List UInt8} {rv : Value} {vs : List Value} {wr : World} (h : SecI bs w0 w q g k rest rv vs wr) (hk : k < 5) (hq : q ≠ g) (hg : w.heap.size ≤ g)
    {d r' : List UInt8} (hs : secR rest = some (d, r')) {pv rv' : Value} (hd : HoldsB w0 pv d) (hr : HoldsB w0 rv' r') (hl : r'.length ≤ 100000) : SecI bs w0 w q g (k + 1) r' rv' (vs.set k pv) (wr.setCell ⟨g, k, none⟩ pv) := by
  obtain ⟨ds, h1, h2⟩ := h.told
  have hdl := secsN_len k h1
  have h5 := h.five
  refine ⟨⟨ds ++ [d], secsN_step h1 hs, fun i hi => ?_⟩, hr, hl, by rw [List.length_set]; exact h5, fun x hx => ?_, cells_set h.blk (by omega) pv, cells_other h.res hq pv, h.bel.setCell (p := ⟨g, k, none⟩) hg pv⟩
  · by_cases e : i = k
    · subst e
      rw [List.getD_eq_getElem?_getD, List.getElem?_set_self (by omega), List.getD_eq_getElem?_getD, List.getElem?_append_right (by omega)]
      rw [show i - ds.length = 0 by omega]
      exact hd
    · have := h2 i (by omega)
      rw [List.getD_eq_getElem?_getD, List.getElem?_set_ne (by omega), List.getD_eq_getElem?_getD (l := ds ++ [d]), List.getElem?_append_left (by omega)]
      rw [List.getD_eq_getElem?_getD, List.getD_eq_getElem?_getD] at this
      exact this
  · rcases List.mem_or_eq_of_mem_set hx with h' | h'
    · exact h.sl x h'
    · rw [h']; exact holds_sls hd
theorem secI_below {bs : List UInt8} {w0 w : World} {q g k : Nat} {rest : List UInt8} {rv : Value} {vs : List Value} {wr wr' : World} (h : SecI bs w0 w q g k rest rv vs wr) (hb : Below wr.heap.size wr wr') : SecI bs w0 w q g k rest rv vs wr' :=
  ⟨h.told, h.hold, h.len, h.five, h.sl, cells_below h.blk hb, cells_below h.res hb, bt' h.bel hb⟩
end Go.Proofs.YtnlehfondhegbaaDoor
