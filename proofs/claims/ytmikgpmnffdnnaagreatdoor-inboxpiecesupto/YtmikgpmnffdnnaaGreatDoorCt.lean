/- The contract of Cut: the bytes in pieces, each a row of its own. -/
import Derived.Test.YtmikgpmnffdnnaaGreatDoorBx
import Derived.Test.YtmikgpmnffdnnaaGreatDoorOpnI
import Derived.Test.YtmikgpmnffdnnaaGreatDoorBl
namespace Go.Proofs.YtmikgpmnffdnnaaGreatDoor
open Go.RowKit
theorem and63 (z : Int) : ∃ n : Nat, bits BinOp.and IntKind.i64 z 63 = (n : Int) ∧ n ≤ 63 := by
  have h : ((BitVec.ofInt 64 z) &&& (BitVec.ofInt 64 63)).toNat ≤ 63 := by
    rw [BitVec.toNat_and]; exact Nat.le_trans Nat.and_le_right (by decide)
  refine ⟨_, ?_, h⟩
  show IntKind.i64.wrap (((BitVec.ofInt 64 z) &&& (BitVec.ofInt 64 63)).toNat : Int) = _
  rw [IntKind.wrap_i64]
  omega
theorem Tryz.info22 : (Tryz.prog.info? 22).map (fun i => (i.zero, i.size, i.bytes)) = some (some (.slice none 0 0), 1, 24) := by kernel_rfl
/-- one slice more appended to a row of slices; blocks of bytes are as they were -/
theorem app1L {ops : Array Oper} {rest : List Oper} {o : Oper} {a : Act} {Q : Exit → Act → World → Prop} {wr : World} (hgd : o.guard = none) (s x : Operand)
    (ho : o.op = .call { callee := .builtin .append, args := #[s, x], argTypes := #[43, 43] }) (base : Nat) (v : Value) (us : List Value) (hs : a.eval s = v) (hown : wr.ownsRow base 22 1 v us.length us) (hsz : base ≤ wr.heap.size)
    (ua : Option Addr) (un uc : Nat) (hx : a.eval x = .slice (some ⟨wr.heap.size, 0, none⟩) 1 1) (hlen : (us.length + 1) * 24 ≤ 140737488355328)
    (h : ∀ v' w', w'.ownsRow base 22 1 v' (us ++ [Value.slice ua un uc]).length (us ++ [Value.slice ua un uc]) → Below base wr w' → (∀ (k : Nat) (cs : Array Value), wr.heap[k]? = some (Obj.cells cs 5) → w'.heap[k]? = wr.heap[k]?) → wpList Tryz.prog ops Q rest (a.put o.dst v') w') : wpList Tryz.prog ops Q (o :: rest) a (wr.alloc (.cells #[.slice ua un uc] 22)) := by
  obtain ⟨i0, hi, hz0, hz1, hz2⟩ := info_parts Tryz.info22
  refine wpList_append_own _ hgd s x 43 ho base 22 i0 (.slice none 0 0) 1 24 Tryz.underlying43 hi hz0 hz1 hz2 rfl (by decide) v us.length us hs (hown.alloc _) ⟨wr.heap.size, 0, none⟩ 1 1 [.slice ua un uc] hx rfl ?_ ?_ ?_ ?_ ?_ ?_
  · intro j u hj
    match j, hj with
    | 0, hj => simp at hj; subst hj; simp [Addr.add]
  · intro u hu; simp at hu; subst hu; rfl
  · unfold maxLen; omega
  · omega
  · simp; omega
  · intro v' w' h1 h2 _
    refine h v' w' (by simpa using h1) ?_ ?_
    · refine Below.grown ((Below.refl _ _).alloc hsz _) h2 (by simp; omega) ?_
      intro k hk
      exact (hown.lt k hk).1
    · intro k cs hk
      have hlt : k < wr.heap.size := by
        rcases Nat.lt_or_ge k wr.heap.size with h | h
        · exact h
        · rw [Array.getElem?_eq_none (by omega)] at hk; cases hk
      have hal : (wr.alloc (.cells #[.slice ua un uc] 22)).heap[k]? = wr.heap[k]? := Below.heap_alloc _ _ _ hlt
      rw [h2.block k (by simp; omega) ?_, hal]
      intro e
      obtain ⟨hl, g1 | ⟨y, cap, cur, hv, _, hh, _⟩⟩ := hown
      · rw [g1.1] at e; cases e
      · rw [hv] at e
        cases e
        rw [hh] at hk
        cases hk
theorem row_type {W W' : World} {base n : Nat} {v : Value} {cs : List Value} (h : W.ownsRow base 5 1 v n cs) (hb : ∀ (k : Nat) (xs : Array Value), W.heap[k]? = some (Obj.cells xs 5) → W'.heap[k]? = W.heap[k]?) : W'.ownsRow base 5 1 v n cs := by
  obtain ⟨hl, h1 | ⟨g, cap, cur, hv, hg, hh, hr⟩⟩ := h
  · exact ⟨hl, .inl h1⟩
  · exact ⟨hl, .inr ⟨g, cap, cur, hv, hg, by rw [hb g cur hh]; exact hh, hr⟩⟩
/-- a row of slices from 'base' on, each a row of these bytes from 'base' on -/
def Pcz (base : Nat) (ov : Value) (us : List Value) (ps : List (List UInt8)) (W : World) : Prop :=
  W.ownsRow base 22 1 ov us.length us ∧ us.length = ps.length ∧ ∀ j (h : j < us.length) (h' : j < ps.length), W.ownsRow base 5 1 us[j] ps[j].length (ps[j].map B)
theorem pcz_below {base : Nat} {ov : Value} {us : List Value} {ps : List (List UInt8)} {W W' : World} (h : Pcz base ov us ps W) (hb : Below W.heap.size W W') : Pcz base ov us ps W' :=
  ⟨row_below h.1 hb, h.2.1, fun j h1 h2 => row_below (h.2.2 j h1 h2) hb⟩
theorem pcz_add {base : Nat} {ov ov' u : Value} {us : List Value} {ps : List (List UInt8)} {p : List UInt8} {W W' : World} (h : Pcz base ov us ps W) (hu : W.ownsRow base 5 1 u p.length (p.map B)) (h1 : W'.ownsRow base 22 1 ov' (us ++ [u]).length (us ++ [u])) (h2 : ∀ (k : Nat) (xs : Array Value), W.heap[k]? = some (Obj.cells xs 5) → W'.heap[k]? = W.heap[k]?) : Pcz base ov' (us ++ [u]) (ps ++ [p]) W' := by
  refine ⟨h1, by rw [List.length_append, List.length_append, h.2.1]; rfl, fun j hj hj' => ?_⟩
  by_cases hlt : j < us.length
  · have hlt' : j < ps.length := by rw [← h.2.1]; exact hlt
    rw [List.getElem_append_left hlt, List.getElem_append_left hlt']
    exact row_type (h.2.2 j hlt hlt') h2
  · have e : j = us.length := by simp at hj; omega
    have e' : j = ps.length := by rw [← h.2.1]; exact e
    have g1 : (us ++ [u])[j] = u := by rw [List.getElem_append_right (by omega)]; simp
    have g2 : (ps ++ [p])[j] = p := by rw [List.getElem_append_right (by omega)]; simp
    rw [g1, g2]
    exact row_type hu h2
end Go.Proofs.YtmikgpmnffdnnaaGreatDoor
