/- A table's map of nodes, and what is as it was where other blocks are written. -/
import Derived.Test.YtikkmnclcbanfaaLrP
import Derived.Test.YtikkmnclcbanfaaMsk
import Derived.Test.YtikkmnclcbanfaaOwnS
import Derived.Test.YtikkmnclcbanfaaShelf
import Derived.StringKeys
import Derived.Maps.OwnOps
namespace Go.Proofs.Ytikkmnclcbanfaa
open Go.RowKit Go.Maps Go.WideMaps
theorem blk_off {b : Nat} {W W' : World} {vs : List Value} {S : Nat → Prop} (h : Blk b W vs) (ho : Off S W W') (hn : ¬ S b) : Blk b W' vs :=
  ⟨fun j hj => ⟨by rw [World.cell?_of_block (w := W) (a := ⟨b, j, none⟩) (ho.block b h.2 hn)]; exact (h.1 j hj).1, by rw [World.frozen?_of_block (w := W) (a := ⟨b, j, none⟩) (ho.block b h.2 hn)]; exact (h.1 j hj).2⟩, Nat.lt_of_lt_of_le h.2 ho.size⟩
/-- a block of cells of which none is frozen -/
def Pln (b : Nat) (W : World) : Prop := ∃ ca ta, W.heap[b]? = some (.cells ca ta (0, 0))
theorem pln_off {b : Nat} {W W' : World} {S : Nat → Prop} (h : Pln b W) (ho : Off S W W') (hn : ¬ S b) : Pln b W' := by
  obtain ⟨ca, ta, e⟩ := h
  have hlt : b < W.heap.size := by
    rcases Nat.lt_or_ge b W.heap.size with h | h
    · exact h
    · rw [Array.getElem?_eq_none h] at e; cases e
  exact ⟨ca, ta, by rw [ho.block b hlt hn]; exact e⟩
theorem pln_set {b : Nat} {W : World} (h : Pln b W) (a : Addr) (v : Value) : Pln b (W.setCell a v) := by
  obtain ⟨ca, ta, e⟩ := h
  by_cases hb : b = a.block
  · subst hb
    refine ⟨if a.spot.isSome = true then ca else ca.setIfInBounds a.off v, ta, ?_⟩
    show (W.heap.modify a.block _)[a.block]? = _
    rw [Array.getElem?_modify, if_pos rfl, e]
    rfl
  · exact ⟨ca, ta, by rw [Below.heap_setCell _ _ _ _ hb]; exact e⟩
theorem pln_drew {b : Nat} {W : World} (h : Pln b W) : Pln b W.drew := h
theorem pln_lit (w : World) (cs : Array Value) (t : TypeId) : Pln w.heap.size (w.alloc (.cells cs t)) := ⟨cs, t, heap_alloc_new _ _⟩
theorem off_drew {S : Nat → Prop} {W W' : World} (h : Off S W W') : Off S W W'.drew := Off.trans h (off_of (S := fun _ => False) ((Below.refl _ _).drew)) (fun _ hi => hi.elim)
theorem grown_drew {W w' : World} {r : Option Nat} (h : W.drew.grownBy w' r) : W.grownBy w' r := ⟨h.os, h.tape, h.output, h.size, h.block⟩
/-- a row of texts of a call's own, from block base on -/
def OwnT (base : Nat) (v : Value) (ss : List Nm) (W : World) : Prop := W.ownsRow base 9 1 v ss.length (ss.map S)
theorem ownT_nil (base : Nat) (W : World) : OwnT base (.slice none 0 0) [] W := World.ownsRow_nil _ _ _ _
theorem holds_ownT {base : Nat} {w : World} {v : Value} {ss : List Nm} (h : OwnT base v ss w) : Holds w v ss := by
  obtain ⟨hl, h1 | ⟨g, cap, cur, rfl, hg, hh, hr⟩⟩ := h
  · obtain ⟨rfl, hn⟩ := h1
    obtain rfl : ss = [] := List.eq_nil_of_length_eq_zero hn
    exact ⟨none, 0, rfl, fun h => absurd rfl h⟩
  · have h : OwnT base (.slice (some ⟨g, 0, none⟩) ss.length cap) ss w := ⟨hl, .inr ⟨g, cap, cur, rfl, hg, hh, hr⟩⟩
    refine ⟨_, cap, rfl, fun _ => ⟨g, 0, rfl, (World.ownsRow.lt h g rfl).2, fun j hj => ?_⟩⟩
    rw [Nat.zero_add, World.ownsRow.cellAt h j (by omega)]
    simp [hj]
theorem ownT_len {base : Nat} {w : World} {v : Value} {ss : List Nm} (h : OwnT base v ss w) : ∃ a c, v = .slice a ss.length c := by
  obtain ⟨hl, ⟨rfl, hn⟩ | ⟨g, cap, cur, rfl, _⟩⟩ := h
  · exact ⟨none, 0, by rw [hn]⟩
  · exact ⟨_, _, rfl⟩
theorem ownT_off {base : Nat} {w w' : World} {v : Value} {ss : List Nm} {S : Nat → Prop} (h : OwnT base v ss w) (ho : Off S w w') (hS : ∀ k, S k → k < base) : OwnT base v ss w' := by
  obtain ⟨hl, h1 | ⟨g, cap, cur, rfl, hg, hh, hr⟩⟩ := h
  · exact ⟨hl, .inl h1⟩
  · have hlt : g < w.heap.size := by
      rcases Nat.lt_or_ge g w.heap.size with h | h
      · exact h
      · rw [Array.getElem?_eq_none (by omega)] at hh; cases hh
    exact ⟨hl, .inr ⟨g, cap, cur, rfl, hg, by rw [ho.block g hlt (fun e => by have := hS g e; omega)]; exact hh, hr⟩⟩
theorem ownT_apart {base : Nat} {w w' : World} {v : Value} {ss : List Nm} {S : Nat → Prop} (h : OwnT base v ss w) (ho : Off S w w') (hS : ∀ k, v.ownBlock = some k → ¬ S k) : OwnT base v ss w' := by
  obtain ⟨hl, h1 | ⟨g, cap, cur, rfl, hg, hh, hr⟩⟩ := h
  · exact ⟨hl, .inl h1⟩
  · have hlt : g < w.heap.size := by
      rcases Nat.lt_or_ge g w.heap.size with h | h
      · exact h
      · rw [Array.getElem?_eq_none (by omega)] at hh; cases hh
    exact ⟨hl, .inr ⟨g, cap, cur, rfl, hg, by rw [ho.block g hlt (hS g rfl)]; exact hh, hr⟩⟩
theorem ownT_lt {base : Nat} {w : World} {v : Value} {ss : List Nm} (h : OwnT base v ss w) : ∀ k, v.ownBlock = some k → base ≤ k ∧ k < w.heap.size := fun k e => World.ownsRow.lt h k e
theorem ownT_base {base base' : Nat} {w : World} {v : Value} {ss : List Nm} (h : OwnT base v ss w) (hb : base' ≤ base) : OwnT base' v ss w := row_base h hb
def lenS : Value → Nat
  | .slice _ n _ => n
  | _ => 0
/-- one text appended -/
theorem appT {ops : Array Oper} {rest : List Oper} {o : Oper} {a : Act} {Q : Exit → Act → World → Prop} {wr : World} {t : ByteArray} (hgd : o.guard = none) (s x : Operand)
    (ho : o.op = .call { callee := .builtin .append, args := #[s, x], argTypes := #[36, 36] }) (base : Nat) (hbase : base ≤ wr.heap.size) (v : Value) (ss : List Nm) (hs : a.eval s = v) (hown : OwnT base v ss wr)
    (l : Nm) (ht : t = ⟨l.toArray⟩) (hx : a.eval x = .slice (some ⟨wr.heap.size, 0, none⟩) 1 1) (hlen : (ss.length + 1) * 16 ≤ 140737488355328)
    (h : ∀ v' w', OwnT base v' (ss ++ [l]) w' → wr.heap.size ≤ w'.heap.size → Below base wr w' → wpList Try.prog ops Q rest (a.put o.dst v') w') : wpList Try.prog ops Q (o :: rest) a (wr.alloc (.cells #[.string t] 9)) := by
  subst ht
  obtain ⟨i0, hi, hz0, hz1, hz2⟩ := info_parts Try.info9
  refine wpList_append_own _ hgd s x 36 ho base 9 i0 (.string ⟨#[]⟩) 1 16 Try.underlying36 hi hz0 hz1 hz2 rfl (by decide) v ss.length (ss.map S) hs (World.ownsRow.alloc hown _) ⟨wr.heap.size, 0, none⟩ 1 1 [S l] hx rfl ?_ ?_ ?_ ?_ ?_ ?_
  · intro j u hj
    match j, hj with
    | 0, hj => simp at hj; subst hj; simp [Addr.add, S]
  · intro u hu; simp at hu; subst hu; rfl
  · unfold maxLen; omega
  · omega
  · simp; omega
  · intro v' w' h1 h2 _
    have hbl : Below base wr w' := Below.grown ((Below.refl base wr).alloc (by omega) _) h2 (by simp; omega) (fun k hk => (World.ownsRow.lt hown k hk).1)
    refine h v' w' (by unfold OwnT; simpa using h1) ?_ hbl
    have := h2.size
    simp at this
    omega
theorem kStr : Keyed Try.prog 9 := string_keyed Try.underlying9
theorem key_str {s : ByteArray} (hs : s.size ≤ 140737488351232) : keyOf Try.prog 9 (.string s) = some (.string s.data.toList) := keyOf_string_mk Try.underlying9 (by unfold maxLen; omega)
theorem key_l {n : Nm} (hn : n.length ≤ 140737488351232) : keyOf Try.prog 9 (.string ⟨n.toArray⟩) = some (.string n) := by
  have := key_str (s := ⟨n.toArray⟩) (by rw [size_l]; omega)
  simpa using this
/-- a map of keys to blocks -/
def Tbn (W : World) (m : Nat) (l : NL) : Prop := W.ownsMap Try.prog 9 pel m l.length (dOf (fun b => b) l)
theorem tbn_put {W : World} {m : Nat} {l : NL} {n : Nm} {k : Nat} {x : Nat} (h : W.ownsMap Try.prog 9 pel m x ((dOf (fun b => b) l).put (.string n) (.lit (.int .i64 (k : Int))))) : Tbn W m (putN l n k) := by
  rw [dOf_put (fun b => b)] at h
  have := own_tight h
  rw [dOf_size] at this
  exact this
theorem tbn_del {W : World} {m : Nat} {l : NL} {n : Nm} {x : Nat} (h : W.ownsMap Try.prog 9 pel m x ((dOf (fun b => b) l).del (.string n))) : Tbn W m (delN l n) := by
  rw [dOf_del] at h
  have := own_tight h
  rw [dOf_size] at this
  exact this
theorem tbn_block {W W' : World} {m : Nat} {l : NL} (h : Tbn W m l) (hb : W'.heap[m]? = W.heap[m]?) : Tbn W' m l := by
  obtain ⟨es, clock, hh, F, hn, hD⟩ := h
  exact ⟨es, clock, by rw [hb]; exact hh, F, hn, hD⟩
theorem tbn_lt {W : World} {m : Nat} {l : NL} (h : Tbn W m l) : m < W.heap.size := by
  obtain ⟨es, clock, hh, _⟩ := h
  rcases Nat.lt_or_ge m W.heap.size with h | h
  · exact h
  · rw [Array.getElem?_eq_none h] at hh; cases hh
theorem tbn_off {W W' : World} {m : Nat} {l : NL} {S : Nat → Prop} (h : Tbn W m l) (ho : Off S W W') (hn : ¬ S m) : Tbn W' m l := tbn_block h (ho.block m (tbn_lt h) hn)
end Go.Proofs.Ytikkmnclcbanfaa
