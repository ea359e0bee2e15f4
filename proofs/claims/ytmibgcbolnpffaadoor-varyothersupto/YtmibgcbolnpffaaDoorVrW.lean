/- The builder's WriteByte, told by blocks: what lies in blocks of other types stays. -/
import Derived.Test.YtmibgcbolnpffaaDoorVrB
import Derived.Maps.AppendAt
import Derived.Maps.OwnIn
import Derived.Sort.Row
namespace Go.Proofs.YtmibgcbolnpffaaDoor
open Go.RowKit
theorem Tryd.info5v : (Tryd.prog.info? 5).map (fun i => (i.zero, i.size, i.bytes)) = some (some (.int .u8 0), 1, 1) := by kernel_rfl
/-- a builder that was written to, at block b, above B, that holds these bytes -/
def BlU (B b : Nat) (l : List UInt8) (w : World) : Prop := Lib.BuilderAt 54 5 B b (.pointer (some ⟨b, 0, none⟩)) (Lib.byteCells l) w ∧ B ≤ w.heap.size
theorem blU_D {B b : Nat} {l : List UInt8} {w : World} (h : BlU B b l w) : BlD B b l w := ⟨.inr h.1, h.2⟩
theorem blAt_below {T e B b : Nat} {p : Value} {bs : List Value} {W W' : World} (h : Lib.BuilderAt T e B b p bs W) (hb : Below W.heap.size W W') : Lib.BuilderAt T e B b p bs W' := by
  obtain ⟨h1, v, h2, h3, h4⟩ := h
  have hlt : ∀ k, k < W.heap.size → W'.heap[k]? = W.heap[k]? := fun k hk => hb.block k hk
  have hb1 : b < W.heap.size := by
    rcases Nat.lt_or_ge b W.heap.size with h | h
    · exact h
    · rw [Array.getElem?_eq_none h] at h2; cases h2
  refine ⟨h1, v, by rw [hlt b hb1]; exact h2, ?_, h4⟩
  obtain ⟨hl, k1 | ⟨g, cap, cur, rfl, hg, hh, hr⟩⟩ := h3
  · exact ⟨hl, .inl k1⟩
  · have hg1 : g < W.heap.size := by
      rcases Nat.lt_or_ge g W.heap.size with h | h
      · exact h
      · rw [Array.getElem?_eq_none h] at hh; cases hh
    exact ⟨hl, .inr ⟨g, cap, cur, rfl, hg, by rw [hlt g hg1]; exact hh, hr⟩⟩
theorem blU_below {B b : Nat} {l : List UInt8} {W W' : World} (h : BlU B b l W) (hb : Below W.heap.size W W') : BlU B b l W' := ⟨blAt_below h.1 hb, Nat.le_trans h.2 hb.size⟩
theorem blD_below {B b : Nat} {l : List UInt8} {W W' : World} (h : BlD B b l W) (hb : Below W.heap.size W W') : BlD B b l W' := by
  rcases h.1 with h1 | h1
  · exact ⟨.inl (blAt_below h1 hb), Nat.le_trans h.2 hb.size⟩
  · exact ⟨.inr (blAt_below h1 hb), Nat.le_trans h.2 hb.size⟩
theorem wrU {B b : Nat} {l : List UInt8} {w : World} (h : BlD B b l w) (s : ByteArray) (t : List UInt8) (hs : s.data.toList = t) (hlen : l.length + t.length ≤ 140737488355328) :
    Calls Tryd.prog 30 #[.pointer (some ⟨b, 0, none⟩), .string s] w fun e w' => ∃ x y, e = .returned (.tuple #[x, y]) ∧ BlU B b (l ++ t) w' ∧ Below B w w' := by
  have e : s = ⟨t.toArray⟩ := by cases s; simp at hs; simp [← hs]
  subst e
  refine (Any.Builder_WriteString { Tryd.laysW with } Tryd.Builder_Extra_W B b _ ⟨t.toArray⟩ w h.1 (by rw [byteCells_len, size_l]; exact hlen) h.2).mono ?_
  rintro e w' ⟨rfl, h1, h2⟩
  rw [strCells_l, ← byteCells_app] at h1
  exact ⟨_, _, rfl, ⟨h1, Nat.le_trans h.2 h2.size⟩, h2⟩
/-- what lies in other blocks than b, of other types than bytes, stays -/
def Oth (b : Nat) (w w' : World) : Prop := ∀ (z : Nat) (cs : Array Value) (T : TypeId), z ≠ b → T ≠ 5 → w.heap[z]? = some (.cells cs T (0, 0)) → w'.heap[z]? = some (.cells cs T (0, 0))
theorem appV {ops : Array Oper} {rest : List Oper} {o : Oper} {a : Act} {Q : Exit → Act → World → Prop} {wr : World} {n : Int} (hgd : o.guard = none) (s x : Operand)
    (ho : o.op = .call { callee := .builtin .append, args := #[s, x], argTypes := #[36, 36] }) (B : Nat) (v : Value) (l : List UInt8) (hs : a.eval s = v) (hown : wr.ownsRow B 5 1 v l.length (Lib.byteCells l))
    (c : UInt8) (hn : n = (c.toNat : Int)) (hx : a.eval x = .slice (some ⟨wr.heap.size, 0, none⟩) 1 1) (hB : B ≤ wr.heap.size) (hlen : l.length + 1 ≤ 140737488355328)
    (h : ∀ va vc w', w'.ownsRow B 5 1 (.slice va (l.length + 1) vc) (l ++ [c]).length (Lib.byteCells (l ++ [c])) → (wr.alloc (.cells #[.int .u8 n] 5)).grownBy w' v.ownBlock → ((Value.slice va (l.length + 1) vc).ownBlock = v.ownBlock ∨ (Value.slice va (l.length + 1) vc).ownBlock = some (wr.heap.size + 1)) → wpList Tryd.prog ops Q rest (a.put o.dst (.slice va (l.length + 1) vc)) w') : wpList Tryd.prog ops Q (o :: rest) a (wr.alloc (.cells #[.int .u8 n] 5)) := by
  subst hn
  obtain ⟨i0, hi, hz0, hz1, hz2⟩ := info_parts Tryd.info5v
  refine wpList_append_own_at _ hgd s x 36 ho B 5 i0 (.int .u8 0) 1 1 Tryd.underlying36 hi hz0 hz1 hz2 rfl (by decide) v l.length (Lib.byteCells l) hs (hown.alloc _) ⟨wr.heap.size, 0, none⟩ 1 1 (Lib.byteCells [c]) hx rfl ?_ ?_ ?_ ?_ ?_ ?_
  · intro j u hj
    match j, hj with
    | 0, hj => simp [Lib.byteCells] at hj; subst hj; simp [Addr.add]
  · intro u hu; simp [Lib.byteCells] at hu; subst hu; rfl
  · unfold maxLen; omega
  · omega
  · simp; omega
  · intro v' w' h1 h2 _ h4
    rw [← byteCells_app] at h1
    have h5 : ∃ va vc, v' = .slice va (l.length + 1) vc := by
      obtain ⟨_, k1 | ⟨g, cap, cur, e, _⟩⟩ := h1
      · exact absurd k1.2 (by omega)
      · exact ⟨_, cap, e⟩
    obtain ⟨va, vc, rfl⟩ := h5
    exact h va vc w' (by simpa using h1) h2 (by simpa using h4)
theorem heap_setV {W : World} {b o : Nat} {v : Value} {cs : Array Value} {T : TypeId} {fr : Nat × Nat} (h : W.heap[b]? = some (.cells cs T fr)) : (W.setCell ⟨b, o, none⟩ v).heap[b]? = some (.cells (cs.setIfInBounds o v) T fr) := by
  rw [Go.Sort.setCell_eq]
  simp [Go.Sort.mapBlock, Array.getElem?_modify, h, Go.Sort.onCells]
theorem heap_setO {W : World} {b k o : Nat} {v : Value} (h : k ≠ b) : (W.setCell ⟨b, o, none⟩ v).heap[k]? = W.heap[k]? := by
  rw [Go.Sort.setCell_eq]
  have h' : ¬ b = k := fun e => h e.symm
  simp [Go.Sort.mapBlock, Array.getElem?_modify, h']
theorem cellV {W : World} {b : Nat} {x y : Value} {T : TypeId} (h : W.heap[b]? = some (.cells #[x, y] T (0, 0))) : W.cell? ⟨b, 1, none⟩ = some y := by simp [World.cell?, h]
theorem frozV {W : World} {b : Nat} {x y : Value} {T : TypeId} (h : W.heap[b]? = some (.cells #[x, y] T (0, 0))) : W.frozen? ⟨b, 1, none⟩ = false := by simp [World.frozen?, h]
set_option maxHeartbeats 1000000 in
theorem wrV {B b : Nat} {l : List UInt8} {w : World} (h : BlU B b l w) (c : UInt8) (n : Int) (hn : n = (c.toNat : Int)) (hlen : l.length + 1 ≤ 140737488355328) :
    Calls Tryd.prog 31 #[.pointer (some ⟨b, 0, none⟩), .int .u8 n] w fun e w' => ∃ x, e = .returned x ∧ BlU B b (l ++ [c]) w' ∧ Below B w w' ∧ Oth b w w' := by
  obtain ⟨⟨h1, v, h2, h3, h4⟩, hB⟩ := h
  rw [byteCells_len] at h3
  have CC := hide' (Any.Builder_copyCheck_used { Tryd.laysW with } Tryd.Builder_Extra_W.toX72 b w (by simp [World.cell?, h2]))
  have hb1 : b < w.heap.size := by
    rcases Nat.lt_or_ge b w.heap.size with h | h
    · exact h
    · rw [Array.getElem?_eq_none h] at h2; cases h2
  have hv : ∃ a c, v = .slice a l.length c := by
    obtain ⟨_, k1 | ⟨g, cap, cur, e, _⟩⟩ := h3
    · exact ⟨none, 0, by rw [k1.1, k1.2]⟩
    · exact ⟨_, cap, e⟩
  obtain ⟨va0, vc0, rfl⟩ := hv
  have k0 : w.cell? ⟨b, 1, none⟩ = some (.slice va0 l.length vc0) := by simp [World.cell?, h2]
  have H2 := hide' h2
  have H3 := hide' h3
  have H4 := hide' h4
  have HN := hide' hn
  clear h2 h3 h4 hn
  obtain ⟨m, em⟩ : ∃ m, m = l.length := ⟨_, rfl⟩
  have M : Hid (l.length = m) := em.symm
  rw [M.out] at k0 H2 H3 H4 hlen
  clear em
  go_enter Tryd.func31, Tryd.ntmps31
  go_wp2_with fail
  refine CC.out.mono ?_
  rintro e w2 ⟨rfl, ew⟩
  rw [ew]
  clear ew CC
  have UM : Hid (∀ va vc w6, w6.ownsRow B 5 1 (.slice va (m + 1) vc) (l ++ [c]).length (Lib.byteCells (l ++ [c])) → (w.alloc (.cells #[.int .u8 n] 5)).grownBy w6 (Value.slice va0 m vc0).ownBlock → ((Value.slice va (m + 1) vc).ownBlock = (Value.slice va0 m vc0).ownBlock ∨ (Value.slice va (m + 1) vc).ownBlock = some (w.heap.size + 1)) →
      w6.heap[b]? = some (.cells #[.pointer (some ⟨b, 0, none⟩), .slice va0 m vc0] 54 (0, 0)) ∧ BlU B b (l ++ [c]) (w6.setCell ⟨b, 1, none⟩ (.slice va (m + 1) vc)) ∧ Below B w (w6.setCell ⟨b, 1, none⟩ (.slice va (m + 1) vc)) ∧ Oth b w (w6.setCell ⟨b, 1, none⟩ (.slice va (m + 1) vc))) := by
    intro va vc w6 r6 g6 o6
    have old : ∀ k, k < w.heap.size → some k ≠ (Value.slice va0 m vc0).ownBlock → w6.heap[k]? = w.heap[k]? := by
      intro k hk hne
      rw [g6.block k (by simp; omega) hne]
      exact (below_alloc' w _).block k hk
    have hb6 := old b hb1 (fun e => H4.out e.symm)
    rw [H2.out] at hb6
    have hne : (Value.slice va (m + 1) vc).ownBlock ≠ some b := by
      rcases o6 with o6 | o6
      · rw [o6]; exact H4.out
      · rw [o6]; intro e; simp at e; omega
    have bel : Below B w w6 := Below.grown ((Below.refl B w).alloc hB _) g6 (by simp; omega) (fun k hk => (H3.out.lt k hk).1)
    refine ⟨hb6, ⟨⟨h1, .slice va (m + 1) vc, ?_, ?_, hne⟩, ?_⟩, bel.setCell h1 _, ?_⟩
    · rw [heap_setV hb6]; rfl
    · rw [byteCells_len]
      obtain ⟨hl, k1 | ⟨g, cap, cur, e, hg, hh, hr⟩⟩ := r6
      · exact ⟨hl, .inl k1⟩
      · refine ⟨hl, .inr ⟨g, cap, cur, e, hg, ?_, hr⟩⟩
        rw [heap_setO (fun e2 => hne (by rw [e, ← e2]; rfl))]
        exact hh
    · have := bel.size; simp; omega
    · intro z cs T hz hT hc
      rw [heap_setO hz, old z ?_ ?_]
      · exact hc
      · rcases Nat.lt_or_ge z w.heap.size with h | h
        · exact h
        · rw [Array.getElem?_eq_none h] at hc; cases hc
      · intro e
        obtain ⟨_, k1 | ⟨g, cap, cur, e2, hg, hh, hr⟩⟩ := H3.out
        · rw [k1.1] at e; cases e
        · rw [e2] at e
          simp only [Value.ownBlock, Option.some.injEq] at e
          subst e
          rw [hc] at hh
          simp only [Option.some.injEq, Obj.cells.injEq] at hh
          exact hT hh.2.1
  go_wp2_with (at_builtin; refine appV rfl (.tmp 11) (.tmp 13) rfl B _ l (by simp [Act.eval]; rfl) (by rw [M.out]; exact H3.out) c HN.out rfl hB (by rw [M.out]; exact hlen) ?_; rw [M.out]; intro va vc w6 r6 g6 o6; obtain ⟨hb6, u6, b6, t6⟩ := UM.out va vc w6 r6 g6 o6; have k6 : w6.cell? ⟨b, 1, none⟩ = some (.slice va0 m vc0) := cellV hb6; have f6 : w6.frozen? ⟨b, 1, none⟩ = false := frozV hb6; have U6 := hide' u6; have B6 := hide' b6; have T6 := hide' t6; clear r6 g6 o6 hb6 u6 b6 t6)
  go_ret
  exact ⟨_, rfl, U6.out, B6.out, T6.out⟩
end Go.Proofs.YtmibgcbolnpffaaDoor
