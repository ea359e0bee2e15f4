/- A row of bytes that a call itself made: one more byte appended to it, and its conversion to a string. -/
import Derived.Test.YtipcmbonhkelbabGreatDoorPlain
import Derived.Test.YtipcmbonhkelbabGreatDoorRows
namespace Go.Proofs.YtipcmbonhkelbabGreatDoor
open Go.RowKit
theorem Tryz.info5 : (Tryz.prog.info? 5).map (fun i => (i.zero, i.size, i.bytes)) = some (some (.int .u8 0), 1, 1) := by kernel_rfl
theorem load_own (w : World) (base g cap : Nat) (bs : List UInt8) (h : w.ownsRow base 5 1 (.slice (some ⟨g, 0, none⟩) bs.length cap) bs.length (bs.map B)) :
    (loadCells ⟨g, 0, none⟩ bs.length).run Tryz.prog w = .ok ((bs.map (fun c => (c.toNat : Int))).map (Value.int .u8)).toArray w := by
  have := run_loadCells_list (P := Tryz.prog) (w := w) ⟨g, 0, none⟩ (bs.map B) (fun j v hv => h.cells rfl j v hv)
  simpa [map_B] using this
theorem conv_own (w : World) (base g cap : Nat) (bs : List UInt8) (h : w.ownsRow base 5 1 (.slice (some ⟨g, 0, none⟩) bs.length cap) bs.length (bs.map B)) :
    Sem.run Tryz.prog (convert 25 9 (.slice (some ⟨g, 0, none⟩) bs.length cap)) w = .ok (.string ⟨bs.toArray⟩) w := by
  rw [run_convert_bytes_string w 25 9 5 _ _ _ Tryz.underlying25 Tryz.underlying5 Tryz.underlying9, run_bytesToString w _ _ _ _ (load_own w base g cap bs h), fold_push]
  simp
theorem conv_nil (w : World) :
    Sem.run Tryz.prog (convert 25 9 (.slice none 0 0)) w = .ok (.string ⟨#[]⟩) w := by
  rw [run_convert_bytes_string w 25 9 5 _ _ _ Tryz.underlying25 Tryz.underlying5 Tryz.underlying9]
  unfold Conv.bytesToString
  simp [Sem.run_pure]
  rfl
/-- v holds just the bytes bs, in a row of the call's own; what lay below is as it was -/
def Own (w0 : World) (v : Value) (bs : List UInt8) (w : World) : Prop := w.ownsRow w0.heap.size 5 1 v bs.length (bs.map B) ∧ Below w0.heap.size w0 w
theorem own_nil (w0 w : World) (h : Below w0.heap.size w0 w) : Own w0 (.slice none 0 0) [] w := ⟨World.ownsRow_nil _ _ _ _, h⟩
theorem own_lit (w0 : World) (c : UInt8) (n : Int) (hn : n = (c.toNat : Int)) : Own w0 (.slice (some ⟨w0.heap.size, 0, none⟩) 1 1) [c] (w0.alloc (.cells #[.int .u8 n] 5)) := by
  subst hn
  exact ⟨World.ownsRow_lit w0 #[.int .u8 (c.toNat : Int)] 1 (Nat.le_refl _) (by decide) rfl, (Below.refl _ _).alloc (Nat.le_refl _) _⟩
theorem app1 {ops : Array Oper} {rest : List Oper} {o : Oper} {a : Act} {Q : Exit → Act → World → Prop} {wr : World} {n : Int} (hgd : o.guard = none) (s x : Operand)
    (ho : o.op = .call { callee := .builtin .append, args := #[s, x], argTypes := #[25, 25] }) (w0 : World) (v : Value) (bs : List UInt8) (hs : a.eval s = v) (hown : Own w0 v bs wr)
    (c : UInt8) (hn : n = (c.toNat : Int)) (hx : a.eval x = .slice (some ⟨wr.heap.size, 0, none⟩) 1 1) (hlen : bs.length + 1 ≤ 140737488355328)
    (h : ∀ v' w', Own w0 v' (bs ++ [c]) w' → wpList Tryz.prog ops Q rest (a.put o.dst v') w') : wpList Tryz.prog ops Q (o :: rest) a (wr.alloc (.cells #[.int .u8 n] 5)) := by
  subst hn
  obtain ⟨i0, hi, hz0, hz1, hz2⟩ := info_parts Tryz.info5
  have hsz := hown.2.size
  refine wpList_append_own _ hgd s x 25 ho w0.heap.size 5 i0 (.int .u8 0) 1 1 Tryz.underlying25 hi hz0 hz1 hz2 rfl (by decide) v bs.length (bs.map B) hs (hown.1.alloc _) ⟨wr.heap.size, 0, none⟩ 1 1 [B c] hx rfl ?_ ?_ ?_ ?_ ?_ ?_
  · intro j u hj
    match j, hj with
    | 0, hj => simp at hj; subst hj; simp [Addr.add, B]
  · intro u hu; simp at hu; subst hu; rfl
  · unfold maxLen; omega
  · omega
  · simp; omega
  · intro v' w' h1 h2 _
    refine h v' w' ⟨by simpa using h1, ?_⟩
    refine Below.grown (hown.2.alloc (by omega) _) h2 (by simp; omega) ?_
    intro k hk
    exact (hown.1.lt k hk).1
theorem own_conv {w0 w : World} {v : Value} {bs : List UInt8} (h : Own w0 v bs w) : Sem.run Tryz.prog (convert 25 9 v) w = .ok (.string ⟨bs.toArray⟩) w := by
  rcases h.1.2 with ⟨rfl, hn⟩ | ⟨g, cap, cur, rfl, _⟩
  · obtain rfl : bs = [] := List.eq_nil_of_length_eq_zero hn
    exact conv_nil w
  · exact conv_own w _ g cap bs h.1
theorem extract_list (s : ByteArray) (a b : Nat) : (s.extract a b).data.toList = (s.data.toList.drop a).take (b - a) := by
  simp [ByteArray.data_extract, List.extract_eq_take_drop]
theorem own_empty (w0 : World) : Own w0 (.slice (some ⟨w0.heap.size, 0, none⟩) 0 0) [] (w0.alloc (.cells #[] 5)) :=
  ⟨World.ownsRow_lit w0 #[] 0 (Nat.le_refl _) (by decide) rfl, (Below.refl _ _).alloc (Nat.le_refl _) _⟩
end Go.Proofs.YtipcmbonhkelbabGreatDoor
