/- The contract of param: what paramOf says of a piece. -/
import Derived.Test.YtegdbieieacalaaDoorCut
import Derived.Test.YtegdbieieacalaaDoorUb
namespace Go.Proofs.YtegdbieieacalaaDoor
open Go.RowKit
theorem bcell {W w1 : World} (hb : Below W.heap.size W w1) : (∀ b o, b < W.heap.size → w1.cell? ⟨b, o, none⟩ = W.cell? ⟨b, o, none⟩) ∧ (∀ b o, b < W.heap.size → w1.frozen? ⟨b, o, none⟩ = W.frozen? ⟨b, o, none⟩) :=
  ⟨fun b o h => hb.cell (p := ⟨b, o, none⟩) h, fun b o h => hb.frozen (p := ⟨b, o, none⟩) h⟩
/-- a call that answers v and only makes memory -/
def Gives (f : FuncId) (args : Array Value) (v : Value) : Prop := ∀ W : World, Calls Tryd.prog f args W fun e w' => e = .returned v ∧ Below W.heap.size W w'
def Draws (f : FuncId) (args : Array Value) (v : Value) : Prop := ∀ W : World, Calls Tryd.prog f args W fun e w' => e = .returned v ∧ ∃ n, w' = W.drewN n
def Same (f : FuncId) (args : Array Value) (v : Value) : Prop := ∀ W : World, Calls Tryd.prog f args W fun e w' => e = .returned v ∧ w' = W
/-- the two cells of a variable of the call's own -/
def Two (w0 w : World) : Prop := (∃ x, w.cell? ⟨w0.heap.size, 0, none⟩ = some (.string x)) ∧ (∃ x, w.cell? ⟨w0.heap.size, 1, none⟩ = some (.string x)) ∧ w.frozen? ⟨w0.heap.size, 0, none⟩ = false ∧ w.frozen? ⟨w0.heap.size, 1, none⟩ = false ∧ w0.heap.size < w.heap.size ∧ Below w0.heap.size w0 w
theorem two_start (w : World) : Two w (w.alloc (.cells #[.string ⟨#[]⟩, .string ⟨#[]⟩] 35)) :=
  ⟨⟨⟨#[]⟩, by simp⟩, ⟨⟨#[]⟩, by simp⟩, by simp, by simp, by simp, (Below.refl _ _).alloc (Nat.le_refl _) _⟩
theorem two_below {w0 w w' : World} (h : Two w0 w) (hb : Below w.heap.size w w') : Two w0 w' := by
  obtain ⟨⟨x, h1⟩, ⟨y, h2⟩, h3, h4, h5, h6⟩ := h
  obtain ⟨c, f⟩ := bcell hb
  have := hb.size
  exact ⟨⟨x, by rw [c _ _ h5]; exact h1⟩, ⟨y, by rw [c _ _ h5]; exact h2⟩, by rw [f _ _ h5]; exact h3, by rw [f _ _ h5]; exact h4, by omega, h6.trans (hb.mono h6.size)⟩
theorem two_drawn {w0 w : World} (h : Two w0 w) (n : Nat) : Two w0 (w.drewN n) := two_below h (below_drewN w n)
theorem two_store {w0 w : World} (h : Two w0 w) (a b : Value) : ((w.setCell ⟨w0.heap.size, 0, none⟩ a).setCell ⟨w0.heap.size, 1, none⟩ b).cell? ⟨w0.heap.size, 0, none⟩ = some a ∧ ((w.setCell ⟨w0.heap.size, 0, none⟩ a).setCell ⟨w0.heap.size, 1, none⟩ b).cell? ⟨w0.heap.size, 1, none⟩ = some b ∧ Below w0.heap.size w0 ((w.setCell ⟨w0.heap.size, 0, none⟩ a).setCell ⟨w0.heap.size, 1, none⟩ b) := by
  obtain ⟨⟨x, h1⟩, ⟨y, h2⟩, h3, h4, h5, h6⟩ := h
  refine ⟨?_, ?_, (h6.setCell (Nat.le_refl _) _).setCell (Nat.le_refl _) _⟩
  · rw [World.cell?_setCell_other _ _ _ _ (by simp)]
    exact World.cell?_setCell_same _ _ _ h1
  · refine World.cell?_setCell_same (u := .string y) _ _ _ ?_
    rw [World.cell?_setCell_other _ _ _ _ (by simp)]
    exact h2
set_option maxHeartbeats 1000000 in
theorem paramTok_no0 (t : ByteArray) (w : World) (cCut : Draws 33 #[.string t, .string ⟨#[61]⟩] (.tuple #[.string t, .string ⟨#[]⟩, .bool false])) :
    Calls Tryd.prog 28 #[.string t] w fun e w' => e = .returned (.tuple #[.agg #[.string ⟨#[]⟩, .string ⟨#[]⟩], .int .i64 12]) ∧ Below w.heap.size w w' := by
  go_enter Tryd.func28, Tryd.ntmps28
  go_wp2_with fail
  refine (cCut _).mono ?_
  rintro e w1 ⟨rfl, n, h1⟩
  have T : Hid (Two w w1) := by rw [h1]; exact two_drawn (two_start w) n
  clear h1
  obtain ⟨⟨x1, c1⟩, ⟨x2, c2⟩, f1, f2, z, bel⟩ := T.out
  go_wp2_with fail
  obtain ⟨q1, q2, q3⟩ := two_store T.out (.string ⟨#[]⟩) (.string ⟨#[]⟩)
  exact bodyPost_ret (v := .tuple #[.agg #[.string ⟨#[]⟩, .string ⟨#[]⟩], .int .i64 12]) (by simp [results, Tryd.results28, go_sem, q1, q2]) rfl ⟨rfl, q3⟩
set_option maxHeartbeats 1000000 in
theorem paramTok_no1 (t nm vl : ByteArray) (w : World) (cCut : Draws 33 #[.string t, .string ⟨#[61]⟩] (.tuple #[.string nm, .string vl, .bool true])) (cN : Same 7 #[.string nm] (.bool false)) :
    Calls Tryd.prog 28 #[.string t] w fun e w' => e = .returned (.tuple #[.agg #[.string ⟨#[]⟩, .string ⟨#[]⟩], .int .i64 12]) ∧ Below w.heap.size w w' := by
  go_enter Tryd.func28, Tryd.ntmps28
  go_wp2_with fail
  refine (cCut _).mono ?_
  rintro e w1 ⟨rfl, n, h1⟩
  have T : Hid (Two w w1) := by rw [h1]; exact two_drawn (two_start w) n
  clear h1
  obtain ⟨⟨x1, c1⟩, ⟨x2, c2⟩, f1, f2, z, bel⟩ := T.out
  go_wp2_with fail
  refine (cN _).mono ?_
  rintro e w2 ⟨rfl, rfl⟩
  go_wp2_with fail
  obtain ⟨q1, q2, q3⟩ := two_store T.out (.string ⟨#[]⟩) (.string ⟨#[]⟩)
  exact bodyPost_ret (v := .tuple #[.agg #[.string ⟨#[]⟩, .string ⟨#[]⟩], .int .i64 12]) (by simp [results, Tryd.results28, go_sem, q1, q2]) rfl ⟨rfl, q3⟩
set_option maxHeartbeats 1000000 in
theorem paramTok_no2 (t nm vl : ByteArray) (w : World) (cCut : Draws 33 #[.string t, .string ⟨#[61]⟩] (.tuple #[.string nm, .string vl, .bool true])) (cN : Same 7 #[.string nm] (.bool true)) (cV : Same 7 #[.string vl] (.bool false))
    (u : ByteArray) (cU : Gives 18 #[.string vl] (.tuple #[.string u, .int .i64 11])) :
    Calls Tryd.prog 28 #[.string t] w fun e w' => e = .returned (.tuple #[.agg #[.string ⟨#[]⟩, .string ⟨#[]⟩], .int .i64 12]) ∧ Below w.heap.size w w' := by
  go_enter Tryd.func28, Tryd.ntmps28
  go_wp2_with fail
  refine (cCut _).mono ?_
  rintro e w1 ⟨rfl, n, h1⟩
  have T : Hid (Two w w1) := by rw [h1]; exact two_drawn (two_start w) n
  clear h1
  go_wp2_with fail
  refine (cN _).mono ?_
  rintro e w2 ⟨rfl, rfl⟩
  go_wp2_with fail
  refine (cV _).mono ?_
  rintro e w3 ⟨rfl, rfl⟩
  go_wp2_with fail
  refine (cU _).mono ?_
  rintro e w4 ⟨rfl, h4⟩
  have T4 : Hid (Two w w4) := two_below T.out h4
  clear h4 T
  obtain ⟨⟨x1, c1⟩, ⟨x2, c2⟩, f1, f2, z, bel⟩ := T4.out
  go_wp2_with fail
  obtain ⟨q1, q2, q3⟩ := two_store T4.out (.string ⟨#[]⟩) (.string ⟨#[]⟩)
  exact bodyPost_ret (v := .tuple #[.agg #[.string ⟨#[]⟩, .string ⟨#[]⟩], .int .i64 12]) (by simp [results, Tryd.results28, go_sem, q1, q2]) rfl ⟨rfl, q3⟩
set_option maxHeartbeats 1000000 in
theorem paramTok_yes1 (t nm vl lo : ByteArray) (w : World) (cCut : Draws 33 #[.string t, .string ⟨#[61]⟩] (.tuple #[.string nm, .string vl, .bool true])) (cN : Same 7 #[.string nm] (.bool true)) (cV : Same 7 #[.string vl] (.bool true))
    (cF : Gives 11 #[.string nm] (.string lo)) (cC : Gives 23 #[.string vl] (.string vl)) :
    Calls Tryd.prog 28 #[.string t] w fun e w' => e = .returned (.tuple #[.agg #[.string lo, .string vl], .int .i64 0]) ∧ Below w.heap.size w w' := by
  go_enter Tryd.func28, Tryd.ntmps28
  go_wp2_with fail
  refine (cCut _).mono ?_
  rintro e w1 ⟨rfl, n, h1⟩
  have T : Hid (Two w w1) := by rw [h1]; exact two_drawn (two_start w) n
  clear h1
  go_wp2_with fail
  refine (cN _).mono ?_
  rintro e w2 ⟨rfl, rfl⟩
  go_wp2_with fail
  refine (cV _).mono ?_
  rintro e w3 ⟨rfl, rfl⟩
  go_wp2_with fail
  refine (cF _).mono ?_
  rintro e w4 ⟨rfl, h4⟩
  have T4 : Hid (Two w w4) := two_below T.out h4
  clear h4 T
  go_wp2_with fail
  refine (cC _).mono ?_
  rintro e w5 ⟨rfl, h5⟩
  have T5 : Hid (Two w w5) := two_below T4.out h5
  clear h5 T4
  obtain ⟨⟨x1, c1⟩, ⟨x2, c2⟩, f1, f2, z, bel⟩ := T5.out
  go_wp2_with fail
  obtain ⟨q1, q2, q3⟩ := two_store T5.out (.string lo) (.string vl)
  exact bodyPost_ret (v := .tuple #[.agg #[.string lo, .string vl], .int .i64 0]) (by simp [results, Tryd.results28, go_sem, q1, q2]) rfl ⟨rfl, q3⟩
set_option maxHeartbeats 1000000 in
theorem paramTok_yes2 (t nm vl lo u : ByteArray) (w : World) (cCut : Draws 33 #[.string t, .string ⟨#[61]⟩] (.tuple #[.string nm, .string vl, .bool true])) (cN : Same 7 #[.string nm] (.bool true)) (cV : Same 7 #[.string vl] (.bool false))
    (cU : Gives 18 #[.string vl] (.tuple #[.string u, .int .i64 0])) (cF : Gives 11 #[.string nm] (.string lo)) :
    Calls Tryd.prog 28 #[.string t] w fun e w' => e = .returned (.tuple #[.agg #[.string lo, .string u], .int .i64 0]) ∧ Below w.heap.size w w' := by
  go_enter Tryd.func28, Tryd.ntmps28
  go_wp2_with fail
  refine (cCut _).mono ?_
  rintro e w1 ⟨rfl, n, h1⟩
  have T : Hid (Two w w1) := by rw [h1]; exact two_drawn (two_start w) n
  clear h1
  go_wp2_with fail
  refine (cN _).mono ?_
  rintro e w2 ⟨rfl, rfl⟩
  go_wp2_with fail
  refine (cV _).mono ?_
  rintro e w3 ⟨rfl, rfl⟩
  go_wp2_with fail
  refine (cU _).mono ?_
  rintro e w4 ⟨rfl, h4⟩
  have T4 : Hid (Two w w4) := two_below T.out h4
  clear h4 T
  go_wp2_with fail
  refine (cF _).mono ?_
  rintro e w5 ⟨rfl, h5⟩
  have T5 : Hid (Two w w5) := two_below T4.out h5
  clear h5 T4
  obtain ⟨⟨x1, c1⟩, ⟨x2, c2⟩, f1, f2, z, bel⟩ := T5.out
  go_wp2_with fail
  obtain ⟨q1, q2, q3⟩ := two_store T5.out (.string lo) (.string u)
  exact bodyPost_ret (v := .tuple #[.agg #[.string lo, .string u], .int .i64 0]) (by simp [results, Tryd.results28, go_sem, q1, q2]) rfl ⟨rfl, q3⟩
/-- the value that a piece gives -/
def paramV (t : List UInt8) : Value := match paramOf t with
  | some x => .tuple #[.agg #[.string ⟨x.1.toArray⟩, .string ⟨x.2.toArray⟩], .int .i64 0]
  | none => .tuple #[.agg #[.string ⟨#[]⟩, .string ⟨#[]⟩], .int .i64 12]
theorem size_l (l : List UInt8) : (⟨l.toArray⟩ : ByteArray).size = l.length := by show l.toArray.size = _; rw [List.size_toArray]
theorem paramTok (t : List UInt8) (w : World) (hl : t.length ≤ 4194304) :
    Calls Tryd.prog 28 #[.string ⟨t.toArray⟩] w fun e w' => e = .returned (paramV t) ∧ Below w.heap.size w w' := by
  have hn : (t.take (eqPos t)).length ≤ 4194304 := Nat.le_trans (List.length_take_le' _ _) hl
  have hv : (t.drop (eqPos t + 1)).length ≤ 4194304 := by rw [List.length_drop]; omega
  by_cases h1 : eqPos t < t.length
  · have cCut : Draws 33 #[.string ⟨t.toArray⟩, .string ⟨#[61]⟩] (.tuple #[.string ⟨(t.take (eqPos t)).toArray⟩, .string ⟨(t.drop (eqPos t + 1)).toArray⟩, .bool true]) := fun W => cutEq1 ⟨t.toArray⟩ W (by rw [size_l]; exact hl) (by rw [size_l]; exact h1)
    have cN : Same 7 #[.string ⟨(t.take (eqPos t)).toArray⟩] (.bool (isTok (t.take (eqPos t)))) := fun W => tokenTok ⟨(t.take (eqPos t)).toArray⟩ W (by rw [size_l]; omega)
    have cV : Same 7 #[.string ⟨(t.drop (eqPos t + 1)).toArray⟩] (.bool (isTok (t.drop (eqPos t + 1)))) := fun W => tokenTok ⟨(t.drop (eqPos t + 1)).toArray⟩ W (by rw [size_l]; omega)
    have cF : Gives 11 #[.string ⟨(t.take (eqPos t)).toArray⟩] (.string ⟨(lows (t.take (eqPos t))).toArray⟩) := fun W => foldTok ⟨(t.take (eqPos t)).toArray⟩ W (by rw [size_l]; omega)
    have cC : Gives 23 #[.string ⟨(t.drop (eqPos t + 1)).toArray⟩] (.string ⟨(t.drop (eqPos t + 1)).toArray⟩) := fun W => cloneL _ W (by omega)
    have cU : Gives 18 #[.string ⟨(t.drop (eqPos t + 1)).toArray⟩] (.tuple #[.string ⟨(unqS ⟨(t.drop (eqPos t + 1)).toArray⟩).1.toArray⟩, .int .i64 (unqS ⟨(t.drop (eqPos t + 1)).toArray⟩).2]) := fun W => unquoteTok _ W (by rw [size_l]; exact hv)
    unfold paramV paramOf
    cases h2 : isTok (t.take (eqPos t)) with
    | false =>
      rw [h2] at cN
      rw [if_neg (by simp)]
      exact paramTok_no1 _ _ _ w cCut cN
    | true =>
      rw [h2] at cN
      rw [if_pos ⟨h1, rfl⟩]
      cases h3 : isTok (t.drop (eqPos t + 1)) with
      | true =>
        rw [h3] at cV
        rw [if_pos rfl]
        exact paramTok_yes1 _ _ _ _ w cCut cN cV cF cC
      | false =>
        rw [h3] at cV
        rw [if_neg (by simp)]
        rcases unqS_err ⟨(t.drop (eqPos t + 1)).toArray⟩ with h4 | h4
        · rw [h4] at cU
          rw [if_pos h4]
          exact paramTok_yes2 _ _ _ _ _ w cCut cN cV cU cF
        · rw [h4] at cU
          rw [if_neg (by rw [h4]; decide)]
          exact paramTok_no2 _ _ _ w cCut cN cV _ cU
  · unfold paramV paramOf
    rw [if_neg (fun h => h1 h.1)]
    exact paramTok_no0 _ w (fun W => cutEq0 ⟨t.toArray⟩ W (by rw [size_l]; exact h1))
end Go.Proofs.YtegdbieieacalaaDoor
