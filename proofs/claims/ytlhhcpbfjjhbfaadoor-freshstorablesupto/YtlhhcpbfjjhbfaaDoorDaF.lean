/- The contract of the document's forms. -/
import Derived.Test.YtlhhcpbfjjhbfaaDoorDaS
import Derived.Deep.RegionHeld3
namespace Go.Proofs.YtlhhcpbfjjhbfaaDoor
open Go.RowKit
def dashL (n r y m d : Int) : List UInt8 := wkL n ++ [44, 32] ++ D2 d ++ [45] ++ moL m ++ [45] ++ D2 (y % 100) ++ [32] ++ hmsL r ++ [32, 71, 77, 84]
def padL (d : Int) : List UInt8 := if d < 10 then [32, dg d] else D2 d
def blankL (n r y m d : Int) : List UInt8 := (wkL n).take 3 ++ [32] ++ moL m ++ [32] ++ padL d ++ [32] ++ hmsL r ++ [32] ++ D4 y
def dash2L (n r y m d : Int) : List UInt8 := if y < 2070 then dashL n r y m d else []
/-- a block of three texts -/
def Arr3 (b : Nat) (x y z : ByteArray) (W : World) : Prop := W.cell? ⟨b, 0, none⟩ = some (.string x) ∧ W.cell? ⟨b, 1, none⟩ = some (.string y) ∧ W.cell? ⟨b, 2, none⟩ = some (.string z) ∧ W.frozen? ⟨b, 0, none⟩ = false ∧ W.frozen? ⟨b, 1, none⟩ = false ∧ W.frozen? ⟨b, 2, none⟩ = false ∧ b < W.heap.size
theorem arr_below {b : Nat} {x y z : ByteArray} {W W' : World} (h : Arr3 b x y z W) (hb : Below W.heap.size W W') : Arr3 b x y z W' := by
  obtain ⟨h1, h2, h3, h4, h5, h6, h7⟩ := h
  have c : ∀ o, W'.cell? ⟨b, o, none⟩ = W.cell? ⟨b, o, none⟩ := fun o => hb.cell (p := ⟨b, o, none⟩) h7
  have f : ∀ o, W'.frozen? ⟨b, o, none⟩ = W.frozen? ⟨b, o, none⟩ := fun o => hb.frozen (p := ⟨b, o, none⟩) h7
  exact ⟨by rw [c]; exact h1, by rw [c]; exact h2, by rw [c]; exact h3, by rw [f]; exact h4, by rw [f]; exact h5, by rw [f]; exact h6, Nat.lt_of_lt_of_le h7 hb.size⟩
/-- the two arrays of the call: the one of the result, empty, and its own -/
def St (w0 : World) (g : Nat) (a b c : ByteArray) (W : World) : Prop := Arr3 w0.heap.size ⟨#[]⟩ ⟨#[]⟩ ⟨#[]⟩ W ∧ Arr3 g a b c W ∧ Below w0.heap.size w0 W ∧ w0.heap.size < g
theorem st_below {w0 W W' : World} {g : Nat} {a b c : ByteArray} (h : St w0 g a b c W) (hb : Below W.heap.size W W') : St w0 g a b c W' :=
  ⟨arr_below h.1 hb, arr_below h.2.1 hb, h.2.2.1.trans (hb.mono h.2.2.1.size), h.2.2.2⟩
theorem st_drew {w0 W : World} {g : Nat} {a b c : ByteArray} (h : St w0 g a b c W) : St w0 g a b c W.drew := st_below h ((Below.refl _ _).drew)
theorem arr_other {b b' o : Nat} {x y z : ByteArray} {v : Value} {W : World} (h : Arr3 b x y z W) (hn : b ≠ b') : Arr3 b x y z (W.setCell ⟨b', o, none⟩ v) := by
  obtain ⟨h1, h2, h3, h4, h5, h6, h7⟩ := h
  have c : ∀ i, (W.setCell ⟨b', o, none⟩ v).cell? ⟨b, i, none⟩ = W.cell? ⟨b, i, none⟩ := fun i => World.cell?_setCell_other _ _ _ _ (by first | (simp; done) | omega)
  refine ⟨by rw [c]; exact h1, by rw [c]; exact h2, by rw [c]; exact h3, by simpa using h4, by simpa using h5, by simpa using h6, by simpa using h7⟩
theorem arr_set0 {b : Nat} {x y z : ByteArray} {W : World} (h : Arr3 b x y z W) (s : ByteArray) : Arr3 b s y z (W.setCell ⟨b, 0, none⟩ (.string s)) := by
  obtain ⟨h1, h2, h3, h4, h5, h6, h7⟩ := h
  refine ⟨World.cell?_setCell_same _ _ _ h1, ?_, ?_, by simpa using h4, by simpa using h5, by simpa using h6, by simpa using h7⟩
  · rw [World.cell?_setCell_other _ _ _ _ (by simp)]; exact h2
  · rw [World.cell?_setCell_other _ _ _ _ (by simp)]; exact h3
theorem arr_set1 {b : Nat} {x y z : ByteArray} {W : World} (h : Arr3 b x y z W) (s : ByteArray) : Arr3 b x s z (W.setCell ⟨b, 1, none⟩ (.string s)) := by
  obtain ⟨h1, h2, h3, h4, h5, h6, h7⟩ := h
  refine ⟨?_, World.cell?_setCell_same _ _ _ h2, ?_, by simpa using h4, by simpa using h5, by simpa using h6, by simpa using h7⟩
  · rw [World.cell?_setCell_other _ _ _ _ (by simp)]; exact h1
  · rw [World.cell?_setCell_other _ _ _ _ (by simp)]; exact h3
theorem arr_set2 {b : Nat} {x y z : ByteArray} {W : World} (h : Arr3 b x y z W) (s : ByteArray) : Arr3 b x y s (W.setCell ⟨b, 2, none⟩ (.string s)) := by
  obtain ⟨h1, h2, h3, h4, h5, h6, h7⟩ := h
  refine ⟨?_, ?_, World.cell?_setCell_same _ _ _ h3, by simpa using h4, by simpa using h5, by simpa using h6, by simpa using h7⟩
  · rw [World.cell?_setCell_other _ _ _ _ (by simp)]; exact h1
  · rw [World.cell?_setCell_other _ _ _ _ (by simp)]; exact h2
theorem st_set0 {w0 W : World} {g : Nat} {a b c : ByteArray} (h : St w0 g a b c W) (s : ByteArray) : St w0 g s b c (W.setCell ⟨g, 0, none⟩ (.string s)) :=
  ⟨arr_other h.1 (Nat.ne_of_lt h.2.2.2), arr_set0 h.2.1 s, h.2.2.1.setCell (Nat.le_of_lt h.2.2.2) _, h.2.2.2⟩
theorem st_set1 {w0 W : World} {g : Nat} {a b c : ByteArray} (h : St w0 g a b c W) (s : ByteArray) : St w0 g a s c (W.setCell ⟨g, 1, none⟩ (.string s)) :=
  ⟨arr_other h.1 (Nat.ne_of_lt h.2.2.2), arr_set1 h.2.1 s, h.2.2.1.setCell (Nat.le_of_lt h.2.2.2) _, h.2.2.2⟩
theorem st_set2 {w0 W : World} {g : Nat} {a b c : ByteArray} (h : St w0 g a b c W) (s : ByteArray) : St w0 g a b s (W.setCell ⟨g, 2, none⟩ (.string s)) :=
  ⟨arr_other h.1 (Nat.ne_of_lt h.2.2.2), arr_set2 h.2.1 s, h.2.2.1.setCell (Nat.le_of_lt h.2.2.2) _, h.2.2.2⟩
theorem st_out {w0 W : World} {g : Nat} {a b c : ByteArray} (h : St w0 g a b c W) : Arr3 w0.heap.size a b c (((W.setCell ⟨w0.heap.size, 0, none⟩ (.string a)).setCell ⟨w0.heap.size, 1, none⟩ (.string b)).setCell ⟨w0.heap.size, 2, none⟩ (.string c)) ∧ Below w0.heap.size w0 (((W.setCell ⟨w0.heap.size, 0, none⟩ (.string a)).setCell ⟨w0.heap.size, 1, none⟩ (.string b)).setCell ⟨w0.heap.size, 2, none⟩ (.string c)) :=
  ⟨arr_set2 (arr_set1 (arr_set0 h.1 a) b) c, ((h.2.2.1.setCell (Nat.le_refl _) _).setCell (Nat.le_refl _) _).setCell (Nat.le_refl _) _⟩
theorem st_call {f : FuncId} {args : Array Value} {v : Value} (h : ∀ W : World, Calls Tryd.prog f args W fun e w' => e = .returned v ∧ Below W.heap.size W w') {w0 W : World} {g : Nat} {a b c : ByteArray} (hs : St w0 g a b c W) :
    Calls Tryd.prog f args W fun e w' => e = .returned v ∧ Hid (St w0 g a b c w') ∧ w'.cell? ⟨g, 0, none⟩ = some (.string a) ∧ w'.cell? ⟨g, 1, none⟩ = some (.string b) ∧ w'.cell? ⟨g, 2, none⟩ = some (.string c) ∧ w'.frozen? ⟨g, 0, none⟩ = false ∧ w'.frozen? ⟨g, 1, none⟩ = false ∧ w'.frozen? ⟨g, 2, none⟩ = false := by
  refine (h W).mono ?_
  rintro e w' ⟨rfl, hb⟩
  have s := st_below hs hb
  obtain ⟨h1, h2, h3, h4, h5, h6, h7⟩ := s.2.1
  exact ⟨rfl, s, h1, h2, h3, h4, h5, h6⟩
theorem same_below {f : FuncId} {args : Array Value} {v : Value} (h : ∀ W : World, Calls Tryd.prog f args W fun e w' => e = .returned v ∧ w' = W) : ∀ W : World, Calls Tryd.prog f args W fun e w' => e = .returned v ∧ Below W.heap.size W w' := fun W => (h W).mono fun e w' ⟨he, hw⟩ => ⟨he, by rw [hw]; exact Below.refl _ _⟩
end Go.Proofs.YtlhhcpbfjjhbfaaDoor
