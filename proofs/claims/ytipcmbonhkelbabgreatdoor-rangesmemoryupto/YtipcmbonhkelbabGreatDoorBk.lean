/- Small things that every text uses. Plain lemmas on how a text is cut into pieces outside of quoted stretches; nothing of the program is named here. A row of texts that a call itself made: one more text appended to it, and what it holds in later worlds; the contract of SameTexts. The contract of Clone. The contracts of trimmed, Clone, Trim and of the document's Trim. The contracts of Trim and of the document's Trim. The contract of SameTexts: it answers whether the texts are the same. The contracts of Fold and of the document's Lower. Rows that are owned, beside blocks that are written. A block of any number of cells that may be written (a struct of several parts). Plain lemmas on what stands in quotes; nothing of the program is named here. -/
import Derived.Test.YtipcmbonhkelbabGreatDoorPlain
import Derived.Test.YtipcmbonhkelbabGreatDoorRows
import Derived.Handy
import Derived.Deep.QuietTactic
import Derived.BigQuiet
import Derived.Test.YtipcmbonhkelbabGreatDoorShelf
import Derived.Laws.DeepStrings4
import Derived.Lib.Bytealg
import Derived.Test.YtipcmbonhkelbabGreatDoorOwnB
namespace Go.Proofs.YtipcmbonhkelbabGreatDoor
open Go.RowKit
theorem hide' {p : Prop} (h : p) : Hid p := h
theorem size_l (l : List UInt8) : (⟨l.toArray⟩ : ByteArray).size = l.length := by show l.toArray.size = _; rw [List.size_toArray]
theorem bcell {W w1 : World} (hb : Below W.heap.size W w1) : (∀ b o, b < W.heap.size → w1.cell? ⟨b, o, none⟩ = W.cell? ⟨b, o, none⟩) ∧ (∀ b o, b < W.heap.size → w1.frozen? ⟨b, o, none⟩ = W.frozen? ⟨b, o, none⟩) :=
  ⟨fun b o h => hb.cell (p := ⟨b, o, none⟩) h, fun b o h => hb.frozen (p := ⟨b, o, none⟩) h⟩
theorem below_alloc' (w : World) (o : Obj) : Below w.heap.size w (w.alloc o) := (Below.refl _ _).alloc (Nat.le_refl _) _
abbrev FL := List (List UInt8 × List UInt8)
end Go.Proofs.YtipcmbonhkelbabGreatDoor
namespace Go.Proofs.YtipcmbonhkelbabGreatDoor
open Go.RowKit
/-- the pieces of cur ++ l, cur being read already; q: within quotes -/
def pcs (c : Int) (q : Bool) (cur : List UInt8) : List UInt8 → List (List UInt8)
  | [] => [cur]
  | [x] => if (x.toNat : Int) = 34 then [cur ++ [x]] else if q = true ∧ (x.toNat : Int) = 92 then [cur ++ [x]] else if q = false ∧ (x.toNat : Int) = c then [cur, []] else [cur ++ [x]]
  | x :: y :: r => if (x.toNat : Int) = 34 then pcs c (!q) (cur ++ [x]) (y :: r) else if q = true ∧ (x.toNat : Int) = 92 then pcs c q (cur ++ [x, y]) r else if q = false ∧ (x.toNat : Int) = c then cur :: pcs c q [] (y :: r) else pcs c q (cur ++ [x]) (y :: r)
section
variable (c : Int) (q : Bool) (cur : List UInt8) (x : UInt8) (r : List UInt8)
theorem pcs_quote (h : (x.toNat : Int) = 34) : pcs c q cur (x :: r) = pcs c (!q) (cur ++ [x]) r := by
  cases r with
  | nil => rw [pcs, pcs, if_pos h]
  | cons y r => rw [pcs, if_pos h]
theorem pcs_esc (h : (x.toNat : Int) = 92) (y : UInt8) : pcs c true cur (x :: y :: r) = pcs c true (cur ++ [x, y]) r := by
  rw [pcs, if_neg (by omega), if_pos ⟨rfl, h⟩]
theorem pcs_esc_end (h : (x.toNat : Int) = 92) : pcs c true cur [x] = [cur ++ [x]] := by
  rw [pcs, if_neg (by omega), if_pos ⟨rfl, h⟩]
theorem pcs_cut (h34 : ¬ (x.toNat : Int) = 34) (h : (x.toNat : Int) = c) : pcs c false cur (x :: r) = cur :: pcs c false [] r := by
  cases r with
  | nil => rw [pcs, pcs, if_neg h34, if_neg (by simp), if_pos ⟨rfl, h⟩]
  | cons y r => rw [pcs, if_neg h34, if_neg (by simp), if_pos ⟨rfl, h⟩]
theorem pcs_plain (h34 : ¬ (x.toNat : Int) = 34) (h92 : ¬ (q = true ∧ (x.toNat : Int) = 92)) (hc : ¬ (q = false ∧ (x.toNat : Int) = c)) : pcs c q cur (x :: r) = pcs c q (cur ++ [x]) r := by
  cases r with
  | nil => rw [pcs, pcs, if_neg h34, if_neg h92, if_neg hc]
  | cons y r => rw [pcs, if_neg h34, if_neg h92, if_neg hc]
end
def pieces (c : Int) (L : List UInt8) : List (List UInt8) := pcs c false [] L
/-- behind some rounds: i the next byte's place, f where the piece begins -/
def RelP (c : Int) (L : List UInt8) (i f : Nat) (q : Bool) (out : List (List UInt8)) : Prop :=
  f ≤ i ∧ f ≤ L.length ∧ i ≤ L.length + 1 ∧ out.length ≤ f ∧ pieces c L = out ++ pcs c q ((L.drop f).take (i - f)) (L.drop i)
section
variable {c : Int} {L : List UInt8} {i f : Nat} {q : Bool} {out : List (List UInt8)}
theorem relP_start (c : Int) (L : List UInt8) : RelP c L 0 0 false [] := ⟨Nat.le_refl _, Nat.zero_le _, Nat.zero_le _, Nat.le_refl _, by simp [pieces]⟩
theorem seg_snoc (hf : f ≤ i) (hi : i < L.length) : (L.drop f).take (i + 1 - f) = (L.drop f).take (i - f) ++ [L[i]] := by
  rw [show i + 1 - f = (i - f) + 1 by omega, List.take_succ_eq_append_getElem (by rw [List.length_drop]; omega), List.getElem_drop]
  congr 2
  congr 1
  omega
theorem drop_cons (hi : i < L.length) : L.drop i = L[i] :: L.drop (i + 1) := List.drop_eq_getElem_cons hi
theorem relP_quote (h : RelP c L i f q out) (hi : i < L.length) (h34 : (L[i].toNat : Int) = 34) : RelP c L (i + 1) f (!q) out := by
  obtain ⟨a, b, d, e, g⟩ := h
  refine ⟨by omega, b, by omega, e, ?_⟩
  rw [g, drop_cons hi, pcs_quote _ _ _ _ _ h34, seg_snoc a hi]
theorem relP_esc (h : RelP c L i f true out) (hi : i < L.length) (h92 : (L[i].toNat : Int) = 92) : RelP c L (i + 2) f true out := by
  obtain ⟨a, b, d, e, g⟩ := h
  refine ⟨by omega, b, by omega, e, ?_⟩
  by_cases hi2 : i + 1 < L.length
  · rw [g, drop_cons hi, drop_cons hi2, pcs_esc _ _ _ _ h92, seg_snoc (i := i + 1) (by omega) hi2, seg_snoc a hi]
    simp
  · have hl : L.length = i + 1 := by omega
    rw [g, drop_cons hi, List.drop_of_length_le (by omega : L.length ≤ i + 1), pcs_esc_end _ _ _ h92, List.drop_of_length_le (by omega : L.length ≤ i + 2), pcs]
    rw [← seg_snoc a hi, List.take_of_length_le (by rw [List.length_drop]; omega), List.take_of_length_le (by rw [List.length_drop]; omega)]
theorem relP_cut (h : RelP c L i f false out) (hi : i < L.length) (h34 : ¬ (L[i].toNat : Int) = 34) (hc : (L[i].toNat : Int) = c) : RelP c L (i + 1) (i + 1) false (out ++ [(L.drop f).take (i - f)]) := by
  obtain ⟨a, b, d, e, g⟩ := h
  refine ⟨by omega, by omega, by omega, by simp; omega, ?_⟩
  rw [g, drop_cons hi, pcs_cut _ _ _ _ h34 hc]
  simp
theorem relP_plain (h : RelP c L i f q out) (hi : i < L.length) (h34 : ¬ (L[i].toNat : Int) = 34) (h92 : ¬ (q = true ∧ (L[i].toNat : Int) = 92)) (hc : ¬ (q = false ∧ (L[i].toNat : Int) = c)) : RelP c L (i + 1) f q out := by
  obtain ⟨a, b, d, e, g⟩ := h
  refine ⟨by omega, b, by omega, e, ?_⟩
  rw [g, drop_cons hi, pcs_plain _ _ _ _ _ h34 h92 hc, seg_snoc a hi]
theorem relP_done (h : RelP c L i f q out) (hi : L.length ≤ i) : pieces c L = out ++ [L.drop f] := by
  obtain ⟨a, b, d, e, g⟩ := h
  rw [g, List.drop_of_length_le hi, pcs, List.take_of_length_le (by rw [List.length_drop]; omega)]
theorem seg_len (L : List UInt8) (i f : Nat) : ((L.drop f).take (i - f)).length ≤ L.length := by
  rw [List.length_take, List.length_drop]; omega
end
theorem pcs_len (c : Int) : ∀ (n : Nat) (q : Bool) (cur L : List UInt8), L.length ≤ n → (pcs c q cur L).length ≤ L.length + 1 := by
  intro n
  induction n with
  | zero =>
    intro q cur L h
    obtain rfl : L = [] := List.eq_nil_of_length_eq_zero (by omega)
    simp [pcs]
  | succ n ih =>
    intro q cur L h
    match L, h with
    | [], _ => simp [pcs]
    | [x], _ =>
      rw [pcs]
      split
      · simp
      · split
        · simp
        · split <;> simp
    | x :: y :: r, h =>
      have h1 : (y :: r).length ≤ n := by simp at h ⊢; omega
      have h2 : r.length ≤ n := by simp at h; omega
      rw [pcs]
      split
      · have := ih (!q) (cur ++ [x]) (y :: r) h1; simp at this ⊢; omega
      · split
        · have := ih q (cur ++ [x, y]) r h2; simp at this ⊢; omega
        · split
          · have := ih q [] (y :: r) h1; simp at this ⊢; omega
          · have := ih q (cur ++ [x]) (y :: r) h1; simp at this ⊢; omega
theorem pieces_len (c : Int) (L : List UInt8) : (pieces c L).length ≤ L.length + 1 := pcs_len c L.length false [] L (Nat.le_refl _)
theorem pcs_mem (c : Int) : ∀ (n : Nat) (q : Bool) (cur L : List UInt8), L.length ≤ n → ∀ p ∈ pcs c q cur L, p.length ≤ cur.length + L.length := by
  intro n
  induction n with
  | zero =>
    intro q cur L h p hp
    obtain rfl : L = [] := List.eq_nil_of_length_eq_zero (by omega)
    simp [pcs] at hp; subst hp; simp
  | succ n ih =>
    intro q cur L h p
    match L, h with
    | [], _ => simp [pcs]; rintro rfl; exact Nat.le_refl _
    | [x], _ =>
      rw [pcs]
      split
      · simp; rintro rfl; simp
      · split
        · simp; rintro rfl; simp
        · split
          · simp; rintro (rfl | rfl) <;> simp
          · simp; rintro rfl; simp
    | x :: y :: r, h =>
      have h1 : (y :: r).length ≤ n := by simp at h ⊢; omega
      have h2 : r.length ≤ n := by simp at h; omega
      rw [pcs]
      split
      · intro hp; have := ih (!q) (cur ++ [x]) (y :: r) h1 p hp; simp at this ⊢; omega
      · split
        · intro hp; have := ih q (cur ++ [x, y]) r h2 p hp; simp at this ⊢; omega
        · split
          · intro hp
            rcases List.mem_cons.1 hp with rfl | hp
            · simp
            · have := ih q [] (y :: r) h1 p hp; simp at this ⊢; omega
          · intro hp; have := ih q (cur ++ [x]) (y :: r) h1 p hp; simp at this ⊢; omega
theorem pieces_mem (c : Int) (L p : List UInt8) (h : p ∈ pieces c L) : p.length ≤ L.length := by
  have := pcs_mem c L.length false [] L (Nat.le_refl _) p h; simpa using this
end Go.Proofs.YtipcmbonhkelbabGreatDoor
namespace Go.Proofs.YtipcmbonhkelbabGreatDoor
open Go.RowKit
/-- a text as the cell that holds it -/
def S (l : List UInt8) : Value := .string ⟨l.toArray⟩
theorem Tryz.info9 : (Tryz.prog.info? 9).map (fun i => (i.zero, i.size, i.bytes)) = some (some (.string ⟨#[]⟩), 1, 16) := by kernel_rfl
/-- v holds just the texts ss, in a row of the call's own; what lay below is as it was -/
def OwnS (w0 : World) (v : Value) (ss : List (List UInt8)) (w : World) : Prop := w.ownsRow w0.heap.size 9 1 v ss.length (ss.map S) ∧ Below w0.heap.size w0 w
theorem ownS_nil (w0 w : World) (h : Below w0.heap.size w0 w) : OwnS w0 (.slice none 0 0) [] w := ⟨World.ownsRow_nil _ _ _ _, h⟩
theorem ownS_empty (w0 : World) : OwnS w0 (.slice (some ⟨w0.heap.size, 0, none⟩) 0 0) [] (w0.alloc (.cells #[] 9)) :=
  ⟨World.ownsRow_lit w0 #[] 0 (Nat.le_refl _) (by decide) rfl, (Below.refl _ _).alloc (Nat.le_refl _) _⟩
theorem ownS_mono {w0 w w' : World} {v : Value} {ss : List (List UInt8)} (h : OwnS w0 v ss w) (hb : Below w.heap.size w w') : OwnS w0 v ss w' := by
  have hz := h.2.size
  refine ⟨?_, h.2.trans (hb.mono hz)⟩
  obtain ⟨hl, h1 | ⟨g, cap, cur, rfl, hg, hh, hr⟩⟩ := h.1
  · exact ⟨hl, .inl h1⟩
  · have hlt : g < w.heap.size := by
      rcases Nat.lt_or_ge g w.heap.size with h | h
      · exact h
      · rw [Array.getElem?_eq_none (by omega)] at hh; cases hh
    exact ⟨hl, .inr ⟨g, cap, cur, rfl, hg, by rw [hb.block g hlt]; exact hh, hr⟩⟩
theorem appS {ops : Array Oper} {rest : List Oper} {o : Oper} {a : Act} {Q : Exit → Act → World → Prop} {wr : World} {t : ByteArray} (hgd : o.guard = none) (s x : Operand)
    (ho : o.op = .call { callee := .builtin .append, args := #[s, x], argTypes := #[55, 55] }) (w0 : World) (v : Value) (ss : List (List UInt8)) (hs : a.eval s = v) (hown : OwnS w0 v ss wr)
    (l : List UInt8) (ht : t = ⟨l.toArray⟩) (hx : a.eval x = .slice (some ⟨wr.heap.size, 0, none⟩) 1 1) (hlen : (ss.length + 1) * 16 ≤ 140737488355328)
    (h : ∀ v' w', OwnS w0 v' (ss ++ [l]) w' → wpList Tryz.prog ops Q rest (a.put o.dst v') w') : wpList Tryz.prog ops Q (o :: rest) a (wr.alloc (.cells #[.string t] 9)) := by
  subst ht
  obtain ⟨i0, hi, hz0, hz1, hz2⟩ := info_parts Tryz.info9
  have hsz := hown.2.size
  refine wpList_append_own _ hgd s x 55 ho w0.heap.size 9 i0 (.string ⟨#[]⟩) 1 16 Tryz.underlying55 hi hz0 hz1 hz2 rfl (by decide) v ss.length (ss.map S) hs (hown.1.alloc _) ⟨wr.heap.size, 0, none⟩ 1 1 [S l] hx rfl ?_ ?_ ?_ ?_ ?_ ?_
  · intro j u hj
    match j, hj with
    | 0, hj => simp at hj; subst hj; simp [Addr.add, S]
  · intro u hu; simp at hu; subst hu; rfl
  · unfold maxLen; omega
  · omega
  · simp; omega
  · intro v' w' h1 h2 _
    refine h v' w' ⟨by simpa using h1, ?_⟩
    refine Below.grown (hown.2.alloc (by omega) _) h2 (by simp; omega) ?_
    intro k hk
    exact (hown.1.lt k hk).1
/-- v is a slice whose elements are the texts ss -/
def Holds (w : World) (v : Value) (ss : List (List UInt8)) : Prop :=
  ∃ ao cap, v = .slice ao ss.length cap ∧ (ss ≠ [] → ∃ b off, ao = some ⟨b, off, none⟩ ∧ b < w.heap.size ∧ ∀ j (h : j < ss.length), w.cell? ⟨b, off + j, none⟩ = some (S ss[j]))
theorem holds_own {w0 w : World} {v : Value} {ss : List (List UInt8)} (h : OwnS w0 v ss w) : Holds w v ss := by
  obtain ⟨hl, h1 | ⟨g, cap, cur, rfl, hg, hh, hr⟩⟩ := h.1
  · obtain ⟨rfl, hn⟩ := h1
    obtain rfl : ss = [] := List.eq_nil_of_length_eq_zero hn
    exact ⟨none, 0, rfl, fun h => absurd rfl h⟩
  · refine ⟨_, cap, rfl, fun _ => ⟨g, 0, rfl, (h.1.lt g rfl).2, fun j hj => ?_⟩⟩
    rw [Nat.zero_add, h.1.cellAt j (by omega)]
    simp [hj]
theorem holds_mono {w w' : World} {v : Value} {ss : List (List UInt8)} (h : Holds w v ss) (hb : Below w.heap.size w w') : Holds w' v ss := by
  obtain ⟨ao, cap, rfl, hc⟩ := h
  refine ⟨ao, cap, rfl, fun hne => ?_⟩
  obtain ⟨b, off, rfl, hlt, hcell⟩ := hc hne
  have := hb.size
  exact ⟨b, off, rfl, by omega, fun j hj => by rw [hb.cell (p := ⟨b, off + j, none⟩) hlt]; exact hcell j hj⟩
theorem holds_lit3 (w : World) (x y z : List UInt8) : Holds (w.alloc (.cells #[S x, S y, S z] 9)) (.slice (some ⟨w.heap.size, 0, none⟩) 3 3) [x, y, z] := by
  refine ⟨_, 3, rfl, fun _ => ⟨w.heap.size, 0, rfl, by simp, fun j hj => ?_⟩⟩
  match j, hj with
  | 0, _ => simp
  | 1, _ => simp
  | 2, _ => simp
theorem holds_lit1 (w : World) (x : List UInt8) : Holds (w.alloc (.cells #[S x] 9)) (.slice (some ⟨w.heap.size, 0, none⟩) 1 1) [x] := by
  refine ⟨_, 1, rfl, fun _ => ⟨w.heap.size, 0, rfl, by simp, fun j hj => ?_⟩⟩
  match j, hj with
  | 0, _ => simp
theorem ownS_base {w w1 w2 : World} {v : Value} {ss : List (List UInt8)} (h : OwnS w1 v ss w2) (hb : Below w.heap.size w w1) : OwnS w v ss w2 := by
  have hz := hb.size
  refine ⟨?_, hb.trans (h.2.mono hz)⟩
  obtain ⟨hl, h1 | ⟨g, cap, cur, hv, hg, hr⟩⟩ := h.1
  · exact ⟨hl, .inl h1⟩
  · exact ⟨hl, .inr ⟨g, cap, cur, hv, by omega, hr⟩⟩
theorem below_drawn {B : Nat} {a w : World} (h : Below B a w) (n : Nat) : Below B a (w.drewN n) := by
  induction n with
  | zero => exact h
  | succ n ih => exact ih.drew
theorem below_drewN (w : World) (n : Nat) : Below w.heap.size w (w.drewN n) := by
  induction n with
  | zero => exact Below.refl _ _
  | succ n ih => exact ih.drew
end Go.Proofs.YtipcmbonhkelbabGreatDoor
namespace Go.Proofs.YtipcmbonhkelbabGreatDoor
open Go.RowKit
theorem cloneC (s : ByteArray) (w : World) (hs : s.size ≤ 140737488351232) :
    Calls Tryz.prog 38 #[.string s] w fun e w' => e = .returned (.string s) ∧ Below w.heap.size w w' :=
  Any.stringslite_Clone Tryz.laysM316 s w (by omega)
set_option maxHeartbeats 400000 in
theorem clone (s : ByteArray) (w : World) (hs : s.size ≤ 140737488351232) :
    Calls Tryz.prog 17 #[.string s] w fun e w' => e = .returned (.string s) ∧ Below w.heap.size w w' := by
  go_enter Tryz.func17, Tryz.ntmps17
  go_wp2_with (go_at_call 38; refine (cloneC s _ hs).mono ?_; rintro e w' ⟨rfl, hb⟩)
  go_ret
  exact ⟨rfl, hb⟩
end Go.Proofs.YtipcmbonhkelbabGreatDoor
namespace Go.Proofs.YtipcmbonhkelbabGreatDoor
open Go.RowKit
def trimT (l : List UInt8) : List UInt8 := Lib.trimS l [32, 9]
def blankI (c : Int) : Bool := decide (c = 32 ∨ c = 9)
theorem blank_is (c : UInt8) : ([32, 9] : List UInt8).contains c = blankI (c.toNat : Int) := by
  have : ∀ n : Nat, n < 256 → ([32, 9] : List UInt8).contains (UInt8.ofNat n) = blankI ((UInt8.ofNat n).toNat : Int) := by decide +kernel
  have h := this c.toNat c.toNat_lt
  rwa [UInt8.ofNat_toNat] at h
theorem dropWhile_len (p : UInt8 → Bool) (l : List UInt8) : (l.dropWhile p).length ≤ l.length := (List.dropWhile_sublist p).length_le
theorem trimT_len (l : List UInt8) : (trimT l).length ≤ l.length := by
  unfold trimT Lib.trimS Lib.trimLeftS Lib.trimRightS
  have h1 := dropWhile_len (fun x => ([32, 9] : List UInt8).contains x) l.reverse
  have h2 := dropWhile_len (fun x => ([32, 9] : List UInt8).contains x) (List.dropWhile (fun x => ([32, 9] : List UInt8).contains x) l.reverse).reverse
  rw [List.length_reverse] at h1 h2
  exact Nat.le_trans h2 h1
def left (s : ByteArray) (f : Nat) : Prop := ∀ j (hj : j < s.size), j < f → blankI (s[j].toNat : Int) = true
def right (s : ByteArray) (t : Nat) : Prop := ∀ j (hj : j < s.size), t ≤ j → blankI (s[j].toNat : Int) = true
theorem get_list (s : ByteArray) (j : Nat) (b : UInt8) (h : s.data.toList[j]? = some b) : ∃ hj : j < s.size, s[j] = b := by
  obtain ⟨hj, e⟩ := List.getElem?_eq_some_iff.1 h
  exact ⟨by simpa using hj, e⟩
theorem trim_is (s : ByteArray) (f t : Nat) (hft : f ≤ t) (ht : t ≤ s.size) (hl : left s f) (hf : ∀ h : f < s.size, blankI (s[f].toNat : Int) = false) (hr : right s t) (hn : ∀ (_ : f < t) (h : t - 1 < s.size), blankI (s[t - 1].toNat : Int) = false) : trimT s.data.toList = (s.data.toList.drop f).take (t - f) := by
  have hlen : s.data.toList.length = s.size := by simp
  unfold trimT Lib.trimS
  by_cases e : f = s.size
  · have h0 : Lib.trimRightS s.data.toList [32, 9] = s.data.toList.take 0 := by
      refine Lib.trimRightS_take _ _ 0 (Nat.zero_le _) (fun j b _ hb => ?_) (fun b h _ => absurd h (Nat.lt_irrefl _))
      obtain ⟨hj, rfl⟩ := get_list s j b hb
      rw [blank_is]; exact hl j hj (by omega)
    rw [h0, List.take_zero, Lib.trimLeftS_nil, List.drop_of_length_le (by omega), List.take_nil]
  · have hlt : f < s.size := by omega
    have hne : f < t := by
      rcases Nat.lt_or_ge f t with h | h
      · exact h
      · have := hr f hlt h; rw [hf hlt] at this; exact absurd this (by decide)
    have h0 : Lib.trimRightS s.data.toList [32, 9] = s.data.toList.take t := by
      refine Lib.trimRightS_take _ _ t (by omega) (fun j b hj hb => ?_) (fun b _ hb => ?_)
      · obtain ⟨hj', rfl⟩ := get_list s j b hb
        rw [blank_is]; exact hr j hj' hj
      · obtain ⟨hj', rfl⟩ := get_list s _ b hb
        rw [blank_is]; exact hn hne hj'
    have h1 : Lib.trimLeftS (s.data.toList.take t) [32, 9] = (s.data.toList.take t).drop f := by
      refine Lib.trimLeftS_drop _ _ f (by rw [List.length_take]; omega) (fun j b hj hb => ?_) (fun b hb => ?_)
      · rw [List.getElem?_take_of_lt (by omega)] at hb
        obtain ⟨hj', rfl⟩ := get_list s j b hb
        rw [blank_is]; exact hl j hj' hj
      · rw [List.getElem?_take_of_lt hne] at hb
        obtain ⟨hj', rfl⟩ := get_list s f b hb
        rw [blank_is]; exact hf hlt
    rw [h0, h1, List.drop_take]
theorem trimC (s : ByteArray) (w : World) (hs : s.size ≤ 140737488351232) :
    Calls Tryz.prog 110 #[.string s, .string ⟨#[32, 9]⟩] w fun e w' => e = .returned (.string ⟨(trimT s.data.toList).toArray⟩) ∧ Below w.heap.size w w' :=
  Any.strings_Trim_laid Tryz.lays160 (by kernel_rfl) s ⟨#[32, 9]⟩ w (by omega) (by decide) (ascii_of_all (by decide))
set_option maxHeartbeats 400000 in
theorem trimmed (s : ByteArray) (w : World) (hs : s.size ≤ 140737488351232) :
    Calls Tryz.prog 94 #[.string s] w fun e w' => e = .returned (.string ⟨(trimT s.data.toList).toArray⟩) ∧ Below w.heap.size w w' := by
  have hc := trimC s w hs
  generalize (⟨(trimT s.data.toList).toArray⟩ : ByteArray) = r at hc ⊢
  go_enter Tryz.func94, Tryz.ntmps94
  go_wp2_with (go_at_call 110; refine hc.mono ?_; rintro e w' ⟨rfl, hb⟩)
  go_ret
  exact ⟨rfl, hb⟩
end Go.Proofs.YtipcmbonhkelbabGreatDoor
namespace Go.Proofs.YtipcmbonhkelbabGreatDoor
open Go.RowKit
set_option maxRecDepth 20000
theorem size_trimT (s : ByteArray) : (⟨(trimT s.data.toList).toArray⟩ : ByteArray).size ≤ s.size := by
  have := trimT_len s.data.toList
  have e : s.data.toList.length = s.size := by simp
  rw [e] at this
  show (trimT s.data.toList).toArray.size ≤ s.size
  rw [List.size_toArray]
  exact this
theorem cut_is (s : ByteArray) (f t : Nat) (hft : f ≤ t) (ht : t ≤ s.size) (w : World) :
    Sem.run Tryz.prog (Instr.slice 9 (.string s) (some (.int .i64 f)) (some (.int .i64 t)) none) w = .ok (.string ⟨((s.data.toList.drop f).take (t - f)).toArray⟩) w := by
  rw [run_slice_string (h := Tryz.underlying9)]
  · congr 2
    have : (s.extract f t).data.toList = (s.data.toList.drop f).take (t - f) := by simp [ByteArray.data_extract, List.extract_eq_take_drop]
    simp only [Int.toNat_natCast]
    rw [← this]
  · omega
  · omega
  · omega
set_option maxHeartbeats 1000000 in
theorem trimRef (s : ByteArray) (w : World) (hs : s.size ≤ 140737488351232) :
    Calls Tryz.prog 68 #[.string s] w fun e w' => e = .returned (.string ⟨(trimT s.data.toList).toArray⟩) ∧ w' = w := by
  go_enter Tryz.func68, Tryz.ntmps68
  go_wp2
  go_loop [3] (fun i => ∃ k : Nat, k ≤ s.size ∧ i = .int .i64 k ∧ Hid (left s k)) (fun i => s.size - (intOf i).toNat)
  case atStart => exact ⟨0, by omega, rfl, fun j _ hj => by omega⟩
  case round =>
    obtain ⟨k, hk, rfl, hl⟩ := hrel
    by_cases hc : ∃ h : k < s.size, blankI (s[k].toNat : Int) = true
    · obtain ⟨hlt, hb⟩ := hc
      have N : Hid (left s (k + 1)) := fun j hj hjk => by
        by_cases e : j = k
        · subst e; exact hb
        · exact hl.out j hj (by omega)
      rcases (of_decide_eq_true hb : (s[k].toNat : Int) = 32 ∨ (s[k].toNat : Int) = 9) with h | h
      · have b1 : ((s[k].toNat : Int) == 32) = true := by simp [h]
        clear h hb
        go_wp2
        go_round
        case rel => exact ⟨k + 1, by omega, by go_num, N⟩
        case measure => simp [intOf]; omega
      · have b1 : ((s[k].toNat : Int) == 32) = false := by simp [h]
        have b2 : ((s[k].toNat : Int) == 9) = true := by simp [h]
        clear h hb
        go_wp2
        go_round
        case rel => exact ⟨k + 1, by omega, by go_num, N⟩
        case measure => simp [intOf]; omega
    · have hf : Hid (∀ h : k < s.size, blankI (s[k].toNat : Int) = false) := fun h => by
        cases e : blankI (s[k].toNat : Int) with
        | false => rfl
        | true => exact absurd ⟨h, e⟩ hc
      clear hc
      by_cases hlt : k < s.size
      · have hb := hf.out hlt
        have b1 : ((s[k].toNat : Int) == 32) = false := by unfold blankI at hb; simp at hb; simp; omega
        have b2 : ((s[k].toNat : Int) == 9) = false := by unfold blankI at hb; simp at hb; simp; omega
        clear hb
        go_wp2
        clear b1 b2
        go_loop [4] (fun i => ∃ t : Nat, k ≤ t ∧ t ≤ s.size ∧ i = .int .i64 t ∧ Hid (right s t)) (fun i => (intOf i).toNat)
        case atStart => exact ⟨s.size, by omega, by omega, rfl, fun j hj h => by omega⟩
        case round =>
          obtain ⟨t, hkt, hts, rfl, hr⟩ := hrel
          by_cases hc : ∃ h : k < t, blankI (s[t - 1].toNat : Int) = true
          · obtain ⟨h, hb⟩ := hc
            have N : Hid (right s (t - 1)) := fun j hj hjk => by
              by_cases e : j = t - 1
              · subst e; exact hb
              · exact hr.out j hj (by omega)
            rcases (of_decide_eq_true hb : (s[t - 1].toNat : Int) = 32 ∨ (s[t - 1].toNat : Int) = 9) with h2 | h2
            · have b1 : ((s[t - 1].toNat : Int) == 32) = true := by simp [h2]
              clear h2 hb
              go_wp2
              go_round
              case rel => exact ⟨t - 1, by omega, by omega, by go_num, N⟩
              case measure => simp [intOf]; omega
            · have b1 : ((s[t - 1].toNat : Int) == 32) = false := by simp [h2]
              have b2 : ((s[t - 1].toNat : Int) == 9) = true := by simp [h2]
              clear h2 hb
              go_wp2
              go_round
              case rel => exact ⟨t - 1, by omega, by omega, by go_num, N⟩
              case measure => simp [intOf]; omega
          · have hn : Hid (∀ (_ : k < t) (h : t - 1 < s.size), blankI (s[t - 1].toNat : Int) = false) := fun h h' => by
              cases e : blankI (s[t - 1].toNat : Int) with
              | false => rfl
              | true => exact absurd ⟨h, e⟩ hc
            clear hc
            have F : Hid (trimT s.data.toList = (s.data.toList.drop k).take (t - k)) := trim_is s k t hkt hts hl.out hf.out hr.out hn.out
            have hcut := cut_is s k t hkt hts w
            by_cases hkt2 : k < t
            · have hb := hn.out hkt2 (by omega)
              have b1 : ((s[t - 1].toNat : Int) == 32) = false := by unfold blankI at hb; simp at hb; simp; omega
              have b2 : ((s[t - 1].toNat : Int) == 9) = false := by unfold blankI at hb; simp at hb; simp; omega
              clear hb
              go_wp2
              go_ret
              rw [F.out]
              exact ⟨rfl, rfl⟩
            · go_wp2
              go_ret
              rw [F.out]
              exact ⟨rfl, rfl⟩
      · go_wp2
        go_loop [4] (fun i => i = .int .i64 s.size) (fun i => (intOf i).toNat)
        case atStart => rfl
        case round =>
          obtain rfl := hrel
          have F : Hid (trimT s.data.toList = (s.data.toList.drop k).take (s.size - k)) := trim_is s k s.size hk (Nat.le_refl _) hl.out hf.out (fun j hj h => by omega) (fun h h' => by omega)
          have hcut := cut_is s k s.size hk (Nat.le_refl _) w
          go_wp2
          go_ret
          rw [F.out]
          exact ⟨rfl, rfl⟩
end Go.Proofs.YtipcmbonhkelbabGreatDoor
namespace Go.Proofs.YtipcmbonhkelbabGreatDoor
open Go.RowKit
end Go.Proofs.YtipcmbonhkelbabGreatDoor
namespace Go.Proofs.YtipcmbonhkelbabGreatDoor
open Go.RowKit
def low (c : UInt8) : UInt8 := if 65 ≤ (c.toNat : Int) ∧ (c.toNat : Int) ≤ 90 then c + 32 else c
def lows (l : List UInt8) : List UInt8 := l.map low
theorem low_up (c : UInt8) (h1 : 65 ≤ (c.toNat : Int)) (h2 : (c.toNat : Int) ≤ 90) : ((low c).toNat : Int) = (c.toNat : Int) + 32 := by
  unfold low; rw [if_pos ⟨h1, h2⟩, UInt8.toNat_add]
  have : (32 : UInt8).toNat = 32 := rfl
  rw [this]; omega
theorem low_same (c : UInt8) (h : ¬ (65 ≤ (c.toNat : Int) ∧ (c.toNat : Int) ≤ 90)) : low c = c := by unfold low; rw [if_neg h]
theorem lows_snoc (l : List UInt8) (c : UInt8) : lows (l ++ [c]) = lows l ++ [low c] := by simp [lows]
theorem lows_len (l : List UInt8) : (lows l).length = l.length := by simp [lows]
set_option maxHeartbeats 1000000 in
theorem lowerRef (s : ByteArray) (w : World) (hs : s.size ≤ 140737488351232) :
    Calls Tryz.prog 47 #[.string s] w fun e w' => e = .returned (.string ⟨(lows s.data.toList).toArray⟩) ∧ Below w.heap.size w w' := by
  go_enter Tryz.func47, Tryz.ntmps47
  go_wp2
  go_loopw [3, 4] (fun v i wr => ∃ k : Nat, k ≤ s.size ∧ i = .int .i64 k ∧ Own w v (lows (s.data.toList.take k)) wr) (fun _ i _ => s.size - (intOf i).toNat)
  case atStart => exact ⟨0, Nat.zero_le _, rfl, own_empty w⟩
  case round =>
    obtain ⟨k, hk, rfl, hown⟩ := hrel
    by_cases hlt : k < s.size
    · have hb := byte_lt s[k]
      have hl2 : (lows (s.data.toList.take k)).length ≤ k := by rw [lows_len]; exact List.length_take_le _ _
      have R : Hid (lows (s.data.toList.take (k + 1)) = lows (s.data.toList.take k) ++ [low s[k]]) := by unfold Hid; rw [take_snoc s k hlt, lows_snoc]
      by_cases hu : 65 ≤ (s[k].toNat : Int) ∧ (s[k].toNat : Int) ≤ 90
      · obtain ⟨u1, u2⟩ := hu
        have L : Hid (((low s[k]).toNat : Int) = (s[k].toNat : Int) + 32) := low_up _ u1 u2
        go_wp2_with (at_builtin; refine app1 rfl (.tmp 24) (.tmp 26) rfl w _ _ rfl hown (low s[k]) (by rw [L.out]) rfl (by omega) ?_; intro v2 w2 hown2)
        go_roundw
        case rel => exact ⟨k + 1, by omega, by go_num, by rw [R.out]; exact hown2⟩
        case measure => simp [intOf]; omega
      · have L : Hid (low s[k] = s[k]) := low_same _ hu
        rcases (by omega : (s[k].toNat : Int) < 65 ∨ 90 < (s[k].toNat : Int)) with h | h
        all_goals
          clear hu
          go_wp2_with (at_builtin; refine app1 rfl (.tmp 24) (.tmp 26) rfl w _ _ rfl hown (low s[k]) (by rw [L.out]) rfl (by omega) ?_; intro v2 w2 hown2)
          go_roundw
          case rel => exact ⟨k + 1, by omega, by go_num, by rw [R.out]; exact hown2⟩
          case measure => simp [intOf]; omega
    · have R : Hid (s.data.toList.take k = s.data.toList) := take_all s k (by omega)
      have hcv := own_conv hown
      go_wp2
      go_ret
      rw [R.out]
      exact ⟨rfl, hown.2⟩
/-- byte j behind k rounds of Fold -/
def mixed (s : ByteArray) (k j : Nat) : UInt8 := if h : j < s.size then (if j < k then low s[j] else s[j]) else 0
theorem conv_bytes (s : ByteArray) (w : World) : ∃ (cap : Nat) (w1 : World), Sem.run Tryz.prog (convert 9 25 (.string s)) w = .ok (.slice (some ⟨w.heap.size, 0, none⟩) s.size cap) w1 ∧
    (∀ j, j < s.size → w1.cell? ⟨w.heap.size, j, none⟩ = some (.int .u8 ((mixed s 0 j).toNat : Int))) ∧ (∀ j, j < s.size → w1.frozen? ⟨w.heap.size, j, none⟩ = false) ∧ Below w.heap.size w w1 ∧ w.heap.size < w1.heap.size := by
  refine ⟨_, _, run_bytes_of_string w 9 25 5 s Tryz.underlying9 Tryz.underlying25 Tryz.underlying5, ?_, ?_, ?_, ?_⟩
  · intro j hj
    have := cell_of_row (w.drew.alloc (.cells (bytesRow s (grownCap w s.size 0 5)) 5 ((bytesRow s (grownCap w s.size 0 5)).size, (bytesRow s (grownCap w s.size 0 5)).size + 1))) w.heap.size j _ 5 _ (heap_alloc_new w.drew _)
    rw [this, bytesRow_at s _ j hj]
    unfold mixed
    rw [dif_pos hj, if_neg (by omega)]
    rfl
  · intro j hj
    have hsz : s.size ≤ (bytesRow s (grownCap w s.size 0 5)).size := by unfold bytesRow; rw [Array.size_append, Array.size_map]; exact Nat.le_add_right _ _
    unfold World.frozen?
    rw [show (w.drew.alloc (.cells (bytesRow s (grownCap w s.size 0 5)) 5 ((bytesRow s (grownCap w s.size 0 5)).size, (bytesRow s (grownCap w s.size 0 5)).size + 1))).heap[w.heap.size]? = _ from heap_alloc_new w.drew _]
    simp
    omega
  · exact ((Below.refl _ _).drew).alloc (Nat.le_refl _) _
  · simp
theorem conv_back (w : World) (g cap : Nat) (l : List UInt8) (h : ∀ j (hj : j < l.length), w.cell? ⟨g, j, none⟩ = some (.int .u8 (l[j].toNat : Int))) :
    Sem.run Tryz.prog (convert 25 9 (.slice (some ⟨g, 0, none⟩) l.length cap)) w = .ok (.string ⟨l.toArray⟩) w := by
  rw [run_convert_bytes_back w 25 9 5 ⟨g, 0, none⟩ cap l Tryz.underlying25 Tryz.underlying5 Tryz.underlying9 (fun j hj => by rw [show (⟨g, 0, none⟩ : Addr).add j = ⟨g, j, none⟩ from by simp [Addr.add]; intro e; exact e.symm]; exact h j hj)]
theorem mixed_now (s : ByteArray) (k : Nat) (h : k < s.size) : mixed s k k = s[k] := by unfold mixed; rw [dif_pos h, if_neg (by omega)]
theorem mixed_same (s : ByteArray) (k j : Nat) (h : j ≠ k) : mixed s (k + 1) j = mixed s k j := by
  unfold mixed
  by_cases hj : j < s.size
  · rw [dif_pos hj, dif_pos hj]
    by_cases hk : j < k
    · rw [if_pos hk, if_pos (by omega)]
    · rw [if_neg hk, if_neg (by omega)]
  · rw [dif_neg hj, dif_neg hj]
theorem mixed_next (s : ByteArray) (k : Nat) (h : k < s.size) : mixed s (k + 1) k = low s[k] := by unfold mixed; rw [dif_pos h, if_pos (by omega)]
theorem mixed_end (s : ByteArray) (j : Nat) (h : j < s.size) (k : Nat) (hk : s.size ≤ k) : mixed s k j = low s[j] := by unfold mixed; rw [dif_pos h, if_pos (by omega)]
/-- what holds of the row behind k rounds -/
def Mix (s : ByteArray) (w0 : World) (k : Nat) (w : World) : Prop :=
  (∀ j, j < s.size → w.cell? ⟨w0.heap.size, j, none⟩ = some (.int .u8 ((mixed s k j).toNat : Int))) ∧ (∀ j, j < s.size → w.frozen? ⟨w0.heap.size, j, none⟩ = false) ∧ Below w0.heap.size w0 w ∧ w0.heap.size < w.heap.size
theorem mix_store {s : ByteArray} {w0 w : World} {k : Nat} (h : Mix s w0 k w) (hk : k < s.size) (n : Int) (hn : n = ((low s[k]).toNat : Int)) : Mix s w0 (k + 1) (w.setCell ⟨w0.heap.size, k, none⟩ (.int .u8 n)) := by
  obtain ⟨a, b, c, d⟩ := h
  refine ⟨fun j hj => ?_, fun j hj => ?_, c.setCell (Nat.le_refl _) _, by simpa [World.setCell] using d⟩
  · by_cases e : j = k
    · subst e
      rw [World.cell?_setCell_same _ _ _ (a j hj), mixed_next s j hj, hn]
    · rw [World.cell?_setCell_other _ _ _ _ (fun x => e (by simpa using x.symm)), a j hj, mixed_same s k j e]
  · rw [World.frozen?_setCell]; exact b j hj
theorem mix_keep {s : ByteArray} {w0 w : World} {k : Nat} (h : Mix s w0 k w) (hk : k < s.size) (hl : low s[k] = s[k]) : Mix s w0 (k + 1) w := by
  obtain ⟨a, b, c, d⟩ := h
  refine ⟨fun j hj => ?_, b, c, d⟩
  by_cases e : j = k
  · subst e; rw [a j hj, mixed_next s j hj, hl, mixed_now s j hj]
  · rw [a j hj, mixed_same s k j e]
set_option maxHeartbeats 1000000 in
theorem foldTok (s : ByteArray) (w : World) (hs : s.size ≤ 140737488351232) :
    Calls Tryz.prog 39 #[.string s] w fun e w' => e = .returned (.string ⟨(lows s.data.toList).toArray⟩) ∧ Below w.heap.size w w' := by
  obtain ⟨cap, w1, hrun, hm⟩ := conv_bytes s w
  have M : Hid (Mix s w 0 w1) := hm
  clear hm
  go_enter Tryz.func39, Tryz.ntmps39
  go_wp2
  clear hrun
  go_loopw [10] (fun i wr => ∃ k : Nat, k ≤ s.size ∧ i = .int .i64 k ∧ Hid (Mix s w k wr)) (fun i _ => s.size - (intOf i).toNat)
  case atStart => exact ⟨0, Nat.zero_le _, rfl, M⟩
  case round =>
    clear M
    obtain ⟨k, hk, rfl, M⟩ := hrel
    by_cases hlt : k < s.size
    · have hb := byte_lt s[k]
      have ck : wr.cell? ⟨w.heap.size, k, none⟩ = some (.int .u8 (s[k].toNat : Int)) := by rw [M.out.1 k hlt, mixed_now s k hlt]
      have fk : wr.frozen? ⟨w.heap.size, k, none⟩ = false := M.out.2.1 k hlt
      by_cases hu : 65 ≤ (s[k].toNat : Int) ∧ (s[k].toNat : Int) ≤ 90
      · obtain ⟨u1, u2⟩ := hu
        have L : Hid (((low s[k]).toNat : Int) = (s[k].toNat : Int) + 32) := low_up _ u1 u2
        go_wp2
        go_roundw
        case rel => exact ⟨k + 1, by omega, by go_num, mix_store M.out hlt _ (by rw [L.out]; omega)⟩
        case measure => simp [intOf]; omega
      · have L : Hid (low s[k] = s[k]) := low_same _ hu
        rcases (by omega : (s[k].toNat : Int) < 65 ∨ 90 < (s[k].toNat : Int)) with h | h
        all_goals
          clear hu
          go_wp2
          go_roundw
          case rel => exact ⟨k + 1, by omega, by go_num, mix_keep M.out hlt L.out⟩
          case measure => simp [intOf]; omega
    · have hcv := conv_back wr w.heap.size cap (lows s.data.toList) (fun j hj => by
        rw [lows_len] at hj
        have hj' : j < s.size := by simpa using hj
        rw [M.out.1 j hj', mixed_end s j hj' k (by omega)]
        simp [lows]
        rfl)
      rw [show (lows s.data.toList).length = s.size by rw [lows_len]; simp] at hcv
      go_wp2
      go_ret
      exact ⟨rfl, M.out.2.2.1⟩
end Go.Proofs.YtipcmbonhkelbabGreatDoor
namespace Go.Proofs.YtipcmbonhkelbabGreatDoor
open Go.RowKit
theorem row_poke {W : World} {base k n b o : Nat} {t : TypeId} {v x : Value} {cs : List Value} (h : W.ownsRow base t k v n cs) (hb : b < base) : (W.setCell ⟨b, o, none⟩ x).ownsRow base t k v n cs := by
  obtain ⟨hl, h1 | ⟨g, cap, cur, hv, hg, hh, hr⟩⟩ := h
  · exact ⟨hl, .inl h1⟩
  · exact ⟨hl, .inr ⟨g, cap, cur, hv, hg, by rw [heap_setCell_other _ _ _ _ (by show g ≠ b; omega)]; exact hh, hr⟩⟩
theorem row_below {W W' : World} {base k n : Nat} {t : TypeId} {v : Value} {cs : List Value} (h : W.ownsRow base t k v n cs) (hb : Below W.heap.size W W') : W'.ownsRow base t k v n cs := by
  obtain ⟨hl, h1 | ⟨g, cap, cur, hv, hg, hh, hr⟩⟩ := h
  · exact ⟨hl, .inl h1⟩
  · have hlt : g < W.heap.size := by
      rcases Nat.lt_or_ge g W.heap.size with h | h
      · exact h
      · rw [Array.getElem?_eq_none (by omega)] at hh; cases hh
    exact ⟨hl, .inr ⟨g, cap, cur, hv, hg, by rw [hb.block g hlt]; exact hh, hr⟩⟩
theorem row_base {W : World} {base base' k n : Nat} {t : TypeId} {v : Value} {cs : List Value} (h : W.ownsRow base t k v n cs) (hb : base' ≤ base) : W.ownsRow base' t k v n cs := by
  obtain ⟨hl, h1 | ⟨g, cap, cur, hv, hg, hh, hr⟩⟩ := h
  · exact ⟨hl, .inl h1⟩
  · exact ⟨hl, .inr ⟨g, cap, cur, hv, by omega, hh, hr⟩⟩
end Go.Proofs.YtipcmbonhkelbabGreatDoor
namespace Go.Proofs.YtipcmbonhkelbabGreatDoor
open Go.RowKit
/-- block b's first cells hold vs, and may be written -/
def Blk (b : Nat) (W : World) (vs : List Value) : Prop := (∀ j (h : j < vs.length), W.cell? ⟨b, j, none⟩ = some vs[j] ∧ W.frozen? ⟨b, j, none⟩ = false) ∧ b < W.heap.size
theorem cells_below {b : Nat} {W W' : World} {vs : List Value} (h : Blk b W vs) (hb : Below W.heap.size W W') : Blk b W' vs :=
  ⟨fun j hj => ⟨by rw [hb.cell (p := ⟨b, j, none⟩) h.2]; exact (h.1 j hj).1, by rw [hb.frozen (p := ⟨b, j, none⟩) h.2]; exact (h.1 j hj).2⟩, Nat.lt_of_lt_of_le h.2 hb.size⟩
theorem cells_base {b base : Nat} {W W' : World} {vs : List Value} (h : Blk b W vs) (hb : Below base W W') (hlt : b < base) : Blk b W' vs :=
  ⟨fun j hj => ⟨by rw [hb.cell (p := ⟨b, j, none⟩) hlt]; exact (h.1 j hj).1, by rw [hb.frozen (p := ⟨b, j, none⟩) hlt]; exact (h.1 j hj).2⟩, Nat.lt_of_lt_of_le h.2 hb.size⟩
theorem cells_lit (w : World) (cs : Array Value) (t : TypeId) : Blk w.heap.size (w.alloc (.cells cs t)) cs.toList := by
  refine ⟨fun j hj => ⟨?_, ?_⟩, by simp⟩
  · unfold World.cell?
    rw [heap_alloc_new]
    have hj' : j < cs.size := by simpa using hj
    simp [hj']
  · unfold World.frozen?
    rw [heap_alloc_new]
    simp
/-- one cell written -/
theorem cells_set {b j : Nat} {W : World} {vs : List Value} (h : Blk b W vs) (hj : j < vs.length) (x : Value) : Blk b (W.setCell ⟨b, j, none⟩ x) (vs.set j x) := by
  refine ⟨fun i hi => ⟨?_, by simpa using (h.1 i (by simpa using hi)).2⟩, by simpa using h.2⟩
  rw [List.length_set] at hi
  by_cases e : i = j
  · subst e
    rw [World.cell?_setCell_same _ _ _ (h.1 i hj).1, List.getElem_set_self]
  · rw [World.cell?_setCell_other _ _ _ _ (by first | (simp; omega) | simp), (h.1 i hi).1, List.getElem_set_ne (by omega)]
/-- a cell of another block written -/
theorem cells_other {b c o : Nat} {W : World} {vs : List Value} (h : Blk b W vs) (hne : b ≠ c) (x : Value) : Blk b (W.setCell ⟨c, o, none⟩ x) vs := by
  refine ⟨fun i hi => ⟨?_, by simpa using (h.1 i hi).2⟩, by simpa using h.2⟩
  have e : (W.setCell ⟨c, o, none⟩ x).cell? ⟨b, i, none⟩ = W.cell? ⟨b, i, none⟩ := by simp [World.cell?, heap_setCell_other W ⟨c, o, none⟩ b x hne]
  rw [e]
  exact (h.1 i hi).1
/-- many cells written, one behind the other -/
def putFrom (b : Nat) : Nat → World → List Value → World
  | _, W, [] => W
  | o, W, v :: r => putFrom b (o + 1) (W.setCell ⟨b, o, none⟩ v) r
theorem cells_putFrom {b : Nat} : ∀ (vs : List Value) (o : Nat) (W : World) (us : List Value), Blk b W us → o + vs.length ≤ us.length → Blk b (putFrom b o W vs) (us.take o ++ vs ++ us.drop (o + vs.length)) := by
  intro vs
  induction vs with
  | nil =>
    intro o W us h hl
    simp only [putFrom, List.append_nil, List.length_nil, Nat.add_zero]
    rw [List.take_append_drop]
    exact h
  | cons v r ih =>
    intro o W us h hl
    rw [List.length_cons] at hl
    have h1 := ih (o + 1) _ _ (cells_set h (show o < us.length by omega) v) (by rw [List.length_set]; omega)
    have e1 : (us.set o v).take (o + 1) = us.take o ++ [v] := by
      rw [List.take_succ_eq_append_getElem (by rw [List.length_set]; omega), List.getElem_set_self, List.take_set_of_le (Nat.le_refl _)]
    have e2 : (us.set o v).drop (o + 1 + r.length) = us.drop (o + (v :: r).length) := by
      rw [List.drop_set_of_lt (by omega), List.length_cons]
      congr 1
      omega
    rw [e1, e2] at h1
    show Blk b (putFrom b (o + 1) (W.setCell ⟨b, o, none⟩ v) r) _
    have e3 : us.take o ++ v :: r ++ us.drop (o + (v :: r).length) = us.take o ++ [v] ++ r ++ us.drop (o + (v :: r).length) := by simp
    rw [e3]
    exact h1
theorem cells_put {b : Nat} {W : World} {us : List Value} (h : Blk b W us) (vs : List Value) (hl : vs.length = us.length) : Blk b (putFrom b 0 W vs) vs := by
  have h1 := cells_putFrom vs 0 W us h (by omega)
  rw [List.take_zero, List.nil_append, Nat.zero_add, List.drop_eq_nil_of_le (by omega), List.append_nil] at h1
  exact h1
theorem put_below {w : World} {b : Nat} (hb : w.heap.size ≤ b) : ∀ (vs : List Value) (o : Nat) (W : World), Below w.heap.size w W → Below w.heap.size w (putFrom b o W vs) := by
  intro vs
  induction vs with
  | nil => intro o W h; exact h
  | cons v r ih => intro o W h; exact ih (o + 1) _ (h.setCell hb v)
theorem row_putFrom {base k n b : Nat} {t : TypeId} {v : Value} {cs : List Value} (hb : b < base) : ∀ (vs : List Value) (o : Nat) (W : World), W.ownsRow base t k v n cs → (putFrom b o W vs).ownsRow base t k v n cs := by
  intro vs
  induction vs with
  | nil => intro o W h; exact h
  | cons x r ih => intro o W h; exact ih (o + 1) _ (row_poke h hb)
end Go.Proofs.YtipcmbonhkelbabGreatDoor
namespace Go.Proofs.YtipcmbonhkelbabGreatDoor
open Go.RowKit
def unqI : List UInt8 → Option (List UInt8)
  | [] => some []
  | [c] => if (c.toNat : Int) = 92 then none else if (c.toNat : Int) = 34 then none else if txt c then some [c] else none
  | c :: d :: r => if (c.toNat : Int) = 92 then (if txt d then (unqI r).map (fun l => d :: l) else none) else if (c.toNat : Int) = 34 then none else if txt c then (unqI (d :: r)).map (fun l => c :: l) else none
theorem unqI_plain (c : UInt8) (r : List UInt8) (h1 : ¬ (c.toNat : Int) = 92) (h2 : ¬ (c.toNat : Int) = 34) (h3 : txt c = true) : unqI (c :: r) = (unqI r).map (fun l => c :: l) := by
  cases r with
  | nil => simp [unqI, h1, h2, h3]
  | cons d r => rw [unqI, if_neg h1, if_neg h2, if_pos h3]
theorem unqI_esc (c d : UInt8) (r : List UInt8) (h1 : (c.toNat : Int) = 92) (h3 : txt d = true) : unqI (c :: d :: r) = (unqI r).map (fun l => d :: l) := by
  rw [unqI, if_pos h1, if_pos h3]
theorem unqI_quote (c : UInt8) (r : List UInt8) (h : (c.toNat : Int) = 34) : unqI (c :: r) = none := by
  have h1 : ¬ (c.toNat : Int) = 92 := by omega
  cases r with
  | nil => rw [unqI, if_neg h1, if_pos h]
  | cons d r => rw [unqI, if_neg h1, if_pos h]
theorem unqI_bad (c : UInt8) (r : List UInt8) (h1 : ¬ (c.toNat : Int) = 92) (h2 : ¬ (c.toNat : Int) = 34) (h3 : txt c = false) : unqI (c :: r) = none := by
  cases r with
  | nil => simp [unqI, h1, h2, h3]
  | cons d r => simp [unqI, h1, h2, h3]
theorem unqI_end (c : UInt8) (h1 : (c.toNat : Int) = 92) : unqI [c] = none := by simp [unqI, h1]
theorem unqI_escbad (c d : UInt8) (r : List UInt8) (h1 : (c.toNat : Int) = 92) (h3 : txt d = false) : unqI (c :: d :: r) = none := by
  rw [unqI, if_pos h1, h3]; rfl
def RelU (L : List UInt8) (k : Nat) (o : List UInt8) : Prop := k ≤ L.length ∧ o.length ≤ k ∧ unqI L = (unqI (L.drop k)).map (fun l => o ++ l)
theorem relU_start (L : List UInt8) : RelU L 0 [] := ⟨Nat.zero_le _, Nat.le_refl _, by simp⟩
theorem drop_at {L : List UInt8} {k : Nat} (hk : k < L.length) : L.drop k = L[k] :: L.drop (k + 1) := List.drop_eq_getElem_cons hk
theorem relU_plain {L : List UInt8} {k : Nat} {o : List UInt8} (h : RelU L k o) (hk : k < L.length) (h1 : ¬ (L[k].toNat : Int) = 92) (h2 : ¬ (L[k].toNat : Int) = 34) (h3 : txt L[k] = true) : RelU L (k + 1) (o ++ [L[k]]) := by
  refine ⟨hk, by have := h.2.1; simp; omega, ?_⟩
  rw [h.2.2, drop_at hk, unqI_plain _ _ h1 h2 h3, Option.map_map]
  congr 1; funext l; simp
theorem relU_esc {L : List UInt8} {k : Nat} {o : List UInt8} (h : RelU L k o) (hk : k + 1 < L.length) (h1 : (L[k].toNat : Int) = 92) (h3 : txt L[k + 1] = true) : RelU L (k + 2) (o ++ [L[k + 1]]) := by
  refine ⟨hk, by have := h.2.1; simp; omega, ?_⟩
  rw [h.2.2, drop_at (by omega : k < L.length), drop_at hk, unqI_esc _ _ _ h1 h3, Option.map_map]
  congr 1; funext l; simp
theorem relU_quote {L : List UInt8} {k : Nat} {o : List UInt8} (h : RelU L k o) (hk : k < L.length) (h2 : (L[k].toNat : Int) = 34) : unqI L = none := by
  rw [h.2.2, drop_at hk, unqI_quote _ _ h2]; rfl
theorem relU_bad {L : List UInt8} {k : Nat} {o : List UInt8} (h : RelU L k o) (hk : k < L.length) (h1 : ¬ (L[k].toNat : Int) = 92) (h2 : ¬ (L[k].toNat : Int) = 34) (h3 : txt L[k] = false) : unqI L = none := by
  rw [h.2.2, drop_at hk, unqI_bad _ _ h1 h2 h3]; rfl
theorem relU_end {L : List UInt8} {k : Nat} {o : List UInt8} (h : RelU L k o) (hk : k + 1 = L.length) (h1 : (L[k].toNat : Int) = 92) : unqI L = none := by
  rw [h.2.2, drop_at (by omega : k < L.length), List.drop_of_length_le (by omega), unqI_end _ h1]; rfl
theorem relU_escbad {L : List UInt8} {k : Nat} {o : List UInt8} (h : RelU L k o) (hk : k + 1 < L.length) (h1 : (L[k].toNat : Int) = 92) (h3 : txt L[k + 1] = false) : unqI L = none := by
  rw [h.2.2, drop_at (by omega : k < L.length), drop_at hk, unqI_escbad _ _ _ h1 h3]; rfl
theorem relU_done {L : List UInt8} {k : Nat} {o : List UInt8} (h : RelU L k o) (hk : k = L.length) : unqI L = some o := by
  rw [h.2.2, List.drop_of_length_le (by omega), unqI]; simp
/-- what stands within the quotes -/
def inner (s : ByteArray) : List UInt8 := (s.data.toList.drop 1).take (s.size - 2)
theorem inner_len (s : ByteArray) (h : 2 ≤ s.size) : (inner s).length = s.size - 2 := by
  have : s.data.toList.length = s.size := by simp
  unfold inner; rw [List.length_take, List.length_drop, this]; omega
theorem inner_at (s : ByteArray) (h : 2 ≤ s.size) (k : Nat) (hk : k < (inner s).length) : (inner s)[k] = s[k + 1]'(by rw [inner_len s h] at hk; omega) := by
  have hk' := hk
  rw [inner_len s h] at hk'
  have e : (inner s)[k]? = some (s[k + 1]) := by
    unfold inner
    rw [List.getElem?_take_of_lt hk', List.getElem?_drop, Nat.add_comm 1 k, List.getElem?_eq_getElem (by simp; omega)]
    rfl
  exact Option.some.inj ((List.getElem?_eq_getElem hk).symm.trans e)
def unqR (L : List UInt8) : List UInt8 × Int := match unqI L with
  | some o => (o, 0)
  | none => ([], 11)
theorem unqR_none {L : List UInt8} (h : unqI L = none) : unqR L = ([], 11) := by unfold unqR; rw [h]
theorem unqR_some {L o : List UInt8} (h : unqI L = some o) : unqR L = (o, 0) := by unfold unqR; rw [h]
def framed (s : ByteArray) : Bool := if h : 2 ≤ s.size then decide ((s[0].toNat : Int) = 34 ∧ (s[s.size - 1].toNat : Int) = 34) else false
def unqS (s : ByteArray) : List UInt8 × Int := if framed s then unqR (inner s) else ([], 11)
end Go.Proofs.YtipcmbonhkelbabGreatDoor
