/- The contracts of pieces and of the document's Pieces. The contract of pieces: what the document's Pieces answers, each trimmed. The contracts of List and of the document's List. -/
import Derived.Test.YtikokjclhpgocabDoorBk
namespace Go.Proofs.YtikokjclhpgocabDoor
open Go.RowKit
set_option maxRecDepth 20000
theorem list_get (s : ByteArray) (i : Nat) (h : i < s.size) : ∃ hk : i < s.data.toList.length, s.data.toList[i] = s[i] := ⟨by simpa using h, rfl⟩
theorem len_list (s : ByteArray) : s.data.toList.length = s.size := by simp
theorem seg_size (s : ByteArray) (i f : Nat) : (⟨((s.data.toList.drop f).take (i - f)).toArray⟩ : ByteArray).size ≤ s.size := by
  show ((s.data.toList.drop f).take (i - f)).toArray.size ≤ s.size
  rw [List.size_toArray, ← len_list s]; exact seg_len _ _ _
theorem cut_from (s : ByteArray) (f : Nat) (hf : f ≤ s.size) (w : World) :
    Sem.run Tryd.prog (Instr.slice 9 (.string s) (some (.int .i64 f)) none none) w = .ok (.string ⟨(s.data.toList.drop f).toArray⟩) w := by
  rw [run_slice_string_from_if w 9 s .i64 f Tryd.underlying9, if_pos ⟨by omega, by omega⟩]
  congr 2
  have : (s.extract f s.size).data.toList = s.data.toList.drop f := by
    have h : s.size = s.data.toList.length := by simp
    simp [ByteArray.data_extract, List.extract_eq_take_drop]
    exact List.take_of_length_le (by simp)
  simp only [Int.toNat_natCast]
  rw [← this]
section
variable {c : Int} {s : ByteArray} {i f : Nat} {q : Bool} {out : List (List UInt8)}
theorem relB_quote (h : RelP c s.data.toList i f q out) (hi : i < s.size) (h34 : (s[i].toNat : Int) = 34) : RelP c s.data.toList (i + 1) f (!q) out := by
  obtain ⟨hk, e⟩ := list_get s i hi
  exact relP_quote h hk (by rw [e]; exact h34)
theorem relB_esc (h : RelP c s.data.toList i f true out) (hi : i < s.size) (h92 : (s[i].toNat : Int) = 92) : RelP c s.data.toList (i + 2) f true out := by
  obtain ⟨hk, e⟩ := list_get s i hi
  exact relP_esc h hk (by rw [e]; exact h92)
theorem relB_cut (h : RelP c s.data.toList i f false out) (hi : i < s.size) (h34 : ¬ (s[i].toNat : Int) = 34) (hc : (s[i].toNat : Int) = c) : RelP c s.data.toList (i + 1) (i + 1) false (out ++ [(s.data.toList.drop f).take (i - f)]) := by
  obtain ⟨hk, e⟩ := list_get s i hi
  exact relP_cut h hk (by rw [e]; exact h34) (by rw [e]; exact hc)
theorem relB_plain (h : RelP c s.data.toList i f q out) (hi : i < s.size) (h34 : ¬ (s[i].toNat : Int) = 34) (h92 : ¬ (q = true ∧ (s[i].toNat : Int) = 92)) (hc : ¬ (q = false ∧ (s[i].toNat : Int) = c)) : RelP c s.data.toList (i + 1) f q out := by
  obtain ⟨hk, e⟩ := list_get s i hi
  exact relP_plain h hk (by rw [e]; exact h34) (by rw [e]; exact h92) (by rw [e]; exact hc)
end
end Go.Proofs.YtikokjclhpgocabDoor
namespace Go.Proofs.YtikokjclhpgocabDoor
open Go.RowKit
set_option maxRecDepth 20000
theorem seg_small (s : ByteArray) (i f : Nat) (hs : s.size ≤ 4194304) : ((s.data.toList.drop f).take (i - f)).length ≤ 140737488351232 := by
  have := seg_len s.data.toList i f
  rw [len_list] at this
  omega
theorem rest_small (s : ByteArray) (f : Nat) (hs : s.size ≤ 4194304) : (s.data.toList.drop f).length ≤ 140737488351232 := by
  rw [List.length_drop, len_list]; omega
end Go.Proofs.YtikokjclhpgocabDoor
namespace Go.Proofs.YtikokjclhpgocabDoor
open Go.RowKit
set_option maxRecDepth 20000
def filt (ps : List (List UInt8)) : List (List UInt8) := ps.filter (fun l => !l.isEmpty)
def listOf (L : List UInt8) : List (List UInt8) := filt ((pieces 44 L).map trimT)
theorem filt_snoc_nil (ps : List (List UInt8)) (p : List UInt8) (h : p.isEmpty = true) : filt (ps ++ [p]) = filt ps := by simp [filt, h]
theorem filt_snoc_some (ps : List (List UInt8)) (p : List UInt8) (h : p.isEmpty = false) : filt (ps ++ [p]) = filt ps ++ [p] := by simp [filt, h]
theorem filt_len (ps : List (List UInt8)) : (filt ps).length ≤ ps.length := List.length_filter_le _ _
theorem pcs_ne (c : Int) : ∀ (n : Nat) (q : Bool) (cur L : List UInt8), L.length ≤ n → pcs c q cur L ≠ [] := by
  intro n q cur L h e
  have : ∀ (n : Nat) (q : Bool) (cur L : List UInt8), L.length ≤ n → 0 < (pcs c q cur L).length := by
    intro n
    induction n with
    | zero =>
      intro q cur L h
      obtain rfl : L = [] := List.eq_nil_of_length_eq_zero (by omega)
      simp [pcs]
    | succ n ih =>
      intro q cur L h
      match L, h with
      | [], _ => simp [pcs]
      | [x], _ =>
        rw [pcs]
        split
        · simp
        · split
          · simp
          · split <;> simp
      | x :: y :: r, h =>
        have h1 : (y :: r).length ≤ n := by simp at h ⊢; omega
        have h2 : r.length ≤ n := by simp at h; omega
        rw [pcs]
        split
        · exact ih _ _ _ h1
        · split
          · exact ih _ _ _ h2
          · split
            · simp
            · exact ih _ _ _ h1
  have h3 := this n q cur L h
  rw [e] at h3
  simp at h3
theorem pieces_ne (c : Int) (L : List UInt8) : pieces c L ≠ [] := pcs_ne c L.length false [] L (Nat.le_refl _)
theorem cloneL (l : List UInt8) (w : World) (hl : l.length ≤ 140737488351232) :
    Calls Tryd.prog 24 #[.string ⟨l.toArray⟩] w fun e w' => e = .returned (.string ⟨l.toArray⟩) ∧ Below w.heap.size w w' :=
  clone ⟨l.toArray⟩ w (by show l.toArray.size ≤ _; rw [List.size_toArray]; exact hl)
theorem trim_both (l : List UInt8) (a b : UInt8) (m : List UInt8) (h : l = a :: m) (m' : List UInt8) (h' : l = m' ++ [b]) (ha : blankI (a.toNat : Int) = false) (hb : blankI (b.toNat : Int) = false) : trimT l = l := by
  unfold trimT Lib.trimS
  have hr : Lib.trimRightS l [32, 9] = l := by
    rw [Lib.trimRightS_take l [32, 9] l.length (Nat.le_refl _) (fun j x hj hx => by rw [List.getElem?_eq_none hj] at hx; cases hx) (fun x _ hx => by
      rw [h'] at hx; simp at hx; subst hx; rw [blank_is]; exact hb), List.take_length]
  rw [hr, Lib.trimLeftS_drop l [32, 9] 0 (Nat.zero_le _) (fun j x hj => absurd hj (Nat.not_lt_zero _)) (fun x hx => by
    rw [h] at hx; simp at hx; subst hx; rw [blank_is]; exact ha), List.drop_zero]
end Go.Proofs.YtikokjclhpgocabDoor
