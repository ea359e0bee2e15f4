/- Plain lemmas: what is quoted is unquoted to what it was, is one element of a list, and is no token. -/
import Derived.Test.YtegdbieieacalaaDoorUnq
import Derived.Test.YtegdbieieacalaaDoorList
import Derived.Test.YtegdbieieacalaaDoorTkT
import Derived.Test.YtegdbieieacalaaDoorUa
namespace Go.Proofs.YtegdbieieacalaaDoor
open Go.RowKit
theorem txt34 : ∀ c : UInt8, (c.toNat : Int) = 34 ∨ (c.toNat : Int) = 92 → txt c = true := by
  intro c h; unfold txt txtI; simp; omega
theorem unqI_escs (l : List UInt8) (h : l.all txt = true) : unqI (escs l) = some l := by
  induction l with
  | nil => rfl
  | cons c l ih =>
    simp only [List.all_cons, Bool.and_eq_true] at h
    have e : escs (c :: l) = esc c ++ escs l := by simp [escs]
    rw [e]
    by_cases hc : (c.toNat : Int) = 34 ∨ (c.toNat : Int) = 92
    · have e2 : esc c = [92, c] := by unfold esc; rw [if_pos hc]
      rw [e2]
      show unqI (92 :: c :: escs l) = _
      rw [unqI_esc 92 c _ (by rfl) h.1, ih h.2]
      rfl
    · have e2 : esc c = [c] := by unfold esc; rw [if_neg hc]
      rw [e2]
      show unqI (c :: escs l) = _
      rw [unqI_plain c _ (by omega) (by omega) h.1, ih h.2]
      rfl
def quoted (l : List UInt8) : List UInt8 := 34 :: (escs l ++ [34])
theorem quoted_len (l : List UInt8) : (quoted l).length = (escs l).length + 2 := by simp [quoted]
theorem quoted_size (l : List UInt8) : (⟨(quoted l).toArray⟩ : ByteArray).size = (escs l).length + 2 := by
  show (quoted l).toArray.size = _
  rw [List.size_toArray, quoted_len]
theorem quoted_inner (l : List UInt8) : inner ⟨(quoted l).toArray⟩ = escs l := by
  unfold inner
  rw [quoted_size]
  show ((quoted l).drop 1).take _ = _
  simp [quoted]
theorem quoted_first (l : List UInt8) : ∀ h, (((⟨(quoted l).toArray⟩ : ByteArray)[0]'h).toNat : Int) = 34 := fun _ => rfl
theorem quoted_last (l : List UInt8) : ∀ h, (((⟨(quoted l).toArray⟩ : ByteArray)[(⟨(quoted l).toArray⟩ : ByteArray).size - 1]'h).toNat : Int) = 34 := by
  intro h
  have hk : (quoted l).length - 1 < (quoted l).length := by rw [quoted_len]; omega
  have e : (quoted l)[(quoted l).length - 1]'hk = 34 := by
    have : quoted l = (34 :: escs l) ++ [34] := by simp [quoted]
    have h2 : (quoted l)[(quoted l).length - 1]? = some 34 := by
      rw [this]; simp
    rw [List.getElem?_eq_getElem hk] at h2
    exact Option.some.inj h2
  have e3 : (⟨(quoted l).toArray⟩ : ByteArray)[(⟨(quoted l).toArray⟩ : ByteArray).size - 1]'h = (quoted l)[(quoted l).length - 1]'hk := by
    show (quoted l).toArray[(quoted l).toArray.size - 1]'_ = _
    simp
  rw [e3, e]
  rfl
theorem unqS_quoted (l : List UInt8) (h : l.all txt = true) : unqS ⟨(quoted l).toArray⟩ = (l, 0) := by
  have h2 : 2 ≤ (⟨(quoted l).toArray⟩ : ByteArray).size := by rw [quoted_size]; omega
  have hf : framed ⟨(quoted l).toArray⟩ = true := by
    rw [framed_long h2, decide_eq_true_iff]
    exact ⟨quoted_first l _, quoted_last l _⟩
  rw [unqS_is hf, quoted_inner, unqR_some (unqI_escs l h)]
theorem pcs_escs (l : List UInt8) : ∀ cur : List UInt8, pcs 44 true cur (escs l ++ [34]) = [cur ++ (escs l ++ [34])] := by
  induction l with
  | nil =>
    intro cur
    show pcs 44 true cur [34] = _
    rw [pcs_quote _ _ _ _ _ (by rfl), pcs]
    rfl
  | cons c l ih =>
    intro cur
    have e : escs (c :: l) = esc c ++ escs l := by simp [escs]
    rw [e]
    by_cases hc : (c.toNat : Int) = 34 ∨ (c.toNat : Int) = 92
    · have e2 : esc c = [92, c] := by unfold esc; rw [if_pos hc]
      rw [e2]
      show pcs 44 true cur (92 :: c :: (escs l ++ [34])) = _
      rw [pcs_esc _ _ _ _ (by rfl), ih]
      simp
    · have e2 : esc c = [c] := by unfold esc; rw [if_neg hc]
      rw [e2]
      show pcs 44 true cur (c :: (escs l ++ [34])) = _
      rw [pcs_plain _ _ _ _ _ (by omega) (by simp; omega) (by simp), ih]
      simp
theorem trim_edges (l : List UInt8) (a b : UInt8) (m : List UInt8) (h : l = a :: m) (m' : List UInt8) (h' : l = m' ++ [b]) (ha : blankI (a.toNat : Int) = false) (hb : blankI (b.toNat : Int) = false) : trimT l = l := by
  unfold trimT Lib.trimS
  have hr : Lib.trimRightS l [32, 9] = l := by
    rw [Lib.trimRightS_take l [32, 9] l.length (Nat.le_refl _) (fun j x hj hx => by rw [List.getElem?_eq_none hj] at hx; cases hx) (fun x _ hx => by
      rw [h'] at hx; simp at hx; subst hx; rw [blank_is]; exact hb), List.take_length]
  rw [hr, Lib.trimLeftS_drop l [32, 9] 0 (Nat.zero_le _) (fun j x hj => absurd hj (Nat.not_lt_zero _)) (fun x hx => by
    rw [h] at hx; simp at hx; subst hx; rw [blank_is]; exact ha), List.drop_zero]
theorem listOf_quoted (l : List UInt8) : listOf (quoted l) = [quoted l] := by
  unfold listOf pieces
  have h1 : pcs 44 false [] (quoted l) = [quoted l] := by
    unfold quoted
    rw [pcs_quote _ _ _ _ _ (by rfl)]
    show pcs 44 true [34] (escs l ++ [34]) = _
    rw [pcs_escs]
    rfl
  have h2 : trimT (quoted l) = quoted l := trim_edges _ 34 34 (escs l ++ [34]) rfl (34 :: escs l) (by simp [quoted]) (by decide) (by decide)
  rw [h1, List.map_cons, List.map_nil, h2]
  simp [filt, quoted]
theorem isTok_quoted (l : List UInt8) : isTok (quoted l) = false := by
  have : tokI 34 = false := by decide
  unfold isTok quoted
  simp [this]
end Go.Proofs.YtegdbieieacalaaDoor
