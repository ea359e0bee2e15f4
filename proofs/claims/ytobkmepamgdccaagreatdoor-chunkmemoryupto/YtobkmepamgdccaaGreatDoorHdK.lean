/- The document's blank, visible, version, end and split. -/
import Derived.Test.YtobkmepamgdccaaGreatDoorBd
namespace Go.Proofs.YtobkmepamgdccaaGreatDoor
open Go.RowKit
theorem bl_take (s : ByteArray) (f k : Nat) (hf : f ≤ k) (h : k < s.size) (ha : ((s.data.toList.drop f).take (k - f)).all noBl = true) (hc : noBl s[k] = true) : ((s.data.toList.drop f).take (k + 1 - f)).all noBl = true := by
  have hk : k - f < (s.data.toList.drop f).length := by rw [List.length_drop]; simp; omega
  rw [show k + 1 - f = (k - f) + 1 by omega, List.take_succ_eq_append_getElem hk, List.all_append, ha, Bool.true_and]
  have e : (s.data.toList.drop f)[k - f] = s[k] := by
    rw [List.getElem_drop]
    show s.data.toList[f + (k - f)]'_ = s.data[k]
    have : f + (k - f) = k := by omega
    simp only [this]
    rfl
  rw [e]; simp [hc]
theorem word_at (l : List UInt8) (k : Nat) (hk : k ≤ l.length) (ha : (l.take k).all noBl = true) (he : k = l.length ∨ ∃ h : k < l.length, noBl l[k] = false) : (word l).length = k := by
  have e : l = l.take k ++ l.drop k := (List.take_append_drop k l).symm
  have h1 : ∀ c r, l.drop k = c :: r → noBl c = false := by
    intro c r hr
    rcases he with he | ⟨h, hb⟩
    · rw [he, List.drop_length] at hr; cases hr
    · rw [List.drop_eq_getElem_cons h] at hr
      simp only [List.cons.injEq] at hr
      rw [← hr.1]; exact hb
  have := (while_app noBl (l.take k) (l.drop k) (fun c hc => List.all_eq_true.1 ha c hc) h1).1
  rw [← e] at this
  unfold word
  rw [this, List.length_take]; omega
theorem goodT_bad (s : ByteArray) (k : Nat) (h : k < s.size) (hc : vis s[k] = false) : goodT s.data.toList = false := by
  unfold goodT; rw [ev_bad vis s k h hc, Bool.and_false]
end Go.Proofs.YtobkmepamgdccaaGreatDoor
