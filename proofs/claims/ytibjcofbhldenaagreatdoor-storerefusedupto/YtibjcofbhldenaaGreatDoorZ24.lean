/- The contract of the document's Decode. The contracts of PrintRequest and PrintResponse. -/
import Derived.Deep.QuietTactic
import Derived.BigQuiet
import Derived.Deep.RegionHeldLaw
import Derived.Deep.RegionHeld3
import Derived.Test.YtibjcofbhldenaaGreatDoorZ18
import Derived.Test.YtibjcofbhldenaaGreatDoorZ22
import Derived.Test.YtibjcofbhldenaaGreatDoorZ23
import Derived.Test.YtibjcofbhldenaaGreatDoorZ21
import Derived.Test.YtibjcofbhldenaaGreatDoorZ11
import Derived.Test.YtibjcofbhldenaaGreatDoorZ15
namespace Go.Proofs.YtibjcofbhldenaaGreatDoor
open Go.RowKit
end Go.Proofs.YtibjcofbhldenaaGreatDoor
namespace Go.Proofs.YtibjcofbhldenaaGreatDoor
open Go.RowKit
theorem itoa_minor (k : Int) (h : goodK k = true) : Lib.itoa k = minD k := by
  unfold goodK at h
  simp at h
  rcases h with rfl | rfl
  · unfold Lib.itoa; rw [if_neg (by decide), Lib.decDigits_one (by decide)]; rfl
  · unfold Lib.itoa; rw [if_neg (by decide), Lib.decDigits_one (by decide)]; rfl
theorem itoa_status (s : Int) (h : goodS s = true) : Lib.itoa s = stD s := by
  unfold goodS at h
  simp at h
  unfold Lib.itoa
  rw [if_neg (by omega), Lib.decDigits, dif_neg (by omega), Lib.decDigits, dif_neg (by omega), Lib.decDigits_one (by omega)]
  unfold stD
  simp only [List.cons_append, List.nil_append, List.cons.injEq, and_true]
  exact congrArg _ (by omega)
set_option maxHeartbeats 400000 in
theorem goodMinorTok (k : Int) (w : World) :
    Calls Tryz.prog 149 #[.int .i64 k] w fun e w' => e = .returned (.bool (goodK k)) ∧ w' = w := by
  by_cases h0 : k = 0
  · subst h0
    go_enter Tryz.func149, Tryz.ntmps149
    go_wp2
    go_ret
    exact ⟨rfl, rfl⟩
  · have t0 : (k == 0) = false := by simpa using h0
    by_cases h1 : k = 1
    · subst h1
      go_enter Tryz.func149, Tryz.ntmps149
      go_wp2
      go_ret
      exact ⟨rfl, rfl⟩
    · have t1 : (k == 1) = false := by simpa using h1
      have H : Hid (goodK k = false) := by unfold Hid goodK; simp; omega
      clear h0 h1
      go_enter Tryz.func149, Tryz.ntmps149
      go_wp2
      go_ret
      rw [H.out]
      exact ⟨rfl, rfl⟩
/-- four cells of a block, in every later world -/
def Four (g : Nat) (W : World) (a b c d : Value) : Prop := W.cell? ⟨g, 0, none⟩ = some a ∧ W.cell? ⟨g, 1, none⟩ = some b ∧ W.cell? ⟨g, 2, none⟩ = some c ∧ W.cell? ⟨g, 3, none⟩ = some d
theorem four_below {g : Nat} {W W' : World} {a b c d : Value} (h : Four g W a b c d) (hg : g < W.heap.size) (hb : Below W.heap.size W W') : Four g W' a b c d := by
  obtain ⟨h0, h1, h2, h3⟩ := h
  exact ⟨by rw [hb.cell (p := ⟨g, 0, none⟩) hg]; exact h0, by rw [hb.cell (p := ⟨g, 1, none⟩) hg]; exact h1, by rw [hb.cell (p := ⟨g, 2, none⟩) hg]; exact h2, by rw [hb.cell (p := ⟨g, 3, none⟩) hg]; exact h3⟩
theorem add_str (x y : ByteArray) (h : x.size + y.size ≤ 1000000000) : ∃ s : ByteArray, (∀ W, (Op.stringOp .add x y).run Tryz.prog W = .ok (.string s) W) ∧ s.data.toList = x.data.toList ++ y.data.toList ∧ s.size = x.size + y.size :=
  ⟨x ++ y, fun W => run_string_add_sum W _ _ (by omega), by simp [ByteArray.data_append], ByteArray.size_append⟩
end Go.Proofs.YtibjcofbhldenaaGreatDoor
