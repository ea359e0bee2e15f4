/- Plain: a decoded body is of 65536 bytes at most, its trailers are 100 at most. -/
import Derived.Test.YtmikgpmnffdnnaaGreatDoorBk
namespace Go.Proofs.YtmikgpmnffdnnaaGreatDoor
open Go.RowKit
theorem fs_dec : ∀ (f : Nat) (b out : List UInt8) (p : Nat), (decG f b out p).2.1.length ≤ 100 := by
  intro f
  induction f with
  | zero => intro b out p; simp [decG]
  | succ f ih =>
    intro b out p
    by_cases h2 : (stepC b out.length).o = 2
    · rw [dec_chunk h2]; exact ih _ _ _
    · by_cases h3 : (stepC b out.length).o = 3
      · rw [dec_fin h3]
        obtain ⟨_, _, _, _, _, es⟩ := chs_three b out.length h3
        rw [es]
        show (tailC (b.drop (lenL b + 1))).1.length ≤ 100
        unfold tailC
        split
        · simp
        · split
          · simp
          · split
            · exact parse_len _
            · simp
      · rw [dec_stop h2 h3]; simp
theorem dec_fs (b : List UInt8) : (decOf b).2.1.length ≤ 100 := fs_dec _ _ _ _
theorem out_dec : ∀ (f : Nat) (b out : List UInt8) (p : Nat), out.length ≤ 65536 → (decG f b out p).1.length ≤ 65536 := by
  intro f
  induction f with
  | zero => intro b out p h; simp [decG]
  | succ f ih =>
    intro b out p h
    by_cases h2 : (stepC b out.length).o = 2
    · rw [dec_chunk h2]
      refine ih _ _ _ ?_
      rw [List.length_append]
      have key : (stepC b out.length).d.length + out.length ≤ 65536 := by
        rcases lineC_cases b with e | e | ⟨s, e, hlt, _⟩
        · rw [chs_none e] at h2; simp [St.need] at h2
        · rw [chs_bad e] at h2; simp [St.err] at h2
        · rw [chs_line e (by omega)] at h2 ⊢
          split
          · rename_i hs
            rw [if_pos hs] at h2
            unfold finC at h2
            split at h2
            · simp [St.err] at h2
            · split at h2 <;> simp [St.need] at h2
          · rename_i hs
            rw [if_neg hs] at h2
            unfold dataC at h2 ⊢
            split
            · rename_i q; rw [if_pos q] at h2; simp [St.err] at h2
            · rename_i q
              rw [if_neg q] at h2
              split
              · rename_i q2; rw [if_pos q2] at h2; simp [St.need] at h2
              · split
                · simp [St.err]; omega
                · show ((b.drop _).take s).length + out.length ≤ 65536
                  rw [List.length_take]
                  omega
      omega
    · by_cases h3 : (stepC b out.length).o = 3
      · rw [dec_fin h3]; exact h
      · rw [dec_stop h2 h3]; simp
theorem dec_out (b : List UInt8) : (decOf b).1.length ≤ 65536 := out_dec _ _ _ _ (by simp)
end Go.Proofs.YtmikgpmnffdnnaaGreatDoor
