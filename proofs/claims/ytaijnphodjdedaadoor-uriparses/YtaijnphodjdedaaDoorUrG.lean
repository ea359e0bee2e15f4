/- What the document's Parse comes to. -/
import Derived.Test.YtaijnphodjdedaaDoorUaO
import Derived.Test.YtaijnphodjdedaaDoorUrB
import Derived.Test.YtaijnphodjdedaaDoorUrD
import Derived.Test.YtaijnphodjdedaaDoorUrT
import Derived.Test.YtaijnphodjdedaaDoorLowR
import Derived.Deep.RegionHeld3
namespace Go.Proofs.YtaijnphodjdedaaDoor
open Go.RowKit
theorem colon_no (s : ByteArray) (h : s.data.toList.all noCol = true) : colonAt s.data.toList = -1 ∧ hostT s = s ∧ digsT s = ⟨#[]⟩ := by
  have hw := while_all noCol _ h
  refine ⟨by unfold colonAt; rw [if_pos h], ?_, ?_⟩
  · unfold hostT hostOf; rw [hw.1, ba_eta]
  · unfold digsT digsOf; rw [hw.2]; rfl
theorem colon_yes (s : ByteArray) (h : ¬ s.data.toList.all noCol = true) : ∃ k : Nat, k < s.size ∧ colonAt s.data.toList = k ∧ s.extract 0 k = hostT s ∧ s.extract (k + 1) s.size = digsT s := by
  have hl := while_len noCol _ h
  refine ⟨(s.data.toList.takeWhile noCol).length, by rw [← len_list]; exact hl, by unfold colonAt; rw [if_neg h], ba_ext ?_, ba_ext ?_⟩
  · rw [hostT_list, Lib.extract_from_zero, while_take]; rfl
  · rw [digsT_list]
    have : (s.extract ((s.data.toList.takeWhile noCol).length + 1) s.size).data.toList = s.data.toList.drop ((s.data.toList.takeWhile noCol).length + 1) := by
      simp [ByteArray.data_extract, List.extract_eq_take_drop]
      exact List.take_of_length_le (by simp)
    rw [this, while_drop]; rfl
theorem end_facts (s : ByteArray) (k : Nat) (h7 : 7 ≤ k) (hk : k ≤ s.size) (ha : ((s.data.toList.take k).drop 7).all noEnd = true) (hend : k = s.size ∨ ∃ h : k < s.size, s[k] = 47 ∨ s[k] = 63) :
    s.extract 7 k = auT (s.extract 7 s.size) ∧ s.extract k s.size = restT (s.extract 7 s.size) := by
  have hsp : s.data.toList.drop 7 = (s.data.toList.take k).drop 7 ++ s.data.toList.drop k := by
    conv => lhs; rw [← List.take_append_drop k s.data.toList]
    rw [List.drop_append_of_le_length (by rw [List.length_take, len_list]; omega)]
  have hw := while_app noEnd ((s.data.toList.take k).drop 7) (s.data.toList.drop k) (fun c hc => List.all_eq_true.1 ha c hc) (fun c r e => by
    rcases hend with e2 | ⟨h, e2⟩
    · rw [List.drop_of_length_le (by rw [len_list]; omega)] at e; cases e
    · rw [drop_cons s k h] at e
      simp only [List.cons.injEq] at e
      rw [← e.1]
      exact (noEnd_iff _).2 e2)
  rw [← hsp] at hw
  exact ⟨ba_ext (by rw [seg_list, auT_list, ext_from, hw.1]), ba_ext (by rw [ext_from, restT_list, ext_from, hw.2])⟩
theorem ask_facts (r : ByteArray) (c : Nat) (_hc : c ≤ r.size) (ha : (r.data.toList.take c).all noAsk = true) (hend : c = r.size ∨ ∃ h : c < r.size, r[c] = 63) :
    (r.extract 0 c).data.toList = r.data.toList.takeWhile noAsk ∧ (r.extract c r.size).data.toList = r.data.toList.dropWhile noAsk := by
  have hw := while_app noAsk (r.data.toList.take c) (r.data.toList.drop c) (fun c hc => List.all_eq_true.1 ha c hc) (fun d q e => by
    rcases hend with e2 | ⟨h, e2⟩
    · rw [List.drop_of_length_le (by rw [len_list]; omega)] at e; cases e
    · rw [drop_cons r c h] at e
      simp only [List.cons.injEq] at e
      rw [← e.1, e2]; rfl)
  rw [List.take_append_drop] at hw
  exact ⟨by rw [ext_to, hw.1], by rw [ext_from, hw.2]⟩
def SB (w W : World) : Prop := Tri w.heap.size W ∧ Below w.heap.size w W
theorem sb_below {w W W' : World} (h : SB w W) (b : Below W.heap.size W W') : SB w W' := ⟨tri_below h.1 b, h.2.trans (b.mono h.2.size)⟩
theorem sb_drew {w W : World} (h : SB w W) : SB w W.drew := sb_below h (Below.refl _ _).drew
theorem sb_new (w : World) : SB w (w.alloc (.cells #[.string ⟨#[]⟩, .int .i64 0, .string ⟨#[]⟩] 24)) := ⟨tri_new w, alloc_below w _⟩
theorem sb_call {w W : World} {f : FuncId} {args : Array Value} {v : Value} (c : ∀ W, Calls Tryd.prog f args W fun e w' => e = .returned v ∧ Below W.heap.size W w') (h : SB w W) :
    Calls Tryd.prog f args W fun e w' => e = .returned v ∧ Hid (SB w w') ∧ ∃ x0 x1 x2, w'.cell? ⟨w.heap.size, 0, none⟩ = some (.string x0) ∧ w'.cell? ⟨w.heap.size, 1, none⟩ = some (.int .i64 x1) ∧ w'.cell? ⟨w.heap.size, 2, none⟩ = some (.string x2) ∧ w'.frozen? ⟨w.heap.size, 0, none⟩ = false ∧ w'.frozen? ⟨w.heap.size, 1, none⟩ = false ∧ w'.frozen? ⟨w.heap.size, 2, none⟩ = false := by
  refine (c W).mono ?_
  rintro e w' ⟨rfl, b⟩
  have hs := sb_below h b
  obtain ⟨⟨x0, h0⟩, ⟨x1, h1⟩, ⟨x2, h2⟩, f0, f1, f2, _⟩ := hs.1
  exact ⟨rfl, hs, x0, x1, x2, h0, h1, h2, f0, f1, f2⟩
theorem end_cases (c : UInt8) : (noEnd c = true ∧ ((c.toNat : Int) != 47) = true ∧ ((c.toNat : Int) != 63) = true) ∨ (c = 47 ∧ ((c.toNat : Int) != 47) = false) ∨ (c = 63 ∧ ((c.toNat : Int) != 47) = true ∧ ((c.toNat : Int) != 63) = false) := by
  by_cases h1 : c = 47
  · subst h1; exact .inr (.inl ⟨rfl, by decide⟩)
  · by_cases h2 : c = 63
    · subst h2; exact .inr (.inr ⟨rfl, by decide, by decide⟩)
    · refine .inl ⟨decide_eq_true ⟨h1, h2⟩, ?_, ?_⟩
      · simp only [bne_iff_ne, ne_eq]; intro e; exact h1 (UInt8.toNat_inj.1 (by have : (47 : UInt8).toNat = 47 := rfl; omega))
      · simp only [bne_iff_ne, ne_eq]; intro e; exact h2 (UInt8.toNat_inj.1 (by have : (63 : UInt8).toNat = 63 := rfl; omega))
end Go.Proofs.YtaijnphodjdedaaDoor
