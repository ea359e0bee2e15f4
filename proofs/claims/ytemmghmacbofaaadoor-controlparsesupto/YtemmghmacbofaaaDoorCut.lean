/- The contract of the library's Cut at the text of one equals sign. -/
import Derived.Test.YtemmghmacbofaaaDoorEqP
import Derived.Test.YtemmghmacbofaaaDoorShelf
import Derived.Deep.QuietTactic
import Derived.BigQuiet
namespace Go.Proofs.YtemmghmacbofaaaDoor
open Go.RowKit
theorem indexC (s : ByteArray) (w : World) :
    Calls Tryd.prog 53 #[.string s, .string ⟨#[61]⟩] w fun e w' => e = .returned (.int .i64 (Lib.indexByte s.data.toList 61)) ∧ w' = w :=
  Any.stringslite_Index_one Tryd.lays219 s 61 w
theorem cut_to (s : ByteArray) (t : Nat) (ht : t ≤ s.size) (w : World) :
    Sem.run Tryd.prog (Instr.slice 9 (.string s) none (some (.int .i64 t)) none) w = .ok (.string ⟨(s.data.toList.take t).toArray⟩) w := by
  rw [run_slice_string_to_if w 9 s .i64 t Tryd.underlying9, if_pos ⟨by omega, by omega⟩]
  congr 2
  have : (s.extract 0 t).data.toList = s.data.toList.take t := by simp [ByteArray.data_extract, List.extract_eq_take_drop]
  simp only [Int.toNat_natCast]
  rw [← this]
theorem cut_from1 (s : ByteArray) (f : Nat) (hf : f + 1 ≤ s.size) (w : World) :
    Sem.run Tryd.prog (Instr.slice 9 (.string s) (some (.int .i64 ((f : Int) + 1))) none none) w = .ok (.string ⟨(s.data.toList.drop (f + 1)).toArray⟩) w := by
  have := cut_from s (f + 1) hf w
  rwa [Int.natCast_add] at this
theorem ext_to (s : ByteArray) (k : Nat) : (⟨(s.data.toList.take k).toArray⟩ : ByteArray) = s.extract 0 k := by
  have : (s.extract 0 k).data.toList = s.data.toList.take k := by simp [ByteArray.data_extract, List.extract_eq_take_drop]
  rw [← this]
theorem ext_from (s : ByteArray) (k : Nat) : (⟨(s.data.toList.drop k).toArray⟩ : ByteArray) = s.extract k s.size := by
  have : (s.extract k s.size).data.toList = s.data.toList.drop k := by
    simp [ByteArray.data_extract, List.extract_eq_take_drop]
    exact List.take_of_length_le (by simp)
  rw [← this]
set_option maxHeartbeats 1000000 in
theorem cutYes (s : ByteArray) (w : World) (hs : s.size ≤ 4194304) (h : eqPos s.data.toList < s.size) :
    Calls Tryd.prog 49 #[.string s, .string ⟨#[61]⟩] w fun e w' => e = .returned (.tuple #[.string ⟨(s.data.toList.take (eqPos s.data.toList)).toArray⟩, .string ⟨(s.data.toList.drop (eqPos s.data.toList + 1)).toArray⟩, .bool true]) ∧ ∃ n, w' = w.drewN n := by
  have hc := indexC s w
  rw [index_eq, if_pos (by rw [len_list]; exact h)] at hc
  generalize eqPos s.data.toList = k at hc h ⊢
  have x1 : Hid ((⟨(s.data.toList.take k).toArray⟩ : ByteArray) = s.extract 0 k) := ext_to s k
  have x2 : Hid ((⟨(s.data.toList.drop (k + 1)).toArray⟩ : ByteArray) = s.extract (k + 1) s.size) := ext_from s (k + 1)
  have h0 : (0 : Int) ≤ k := by omega
  go_enter Tryd.func49, Tryd.ntmps49
  go_wp2_with fail
  refine hc.mono ?_
  clear hc
  rintro e w' ⟨rfl, rfl⟩
  go_wp2_with fail
  go_quiet (fail)
  go_wp2_with fail
  go_ret3
  rw [x1.out, x2.out]
  exact ⟨rfl, _, rfl⟩
set_option maxHeartbeats 1000000 in
theorem cutNo (s : ByteArray) (w : World) (h : ¬ eqPos s.data.toList < s.size) :
    Calls Tryd.prog 49 #[.string s, .string ⟨#[61]⟩] w fun e w' => e = .returned (.tuple #[.string s, .string ⟨#[]⟩, .bool false]) ∧ ∃ n, w' = w.drewN n := by
  have hc := indexC s w
  rw [index_eq, if_neg (by rw [len_list]; exact h)] at hc
  go_enter Tryd.func49, Tryd.ntmps49
  go_wp2_with fail
  refine hc.mono ?_
  clear hc
  rintro e w' ⟨rfl, rfl⟩
  go_wp2_with fail
  go_ret3
  exact ⟨rfl, 0, rfl⟩
set_option maxHeartbeats 1000000 in
theorem cutEq1 (s : ByteArray) (w : World) (hs : s.size ≤ 4194304) (h : eqPos s.data.toList < s.size) :
    Calls Tryd.prog 41 #[.string s, .string ⟨#[61]⟩] w fun e w' => e = .returned (.tuple #[.string ⟨(s.data.toList.take (eqPos s.data.toList)).toArray⟩, .string ⟨(s.data.toList.drop (eqPos s.data.toList + 1)).toArray⟩, .bool true]) ∧ ∃ n, w' = w.drewN n := by
  have hc := cutYes s w hs h
  generalize (s.data.toList.take (eqPos s.data.toList)).toArray = a at hc ⊢
  generalize (s.data.toList.drop (eqPos s.data.toList + 1)).toArray = b at hc ⊢
  clear h
  go_enter Tryd.func41, Tryd.ntmps41
  go_wp2_with fail
  refine hc.mono ?_
  clear hc
  rintro e w' ⟨rfl, n, rfl⟩
  go_wp2_with fail
  go_ret3
  exact ⟨rfl, n, rfl⟩
set_option maxHeartbeats 1000000 in
theorem cutEq0 (s : ByteArray) (w : World) (h : ¬ eqPos s.data.toList < s.size) :
    Calls Tryd.prog 41 #[.string s, .string ⟨#[61]⟩] w fun e w' => e = .returned (.tuple #[.string s, .string ⟨#[]⟩, .bool false]) ∧ ∃ n, w' = w.drewN n := by
  have hc := cutNo s w h
  clear h
  go_enter Tryd.func41, Tryd.ntmps41
  go_wp2_with fail
  refine hc.mono ?_
  clear hc
  rintro e w' ⟨rfl, n, rfl⟩
  go_wp2_with fail
  go_ret3
  exact ⟨rfl, n, rfl⟩
end Go.Proofs.YtemmghmacbofaaaDoor
