/- The contracts of pieces and of the document's Pieces. -/
import Derived.Test.YtmibgcbolnpffabDoorPcs
import Derived.Test.YtmibgcbolnpffabDoorOwnS
import Derived.Test.YtmibgcbolnpffabDoorTrimR
namespace Go.Proofs.YtmibgcbolnpffabDoor
open Go.RowKit
set_option maxRecDepth 20000
theorem list_get (s : ByteArray) (i : Nat) (h : i < s.size) : ∃ hk : i < s.data.toList.length, s.data.toList[i] = s[i] := ⟨by simpa using h, rfl⟩
theorem len_list (s : ByteArray) : s.data.toList.length = s.size := by simp
theorem seg_size (s : ByteArray) (i f : Nat) : (⟨((s.data.toList.drop f).take (i - f)).toArray⟩ : ByteArray).size ≤ s.size := by
  show ((s.data.toList.drop f).take (i - f)).toArray.size ≤ s.size
  rw [List.size_toArray, ← len_list s]; exact seg_len _ _ _
theorem cut_from (s : ByteArray) (f : Nat) (hf : f ≤ s.size) (w : World) :
    Sem.run Tryd.prog (Instr.slice 9 (.string s) (some (.int .i64 f)) none none) w = .ok (.string ⟨(s.data.toList.drop f).toArray⟩) w := by
  rw [run_slice_string_from_if w 9 s .i64 f Tryd.underlying9, if_pos ⟨by omega, by omega⟩]
  congr 2
  have : (s.extract f s.size).data.toList = s.data.toList.drop f := by
    have h : s.size = s.data.toList.length := by simp
    simp [ByteArray.data_extract, List.extract_eq_take_drop]
    exact List.take_of_length_le (by simp)
  simp only [Int.toNat_natCast]
  rw [← this]
section
variable {c : Int} {s : ByteArray} {i f : Nat} {q : Bool} {out : List (List UInt8)}
theorem relB_quote (h : RelP c s.data.toList i f q out) (hi : i < s.size) (h34 : (s[i].toNat : Int) = 34) : RelP c s.data.toList (i + 1) f (!q) out := by
  obtain ⟨hk, e⟩ := list_get s i hi
  exact relP_quote h hk (by rw [e]; exact h34)
theorem relB_esc (h : RelP c s.data.toList i f true out) (hi : i < s.size) (h92 : (s[i].toNat : Int) = 92) : RelP c s.data.toList (i + 2) f true out := by
  obtain ⟨hk, e⟩ := list_get s i hi
  exact relP_esc h hk (by rw [e]; exact h92)
theorem relB_cut (h : RelP c s.data.toList i f false out) (hi : i < s.size) (h34 : ¬ (s[i].toNat : Int) = 34) (hc : (s[i].toNat : Int) = c) : RelP c s.data.toList (i + 1) (i + 1) false (out ++ [(s.data.toList.drop f).take (i - f)]) := by
  obtain ⟨hk, e⟩ := list_get s i hi
  exact relP_cut h hk (by rw [e]; exact h34) (by rw [e]; exact hc)
theorem relB_plain (h : RelP c s.data.toList i f q out) (hi : i < s.size) (h34 : ¬ (s[i].toNat : Int) = 34) (h92 : ¬ (q = true ∧ (s[i].toNat : Int) = 92)) (hc : ¬ (q = false ∧ (s[i].toNat : Int) = c)) : RelP c s.data.toList (i + 1) f q out := by
  obtain ⟨hk, e⟩ := list_get s i hi
  exact relP_plain h hk (by rw [e]; exact h34) (by rw [e]; exact h92) (by rw [e]; exact hc)
end
set_option maxHeartbeats 2000000 in
theorem piecesRef (s : ByteArray) (c : Int) (w : World) (hs : s.size ≤ 4194304) :
    Calls Tryd.prog 43 #[.string s, .int .u8 c] w fun e w' => ∃ v, e = .returned v ∧ OwnS w v (pieces c s.data.toList) w' := by
  go_enter Tryd.func43, Tryd.ntmps43
  go_wp2
  go_loopw [5, 6, 7, 8] (fun v fv qv iv wr => ∃ (i f : Nat) (q : Bool) (out : List (List UInt8)), iv = .int .i64 i ∧ fv = .int .i64 f ∧ qv = .bool q ∧ Hid (RelP c s.data.toList i f q out) ∧ OwnS w v out wr) (fun _ _ _ iv _ => s.size + 2 - (intOf iv).toNat)
  case atStart => exact ⟨0, 0, false, [], rfl, rfl, rfl, relP_start _ _, ownS_empty w⟩
  case round =>
    obtain ⟨i, f, q, out, rfl, rfl, rfl, hR, hown⟩ := hrel
    have r1 : f ≤ i := hR.out.1
    have r2 : f ≤ s.size := by have := hR.out.2.1; rwa [len_list] at this
    have r3 : i ≤ s.size + 1 := by have := hR.out.2.2.1; rwa [len_list] at this
    have r4 : out.length ≤ f := hR.out.2.2.2.1
    by_cases hlt : i < s.size
    · have hb := byte_lt s[i]
      by_cases x34 : (s[i].toNat : Int) = 34
      · have R : Hid (RelP c s.data.toList (i + 1) f (!q) out) := relB_quote hR.out hlt x34
        have b34 : ((s[i].toNat : Int) == 34) = true := by simp [x34]
        have b92 : ((s[i].toNat : Int) == 92) = false := by simp [x34]
        clear x34
        cases q with
        | false =>
          go_wp2
          go_roundw
          case rel => exact ⟨i + 1, f, true, out, by go_num, rfl, rfl, R, hown⟩
          case measure => simp [intOf]; omega
        | true =>
          go_wp2
          go_roundw
          case rel => exact ⟨i + 1, f, false, out, by go_num, rfl, rfl, R, hown⟩
          case measure => simp [intOf]; omega
      · have b34 : ((s[i].toNat : Int) == 34) = false := by simp [x34]
        cases q with
        | true =>
          by_cases x92 : (s[i].toNat : Int) = 92
          · have R : Hid (RelP c s.data.toList (i + 2) f true out) := relB_esc hR.out hlt x92
            have b92 : ((s[i].toNat : Int) == 92) = true := by simp [x92]
            clear x34 x92
            go_wp2
            go_roundw
            case rel => exact ⟨i + 2, f, true, out, by go_num, rfl, rfl, R, hown⟩
            case measure => simp [intOf]; omega
          · have R : Hid (RelP c s.data.toList (i + 1) f true out) := relB_plain hR.out hlt x34 (by simp [x92]) (by simp)
            have b92 : ((s[i].toNat : Int) == 92) = false := by simp [x92]
            clear x34 x92
            cases bc : ((s[i].toNat : Int) == c) with
            | true =>
              go_wp2
              go_roundw
              case rel => exact ⟨i + 1, f, true, out, by go_num, rfl, rfl, R, hown⟩
              case measure => simp [intOf]; omega
            | false =>
              go_wp2
              go_roundw
              case rel => exact ⟨i + 1, f, true, out, by go_num, rfl, rfl, R, hown⟩
              case measure => simp [intOf]; omega
        | false =>
          by_cases xc : (s[i].toNat : Int) = c
          · have R : Hid (RelP c s.data.toList (i + 1) (i + 1) false (out ++ [(s.data.toList.drop f).take (i - f)])) := relB_cut hR.out hlt x34 xc
            have bc : ((s[i].toNat : Int) == c) = true := by simp [xc]
            have hcut := cut_is s f i r1 (by omega) wr
            clear x34 xc
            go_wp2_with (at_builtin; refine appS rfl (.tmp 40) (.tmp 45) rfl w _ _ rfl hown _ rfl rfl (by omega) ?_; intro v2 w2 hown2)
            go_roundw
            case rel => exact ⟨i + 1, i + 1, false, _, by go_num, by go_num, rfl, R, hown2⟩
            case measure => simp [intOf]; omega
          · have R : Hid (RelP c s.data.toList (i + 1) f false out) := relB_plain hR.out hlt x34 (by simp) (by simp [xc])
            have bc : ((s[i].toNat : Int) == c) = false := by simp [xc]
            clear x34 xc
            go_wp2
            go_roundw
            case rel => exact ⟨i + 1, f, false, out, by go_num, rfl, rfl, R, hown⟩
            case measure => simp [intOf]; omega
    · have F : Hid (pieces c s.data.toList = out ++ [s.data.toList.drop f]) := relP_done hR.out (by rw [len_list]; omega)
      have hcut := cut_from s f r2 wr
      go_wp2_with (at_builtin; refine appS rfl (.tmp 49) (.tmp 53) rfl w _ _ rfl hown _ rfl rfl (by omega) ?_; intro v2 w2 hown2)
      go_ret
      refine ⟨_, rfl, ?_⟩
      rw [F.out]
      exact hown2
end Go.Proofs.YtmibgcbolnpffabDoor
