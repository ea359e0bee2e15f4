/- The contract of pieces: what the document's Pieces answers, each trimmed. -/
import Derived.Test.YtmibgcbolnpffabDoorPieces
namespace Go.Proofs.YtmibgcbolnpffabDoor
open Go.RowKit
set_option maxRecDepth 20000
theorem trimmedL (l : List UInt8) (w : World) (hl : l.length ≤ 140737488351232) :
    Calls Tryd.prog 48 #[.string ⟨l.toArray⟩] w fun e w' => e = .returned (.string ⟨(trimT l).toArray⟩) ∧ Below w.heap.size w w' :=
  trimmed ⟨l.toArray⟩ w (by show l.toArray.size ≤ _; rw [List.size_toArray]; exact hl)
theorem seg_small (s : ByteArray) (i f : Nat) (hs : s.size ≤ 4194304) : ((s.data.toList.drop f).take (i - f)).length ≤ 140737488351232 := by
  have := seg_len s.data.toList i f
  rw [len_list] at this
  omega
theorem rest_small (s : ByteArray) (f : Nat) (hs : s.size ≤ 4194304) : (s.data.toList.drop f).length ≤ 140737488351232 := by
  rw [List.length_drop, len_list]; omega
set_option maxHeartbeats 2000000 in
theorem piecesTok (s : ByteArray) (c : Int) (w : World) (hs : s.size ≤ 4194304) :
    Calls Tryd.prog 31 #[.string s, .int .u8 c] w fun e w' => ∃ v, e = .returned v ∧ OwnS w v ((pieces c s.data.toList).map trimT) w' := by
  go_enter Tryd.func31, Tryd.ntmps31
  go_wp2
  go_loopw [5, 6, 7, 8] (fun v fv qv iv wr => ∃ (i f : Nat) (q : Bool) (out : List (List UInt8)), iv = .int .i64 i ∧ fv = .int .i64 f ∧ qv = .bool q ∧ Hid (RelP c s.data.toList i f q out) ∧ OwnS w v (out.map trimT) wr) (fun _ _ _ iv _ => s.size + 2 - (intOf iv).toNat)
  case atStart => exact ⟨0, 0, false, [], rfl, rfl, rfl, relP_start _ _, ownS_nil _ _ (Below.refl _ _)⟩
  case round =>
    obtain ⟨i, f, q, out, rfl, rfl, rfl, hR, hown⟩ := hrel
    have r1 : f ≤ i := hR.out.1
    have r2 : f ≤ s.size := by have := hR.out.2.1; rwa [len_list] at this
    have r3 : i ≤ s.size + 1 := by have := hR.out.2.2.1; rwa [len_list] at this
    have r4 : (out.map trimT).length ≤ f := by rw [List.length_map]; exact hR.out.2.2.2.1
    by_cases hlt : i < s.size
    · have hb := byte_lt s[i]
      by_cases x34 : (s[i].toNat : Int) = 34
      · have R : Hid (RelP c s.data.toList (i + 1) f (!q) out) := relB_quote hR.out hlt x34
        have b34 : ((s[i].toNat : Int) == 34) = true := by simp [x34]
        clear x34
        cases q with
        | false =>
          go_wp2
          go_roundw
          case rel => exact ⟨i + 1, f, true, out, by go_num, rfl, rfl, R, hown⟩
          case measure => simp [intOf]; omega
        | true =>
          go_wp2
          go_roundw
          case rel => exact ⟨i + 1, f, false, out, by go_num, rfl, rfl, R, hown⟩
          case measure => simp [intOf]; omega
      · have b34 : ((s[i].toNat : Int) == 34) = false := by simp [x34]
        cases q with
        | true =>
          by_cases x92 : (s[i].toNat : Int) = 92
          · have R : Hid (RelP c s.data.toList (i + 2) f true out) := relB_esc hR.out hlt x92
            have b92 : ((s[i].toNat : Int) == 92) = true := by simp [x92]
            clear x34 x92
            go_wp2
            go_roundw
            case rel => exact ⟨i + 2, f, true, out, by go_num, rfl, rfl, R, hown⟩
            case measure => simp [intOf]; omega
          · have R : Hid (RelP c s.data.toList (i + 1) f true out) := relB_plain hR.out hlt x34 (by simp [x92]) (by simp)
            have b92 : ((s[i].toNat : Int) == 92) = false := by simp [x92]
            clear x34 x92
            go_wp2
            go_roundw
            case rel => exact ⟨i + 1, f, true, out, by go_num, rfl, rfl, R, hown⟩
            case measure => simp [intOf]; omega
        | false =>
          by_cases xc : (s[i].toNat : Int) = c
          · have R : Hid (RelP c s.data.toList (i + 1) (i + 1) false (out ++ [(s.data.toList.drop f).take (i - f)])) := relB_cut hR.out hlt x34 xc
            have bc : ((s[i].toNat : Int) == c) = true := by simp [xc]
            have hcut := cut_is s f i r1 (by omega) wr
            have hsm := seg_small s i f hs
            clear x34 xc
            generalize (s.data.toList.drop f).take (i - f) = p at R hcut hsm
            go_wp2_with (first
              | (go_at_call 48; refine (trimmedL p _ hsm).mono ?_; rintro e w1 ⟨rfl, hb1⟩; have hown1 := ownS_mono hown hb1; clear hown)
              | (at_builtin; refine appS rfl (.tmp 42) (.tmp 48) rfl w _ _ rfl hown1 (trimT p) rfl rfl (by omega) ?_; intro v2 w2 hown2))
            go_roundw
            case rel => exact ⟨i + 1, i + 1, false, _, by go_num, by go_num, rfl, R, by rw [List.map_append]; exact hown2⟩
            case measure => simp [intOf]; omega
          · have R : Hid (RelP c s.data.toList (i + 1) f false out) := relB_plain hR.out hlt x34 (by simp) (by simp [xc])
            have bc : ((s[i].toNat : Int) == c) = false := by simp [xc]
            clear x34 xc
            go_wp2
            go_roundw
            case rel => exact ⟨i + 1, f, false, out, by go_num, rfl, rfl, R, hown⟩
            case measure => simp [intOf]; omega
    · have F : Hid (pieces c s.data.toList = out ++ [s.data.toList.drop f]) := relP_done hR.out (by rw [len_list]; omega)
      have hcut := cut_from s f r2 wr
      have hsm := rest_small s f hs
      generalize s.data.toList.drop f = p at F hcut hsm
      go_wp2_with (first
        | (go_at_call 48; refine (trimmedL p _ hsm).mono ?_; rintro e w1 ⟨rfl, hb1⟩; have hown1 := ownS_mono hown hb1; clear hown)
        | (at_builtin; refine appS rfl (.tmp 52) (.tmp 57) rfl w _ _ rfl hown1 (trimT p) rfl rfl (by omega) ?_; intro v2 w2 hown2))
      go_ret
      refine ⟨_, rfl, ?_⟩
      rw [F.out, List.map_append]
      exact hown2
end Go.Proofs.YtmibgcbolnpffabDoor
