/- The contract of tok.Unquote: it returns what unqS says. -/
import Derived.Test.YtemmghmacbofaaaDoorUa
namespace Go.Proofs.YtemmghmacbofaaaDoor
open Go.RowKit
set_option maxHeartbeats 1000000 in
theorem unquoteTok_not (s : ByteArray) (w : World) (hs : s.size ≤ 4194304) (hf : framed s = false) :
    Calls Tryd.prog 43 #[.string s] w fun e w' => e = .returned (.tuple #[.string ⟨(unqS s).1.toArray⟩, .int .i64 (unqS s).2]) ∧ Below w.heap.size w w' := by
  have F : Hid (unqS s = ([], 11)) := unqS_not hf
  by_cases h2 : s.size < 2
  · clear hf
    go_enter Tryd.func43, Tryd.ntmps43
    go_wp2
    go_ret2
    rw [F.out]
    exact ⟨rfl, Below.refl _ _⟩
  · have h3 : 2 ≤ s.size := by omega
    rw [framed_long h3] at hf
    clear h2
    by_cases c0 : (s[0].toNat : Int) = 34
    · have c1 : ¬ (s[s.size - 1].toNat : Int) = 34 := fun h => by simp [c0, h] at hf
      have b0 : ((s[0].toNat : Int) != 34) = false := by simp [c0]
      have b1 : ((s[s.size - 1].toNat : Int) != 34) = true := by simp [c1]
      clear c0 c1 hf
      go_enter Tryd.func43, Tryd.ntmps43
      go_wp2
      go_ret2
      rw [F.out]
      exact ⟨rfl, Below.refl _ _⟩
    · have b0 : ((s[0].toNat : Int) != 34) = true := by simp [c0]
      clear c0 hf
      go_enter Tryd.func43, Tryd.ntmps43
      go_wp2
      go_ret2
      rw [F.out]
      exact ⟨rfl, Below.refl _ _⟩
set_option maxHeartbeats 1000000 in
theorem unquoteTok_yes (s : ByteArray) (w : World) (hs : s.size ≤ 4194304) (h3 : 2 ≤ s.size) (hf : framed s = true) :
    Calls Tryd.prog 43 #[.string s] w fun e w' => e = .returned (.tuple #[.string ⟨(unqS s).1.toArray⟩, .int .i64 (unqS s).2]) ∧ Below w.heap.size w w' := by
  have U : Hid (unqS s = unqR (inner s)) := unqS_is hf
  rw [framed_long h3] at hf
  have c0 : (s[0].toNat : Int) = 34 := (of_decide_eq_true hf).1
  have c1 : (s[s.size - 1].toNat : Int) = 34 := (of_decide_eq_true hf).2
  have b0 : ((s[0].toNat : Int) != 34) = false := by simp [c0]
  have b1 : ((s[s.size - 1].toNat : Int) != 34) = false := by simp [c1]
  clear c0 c1 hf
  go_enter Tryd.func43, Tryd.ntmps43
  go_wp2
  clear b0 b1
  go_loopw [5, 6] (fun v i wr => ∃ (k : Nat) (o : List UInt8), i = .int .i64 k ∧ Hid (RelT s k o) ∧ Own w v o wr) (fun _ i _ => s.size - (intOf i).toNat)
  case atStart => exact ⟨1, [], rfl, relT_start s h3, own_nil _ _ (Below.refl _ _)⟩
  case round =>
    obtain ⟨k, o, rfl, hR, hown⟩ := hrel
    have k1 : 1 ≤ k := hR.out.1
    have k2 : k + 1 ≤ s.size := hR.out.2.1
    have ol := relT_len hR.out
    by_cases hlt : k + 1 < s.size
    · have hb := byte_lt s[k]
      by_cases c34 : (s[k].toNat : Int) = 34
      · have F : Hid (unqR (inner s) = ([], 11)) := relT_quote hR.out hlt c34
        have b34 : ((s[k].toNat : Int) == 34) = true := by simp [c34]
        clear c34
        go_wp2
        go_ret2
        rw [U.out, F.out]
        exact ⟨rfl, hown.2⟩
      · have b34 : ((s[k].toNat : Int) == 34) = false := by simp [c34]
        by_cases c92 : (s[k].toNat : Int) = 92
        · have b92 : ((s[k].toNat : Int) == 92) = true := by simp [c92]
          by_cases hl2 : k + 2 = s.size
          · have F : Hid (unqR (inner s) = ([], 11)) := relT_end hR.out hl2 c92
            have bl : ((k : Int) + 1 == (s.size : Int) - 1) = true := by simp; omega
            have hl3 : s.size ≤ k + 2 := by omega
            clear c92 c34 hl2
            go_wp2
            go_ret2
            rw [U.out, F.out]
            exact ⟨rfl, hown.2⟩
          · have hl3 : k + 2 < s.size := by omega
            have bl : ((k : Int) + 1 == (s.size : Int) - 1) = false := by simp; omega
            have hb2 := byte_lt s[k + 1]
            cases ht : txtI (s[k + 1].toNat : Int) with
            | false =>
              have F : Hid (unqR (inner s) = ([], 11)) := relT_escbad hR.out hl3 c92 ht
              clear c92 c34 hl2
              go_wp2_with (go_at_call 51; refine (textTok _ (by omega) (by omega) _).mono ?_; rintro e w' ⟨rfl, rfl⟩)
              go_ret2
              rw [U.out, F.out]
              exact ⟨rfl, hown.2⟩
            | true =>
              have F : Hid (RelT s (k + 2) (o ++ [s[k + 1]])) := relT_esc hR.out hl3 c92 ht
              clear c92 c34 hl2
              go_wp2_with (first
                | (go_at_call 51; refine (textTok _ (by omega) (by omega) _).mono ?_; rintro e w' ⟨rfl, rfl⟩)
                | (at_builtin; refine app1 rfl (.tmp 48) (.tmp 52) rfl w _ _ rfl hown s[k + 1] rfl rfl (by omega) ?_; intro v2 w2 hown2))
              go_roundw
              case rel => exact ⟨k + 2, _, by go_num, F, hown2⟩
              case measure => simp [intOf]; omega
        · have b92 : ((s[k].toNat : Int) == 92) = false := by simp [c92]
          have bl : ((k : Int) == (s.size : Int) - 1) = false := by simp; omega
          cases ht : txtI (s[k].toNat : Int) with
          | false =>
            have F : Hid (unqR (inner s) = ([], 11)) := relT_bad hR.out hlt c92 c34 ht
            clear c92 c34
            go_wp2_with (go_at_call 51; refine (textTok _ (by omega) (by omega) _).mono ?_; rintro e w' ⟨rfl, rfl⟩)
            go_ret2
            rw [U.out, F.out]
            exact ⟨rfl, hown.2⟩
          | true =>
            have F : Hid (RelT s (k + 1) (o ++ [s[k]])) := relT_plain hR.out hlt c92 c34 ht
            clear c92 c34
            go_wp2_with (first
              | (go_at_call 51; refine (textTok _ (by omega) (by omega) _).mono ?_; rintro e w' ⟨rfl, rfl⟩)
              | (at_builtin; refine app1 rfl (.tmp 48) (.tmp 52) rfl w _ _ rfl hown s[k] rfl rfl (by omega) ?_; intro v2 w2 hown2))
            go_roundw
            case rel => exact ⟨k + 1, _, by go_num, F, hown2⟩
            case measure => simp [intOf]; omega
    · have F : Hid (unqR (inner s) = (o, 0)) := relT_done hR.out (by omega)
      have hcv := own_conv hown
      go_wp2
      go_ret2
      rw [U.out, F.out]
      exact ⟨rfl, hown.2⟩
theorem unquoteTok (s : ByteArray) (w : World) (hs : s.size ≤ 4194304) :
    Calls Tryd.prog 43 #[.string s] w fun e w' => e = .returned (.tuple #[.string ⟨(unqS s).1.toArray⟩, .int .i64 (unqS s).2]) ∧ Below w.heap.size w w' := by
  cases hf : framed s with
  | false => exact unquoteTok_not s w hs hf
  | true =>
    have h3 : 2 ≤ s.size := by
      by_cases h : 2 ≤ s.size
      · exact h
      · rw [framed_short (by omega)] at hf; simp at hf
    exact unquoteTok_yes s w hs h3 hf
end Go.Proofs.YtemmghmacbofaaaDoor
