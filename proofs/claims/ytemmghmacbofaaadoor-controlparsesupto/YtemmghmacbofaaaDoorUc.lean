/- The contract of the document's Unquote: it returns what unqS says. -/
import Derived.Test.YtemmghmacbofaaaDoorUb
import Derived.Laws.DeepStrings4
namespace Go.Proofs.YtemmghmacbofaaaDoor
open Go.RowKit
set_option maxHeartbeats 1000000 in
theorem unquoteRef_not (s : ByteArray) (w : World) (hs : s.size ≤ 4194304) (hf : framed s = false) :
    Calls Tryd.prog 37 #[.string s] w fun e w' => e = .returned (.tuple #[.string ⟨(unqS s).1.toArray⟩, .int .i64 (unqS s).2]) ∧ Below w.heap.size w w' := by
  have F : Hid (unqS s = ([], 11)) := unqS_not hf
  by_cases h2 : s.size < 2
  · clear hf
    go_enter Tryd.func37, Tryd.ntmps37
    go_wp2
    go_ret2
    rw [F.out]
    exact ⟨rfl, Below.refl _ _⟩
  · have h3 : 2 ≤ s.size := by omega
    rw [framed_long h3] at hf
    clear h2
    by_cases c0 : (s[0].toNat : Int) = 34
    · have c1 : ¬ (s[s.size - 1].toNat : Int) = 34 := fun h => by simp [c0, h] at hf
      have b0 : ((s[0].toNat : Int) != 34) = false := by simp [c0]
      have b1 : ((s[s.size - 1].toNat : Int) != 34) = true := by simp [c1]
      clear c0 c1 hf
      go_enter Tryd.func37, Tryd.ntmps37
      go_wp2
      go_ret2
      rw [F.out]
      exact ⟨rfl, Below.refl _ _⟩
    · have b0 : ((s[0].toNat : Int) != 34) = true := by simp [c0]
      clear c0 hf
      go_enter Tryd.func37, Tryd.ntmps37
      go_wp2
      go_ret2
      rw [F.out]
      exact ⟨rfl, Below.refl _ _⟩
theorem cut_inner (s : ByteArray) (h3 : 2 ≤ s.size) (w : World) : ∃ t : ByteArray,
    Sem.run Tryd.prog (Instr.slice 9 (.string s) (some (.int .i64 1)) (some (.int .i64 ((s.size : Int) - 1))) none) w = .ok (.string t) w ∧ t.data.toList = inner s := by
  refine ⟨s.extract 1 (s.size - 1), ?_, ?_⟩
  · rw [run_slice_string (h := Tryd.underlying9)]
    · congr 2; congr 1; omega
    · omega
    · omega
    · omega
  · rw [extract_list]; unfold inner; rw [show s.size - 1 - 1 = s.size - 2 by omega]
section
variable {L : List UInt8} {t : ByteArray} {k : Nat} {o : List UInt8}
theorem list_at (ht : t.data.toList = L) (hk : k < t.size) : ∃ h : k < L.length, L[k] = t[k] := by
  subst ht
  exact ⟨by simpa using hk, by simp; rfl⟩
theorem len_of (ht : t.data.toList = L) : L.length = t.size := by subst ht; simp
end
set_option maxHeartbeats 1000000 in
theorem unquoteRef_yes (s : ByteArray) (w : World) (hs : s.size ≤ 4194304) (h3 : 2 ≤ s.size) (hf : framed s = true) :
    Calls Tryd.prog 37 #[.string s] w fun e w' => e = .returned (.tuple #[.string ⟨(unqS s).1.toArray⟩, .int .i64 (unqS s).2]) ∧ Below w.heap.size w w' := by
  have U : Hid (unqS s = unqR (inner s)) := unqS_is hf
  rw [framed_long h3] at hf
  have c0 : (s[0].toNat : Int) = 34 := (of_decide_eq_true hf).1
  have c1 : (s[s.size - 1].toNat : Int) = 34 := (of_decide_eq_true hf).2
  have b0 : ((s[0].toNat : Int) != 34) = false := by simp [c0]
  have b1 : ((s[s.size - 1].toNat : Int) != 34) = false := by simp [c1]
  clear c0 c1 hf
  obtain ⟨t, hcut, htl⟩ := cut_inner s h3 w
  have hts : t.size = s.size - 2 := by rw [← len_of htl, inner_len s h3]
  have T : Hid (t.data.toList = inner s) := htl
  have ts : t.size ≤ 4194304 := by omega
  clear htl hts
  go_enter Tryd.func37, Tryd.ntmps37
  go_wp2
  clear b0 b1 hcut
  go_loopw [5, 6] (fun v i wr => ∃ (k : Nat) (o : List UInt8), i = .int .i64 k ∧ Hid (RelU (inner s) k o) ∧ Own w v o wr) (fun _ i _ => t.size + 1 - (intOf i).toNat)
  case atStart => exact ⟨0, [], rfl, relU_start _, own_empty w⟩
  case round =>
    obtain ⟨k, o, rfl, hR, hown⟩ := hrel
    have hlen := len_of T.out
    have k2 : k ≤ t.size := by have := hR.out.1; omega
    have ol : o.length ≤ k := hR.out.2.1
    by_cases hlt : k < t.size
    · have hb := byte_lt t[k]
      obtain ⟨hk, he⟩ := list_at T.out hlt
      by_cases c92 : (t[k].toNat : Int) = 92
      · have b92 : ((t[k].toNat : Int) == 92) = true := by simp [c92]
        by_cases hl2 : k + 1 < t.size
        · have hb2 := byte_lt t[k + 1]
          obtain ⟨hk2, he2⟩ := list_at T.out hl2
          cases ht : txtI (t[k + 1].toNat : Int) with
          | false =>
            have F : Hid (unqR (inner s) = ([], 11)) := unqR_none (relU_escbad hR.out hk2 (by rw [he]; exact c92) (by rw [he2]; exact ht))
            clear c92 hlen he he2 hk hk2
            go_wp2_with (go_at_call 47; refine (textRef _ (by omega) (by omega) _).mono ?_; rintro e w' ⟨rfl, rfl⟩)
            go_ret2
            rw [U.out, F.out]
            exact ⟨rfl, hown.2⟩
          | true =>
            have F : Hid (RelU (inner s) (k + 2) (o ++ [t[k + 1]])) := by
              have := relU_esc hR.out hk2 (by rw [he]; exact c92) (by rw [he2]; exact ht)
              rw [he2] at this; exact this
            clear c92 hlen he he2 hk hk2
            go_wp2_with (first
              | (go_at_call 47; refine (textRef _ (by omega) (by omega) _).mono ?_; rintro e w' ⟨rfl, rfl⟩)
              | (at_builtin; refine app1 rfl (.tmp 55) (.tmp 57) rfl w _ _ rfl hown t[k + 1] rfl rfl (by omega) ?_; intro v2 w2 hown2))
            go_roundw
            case rel => exact ⟨k + 2, _, by go_num, F, hown2⟩
            case measure => simp [intOf]; omega
        · have F : Hid (unqR (inner s) = ([], 11)) := unqR_none (relU_end hR.out (by omega) (by rw [he]; exact c92))
          have hl3 : t.size ≤ k + 1 := by omega
          clear c92 hlen he hk
          go_wp2
          go_ret2
          rw [U.out, F.out]
          exact ⟨rfl, hown.2⟩
      · have b92 : ((t[k].toNat : Int) == 92) = false := by simp [c92]
        by_cases c34 : (t[k].toNat : Int) = 34
        · have F : Hid (unqR (inner s) = ([], 11)) := unqR_none (relU_quote hR.out hk (by rw [he]; exact c34))
          have b34 : ((t[k].toNat : Int) == 34) = true := by simp [c34]
          clear c34 c92 hlen he hk
          go_wp2
          go_ret2
          rw [U.out, F.out]
          exact ⟨rfl, hown.2⟩
        · have b34 : ((t[k].toNat : Int) == 34) = false := by simp [c34]
          cases ht : txtI (t[k].toNat : Int) with
          | false =>
            have F : Hid (unqR (inner s) = ([], 11)) := unqR_none (relU_bad hR.out hk (by rw [he]; exact c92) (by rw [he]; exact c34) (by rw [he]; exact ht))
            clear c92 c34 hlen he hk
            go_wp2_with (go_at_call 47; refine (textRef _ (by omega) (by omega) _).mono ?_; rintro e w' ⟨rfl, rfl⟩)
            go_ret2
            rw [U.out, F.out]
            exact ⟨rfl, hown.2⟩
          | true =>
            have F : Hid (RelU (inner s) (k + 1) (o ++ [t[k]])) := by
              have := relU_plain hR.out hk (by rw [he]; exact c92) (by rw [he]; exact c34) (by rw [he]; exact ht)
              rw [he] at this; exact this
            clear c92 c34 hlen he hk
            go_wp2_with (first
              | (go_at_call 47; refine (textRef _ (by omega) (by omega) _).mono ?_; rintro e w' ⟨rfl, rfl⟩)
              | (at_builtin; refine app1 rfl (.tmp 55) (.tmp 57) rfl w _ _ rfl hown t[k] rfl rfl (by omega) ?_; intro v2 w2 hown2))
            go_roundw
            case rel => exact ⟨k + 1, _, by go_num, F, hown2⟩
            case measure => simp [intOf]; omega
    · have F : Hid (unqR (inner s) = (o, 0)) := unqR_some (relU_done hR.out (by omega))
      have hcv := own_conv hown
      clear hlen
      go_wp2
      go_ret2
      rw [U.out, F.out]
      exact ⟨rfl, hown.2⟩
theorem unquoteRef (s : ByteArray) (w : World) (hs : s.size ≤ 4194304) :
    Calls Tryd.prog 37 #[.string s] w fun e w' => e = .returned (.tuple #[.string ⟨(unqS s).1.toArray⟩, .int .i64 (unqS s).2]) ∧ Below w.heap.size w w' := by
  cases hf : framed s with
  | false => exact unquoteRef_not s w hs hf
  | true =>
    have h3 : 2 ≤ s.size := by
      by_cases h : 2 ≤ s.size
      · exact h
      · rw [framed_short (by omega)] at hf; simp at hf
    exact unquoteRef_yes s w hs h3 hf
end Go.Proofs.YtemmghmacbofaaaDoor
