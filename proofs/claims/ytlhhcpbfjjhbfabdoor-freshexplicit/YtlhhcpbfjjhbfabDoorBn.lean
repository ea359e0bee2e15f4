/- The contract of the library's Cut at the text of one equals sign. The contracts of textByte and of the document's Text. The contract of tok.Unquote: it returns what unqS says. The contract of tok.Unquote: it returns what unqS says. -/
import Derived.Test.YtlhhcpbfjjhbfabDoorBl
import Derived.Test.YtlhhcpbfjjhbfabDoorShelf
import Derived.Deep.QuietTactic
import Derived.BigQuiet
import Derived.Test.YtlhhcpbfjjhbfabDoorOwnB
import Derived.Test.YtlhhcpbfjjhbfabDoorBk
namespace Go.Proofs.YtlhhcpbfjjhbfabDoor
open Go.RowKit
theorem indexC (s : ByteArray) (w : World) :
    Calls Tryd.prog 76 #[.string s, .string ⟨#[61]⟩] w fun e w' => e = .returned (.int .i64 (Lib.indexByte s.data.toList 61)) ∧ w' = w :=
  Any.stringslite_Index_one Tryd.lays219 s 61 w
theorem cut_to (s : ByteArray) (t : Nat) (ht : t ≤ s.size) (w : World) :
    Sem.run Tryd.prog (Instr.slice 9 (.string s) none (some (.int .i64 t)) none) w = .ok (.string ⟨(s.data.toList.take t).toArray⟩) w := by
  rw [run_slice_string_to_if w 9 s .i64 t Tryd.underlying9, if_pos ⟨by omega, by omega⟩]
  congr 2
  have : (s.extract 0 t).data.toList = s.data.toList.take t := by simp [ByteArray.data_extract, List.extract_eq_take_drop]
  simp only [Int.toNat_natCast]
  rw [← this]
theorem cut_from1 (s : ByteArray) (f : Nat) (hf : f + 1 ≤ s.size) (w : World) :
    Sem.run Tryd.prog (Instr.slice 9 (.string s) (some (.int .i64 ((f : Int) + 1))) none none) w = .ok (.string ⟨(s.data.toList.drop (f + 1)).toArray⟩) w := by
  have := cut_from s (f + 1) hf w
  rwa [Int.natCast_add] at this
theorem ext_to (s : ByteArray) (k : Nat) : (⟨(s.data.toList.take k).toArray⟩ : ByteArray) = s.extract 0 k := by
  have : (s.extract 0 k).data.toList = s.data.toList.take k := by simp [ByteArray.data_extract, List.extract_eq_take_drop]
  rw [← this]
theorem ext_from (s : ByteArray) (k : Nat) : (⟨(s.data.toList.drop k).toArray⟩ : ByteArray) = s.extract k s.size := by
  have : (s.extract k s.size).data.toList = s.data.toList.drop k := by
    simp [ByteArray.data_extract, List.extract_eq_take_drop]
    exact List.take_of_length_le (by simp)
  rw [← this]
set_option maxHeartbeats 1000000 in
theorem cutYes (s : ByteArray) (w : World) (hs : s.size ≤ 4194304) (h : eqPos s.data.toList < s.size) :
    Calls Tryd.prog 65 #[.string s, .string ⟨#[61]⟩] w fun e w' => e = .returned (.tuple #[.string ⟨(s.data.toList.take (eqPos s.data.toList)).toArray⟩, .string ⟨(s.data.toList.drop (eqPos s.data.toList + 1)).toArray⟩, .bool true]) ∧ ∃ n, w' = w.drewN n := by
  have hc := indexC s w
  rw [index_eq, if_pos (by rw [len_list]; exact h)] at hc
  generalize eqPos s.data.toList = k at hc h ⊢
  have x1 : Hid ((⟨(s.data.toList.take k).toArray⟩ : ByteArray) = s.extract 0 k) := ext_to s k
  have x2 : Hid ((⟨(s.data.toList.drop (k + 1)).toArray⟩ : ByteArray) = s.extract (k + 1) s.size) := ext_from s (k + 1)
  have h0 : (0 : Int) ≤ k := by omega
  go_enter Tryd.func65, Tryd.ntmps65
  go_wp2_with fail
  refine hc.mono ?_
  clear hc
  rintro e w' ⟨rfl, rfl⟩
  go_wp2_with fail
  go_quiet (fail)
  go_wp2_with fail
  go_ret3
  rw [x1.out, x2.out]
  exact ⟨rfl, _, rfl⟩
set_option maxHeartbeats 1000000 in
theorem cutNo (s : ByteArray) (w : World) (h : ¬ eqPos s.data.toList < s.size) :
    Calls Tryd.prog 65 #[.string s, .string ⟨#[61]⟩] w fun e w' => e = .returned (.tuple #[.string s, .string ⟨#[]⟩, .bool false]) ∧ ∃ n, w' = w.drewN n := by
  have hc := indexC s w
  rw [index_eq, if_neg (by rw [len_list]; exact h)] at hc
  go_enter Tryd.func65, Tryd.ntmps65
  go_wp2_with fail
  refine hc.mono ?_
  clear hc
  rintro e w' ⟨rfl, rfl⟩
  go_wp2_with fail
  go_ret3
  exact ⟨rfl, 0, rfl⟩
set_option maxHeartbeats 1000000 in
theorem cutEq1 (s : ByteArray) (w : World) (hs : s.size ≤ 4194304) (h : eqPos s.data.toList < s.size) :
    Calls Tryd.prog 55 #[.string s, .string ⟨#[61]⟩] w fun e w' => e = .returned (.tuple #[.string ⟨(s.data.toList.take (eqPos s.data.toList)).toArray⟩, .string ⟨(s.data.toList.drop (eqPos s.data.toList + 1)).toArray⟩, .bool true]) ∧ ∃ n, w' = w.drewN n := by
  have hc := cutYes s w hs h
  generalize (s.data.toList.take (eqPos s.data.toList)).toArray = a at hc ⊢
  generalize (s.data.toList.drop (eqPos s.data.toList + 1)).toArray = b at hc ⊢
  clear h
  go_enter Tryd.func55, Tryd.ntmps55
  go_wp2_with fail
  refine hc.mono ?_
  clear hc
  rintro e w' ⟨rfl, n, rfl⟩
  go_wp2_with fail
  go_ret3
  exact ⟨rfl, n, rfl⟩
set_option maxHeartbeats 1000000 in
theorem cutEq0 (s : ByteArray) (w : World) (h : ¬ eqPos s.data.toList < s.size) :
    Calls Tryd.prog 55 #[.string s, .string ⟨#[61]⟩] w fun e w' => e = .returned (.tuple #[.string s, .string ⟨#[]⟩, .bool false]) ∧ ∃ n, w' = w.drewN n := by
  have hc := cutNo s w h
  clear h
  go_enter Tryd.func55, Tryd.ntmps55
  go_wp2_with fail
  refine hc.mono ?_
  clear hc
  rintro e w' ⟨rfl, n, rfl⟩
  go_wp2_with fail
  go_ret3
  exact ⟨rfl, n, rfl⟩
end Go.Proofs.YtlhhcpbfjjhbfabDoor
namespace Go.Proofs.YtlhhcpbfjjhbfabDoor
open Go.RowKit
set_option maxHeartbeats 400000 in
theorem textTokT (c : Int) (h0 : 0 ≤ c) (h1 : c ≤ 255) (w : World) :
    Calls Tryd.prog 67 #[.int .u8 c] w fun e w' => e = .returned (.bool (txtI c)) ∧ w' = w := by
  by_cases a1 : c = 9
  · subst a1
    have H : Hid (txtI 9 = true) := rfl
    go_enter Tryd.func67, Tryd.ntmps67
    go_wp2
    go_ret
    rw [H.out]
    exact ⟨rfl, rfl⟩
  · by_cases a2 : 32 ≤ c
    · by_cases a3 : c = 127
      · subst a3
        have H : Hid (txtI 127 = false) := rfl
        go_enter Tryd.func67, Tryd.ntmps67
        go_wp2
        go_ret
        rw [H.out]
        exact ⟨rfl, rfl⟩
      · have b1 : (c == 9) = false := by simpa using a1
        have b2 : (c != 127) = true := by simpa using a3
        have H : Hid (txtI c = true) := by unfold Hid txtI; simp; omega
        go_enter Tryd.func67, Tryd.ntmps67
        go_wp2
        go_ret
        rw [H.out]
        exact ⟨rfl, rfl⟩
    · have b1 : (c == 9) = false := by simpa using a1
      have b2 : decide (32 ≤ c) = false := by simpa using a2
      have H : Hid (txtI c = false) := by unfold Hid txtI; simp; omega
      go_enter Tryd.func67, Tryd.ntmps67
      go_wp2
      go_ret
      rw [H.out]
      exact ⟨rfl, rfl⟩
end Go.Proofs.YtlhhcpbfjjhbfabDoor
namespace Go.Proofs.YtlhhcpbfjjhbfabDoor
open Go.RowKit
/-- the loop of tok.Unquote: i is the next byte's place -/
def RelT (s : ByteArray) (i : Nat) (o : List UInt8) : Prop := 1 ≤ i ∧ i + 1 ≤ s.size ∧ RelU (inner s) (i - 1) o
theorem relT_start (s : ByteArray) (h : 2 ≤ s.size) : RelT s 1 [] := ⟨Nat.le_refl _, h, relU_start _⟩
theorem relT_len {s : ByteArray} {i : Nat} {o : List UInt8} (h : RelT s i o) : o.length ≤ i := by have := h.2.2.2.1; omega
section
variable {s : ByteArray} {i : Nat} {o : List UInt8}
theorem relT_at (h1 : 1 ≤ i) (hs : i + 1 < s.size) : ∃ hk : i - 1 < (inner s).length, (inner s)[i - 1] = s[i] := by
  have hl := inner_len s (by omega)
  refine ⟨by omega, ?_⟩
  rw [inner_at s (by omega) (i - 1) (by omega)]
  congr 1; omega
theorem relT_plain (h : RelT s i o) (hs : i + 1 < s.size) (h1 : ¬ (s[i].toNat : Int) = 92) (h2 : ¬ (s[i].toNat : Int) = 34) (h3 : txtI (s[i].toNat : Int) = true) : RelT s (i + 1) (o ++ [s[i]]) := by
  obtain ⟨a, b, c⟩ := h
  obtain ⟨hk, e⟩ := relT_at a hs
  rw [← e] at h1 h2 h3 ⊢
  have := relU_plain c hk h1 h2 h3
  exact ⟨by omega, by omega, by rw [show i + 1 - 1 = i - 1 + 1 by omega]; exact this⟩
theorem relT_esc (h : RelT s i o) (hs : i + 2 < s.size) (h1 : (s[i].toNat : Int) = 92) (h3 : txtI (s[i + 1].toNat : Int) = true) : RelT s (i + 2) (o ++ [s[i + 1]]) := by
  obtain ⟨a, b, c⟩ := h
  obtain ⟨hk, e⟩ := relT_at a (by omega : i + 1 < s.size)
  obtain ⟨hk2, e2⟩ := relT_at (s := s) (i := i + 1) (by omega) hs
  have e3 : (inner s)[i - 1 + 1]'(by omega) = s[i + 1] := by rw [← e2]; congr 1; omega
  rw [← e] at h1
  rw [← e3] at h3 ⊢
  have := relU_esc c (by omega) h1 h3
  exact ⟨by omega, by omega, by rw [show i + 2 - 1 = i - 1 + 2 by omega]; exact this⟩
theorem relT_quote (h : RelT s i o) (hs : i + 1 < s.size) (h2 : (s[i].toNat : Int) = 34) : unqR (inner s) = ([], 11) := by
  obtain ⟨a, b, c⟩ := h
  obtain ⟨hk, e⟩ := relT_at a hs
  rw [← e] at h2
  exact unqR_none (relU_quote c hk h2)
theorem relT_bad (h : RelT s i o) (hs : i + 1 < s.size) (h1 : ¬ (s[i].toNat : Int) = 92) (h2 : ¬ (s[i].toNat : Int) = 34) (h3 : txtI (s[i].toNat : Int) = false) : unqR (inner s) = ([], 11) := by
  obtain ⟨a, b, c⟩ := h
  obtain ⟨hk, e⟩ := relT_at a hs
  rw [← e] at h1 h2 h3
  exact unqR_none (relU_bad c hk h1 h2 h3)
theorem relT_end (h : RelT s i o) (hs : i + 2 = s.size) (h1 : (s[i].toNat : Int) = 92) : unqR (inner s) = ([], 11) := by
  obtain ⟨a, b, c⟩ := h
  have hl := inner_len s (by omega)
  obtain ⟨hk, e⟩ := relT_at a (by omega : i + 1 < s.size)
  rw [← e] at h1
  exact unqR_none (relU_end c (by omega) h1)
theorem relT_escbad (h : RelT s i o) (hs : i + 2 < s.size) (h1 : (s[i].toNat : Int) = 92) (h3 : txtI (s[i + 1].toNat : Int) = false) : unqR (inner s) = ([], 11) := by
  obtain ⟨a, b, c⟩ := h
  obtain ⟨hk, e⟩ := relT_at a (by omega : i + 1 < s.size)
  obtain ⟨hk2, e2⟩ := relT_at (s := s) (i := i + 1) (by omega) hs
  have e3 : (inner s)[i - 1 + 1]'(by omega) = s[i + 1] := by rw [← e2]; congr 1; omega
  rw [← e] at h1
  rw [← e3] at h3
  exact unqR_none (relU_escbad c (by omega) h1 h3)
theorem relT_done (h : RelT s i o) (hs : i + 1 = s.size) : unqR (inner s) = (o, 0) := by
  obtain ⟨a, b, c⟩ := h
  have hl := inner_len s (by omega)
  exact unqR_some (relU_done c (by omega))
end
theorem unqS_not {s : ByteArray} (h : framed s = false) : unqS s = ([], 11) := by unfold unqS; rw [h]; rfl
theorem unqS_is {s : ByteArray} (h : framed s = true) : unqS s = unqR (inner s) := by unfold unqS; rw [h]; rfl
theorem framed_short {s : ByteArray} (h : s.size < 2) : framed s = false := by unfold framed; rw [dif_neg (by omega)]
theorem framed_long {s : ByteArray} (h : 2 ≤ s.size) : framed s = decide ((s[0].toNat : Int) = 34 ∧ (s[s.size - 1].toNat : Int) = 34) := by unfold framed; rw [dif_pos h]
end Go.Proofs.YtlhhcpbfjjhbfabDoor
namespace Go.Proofs.YtlhhcpbfjjhbfabDoor
open Go.RowKit
set_option maxHeartbeats 1000000 in
theorem unquoteTok_not (s : ByteArray) (w : World) (hs : s.size ≤ 4194304) (hf : framed s = false) :
    Calls Tryd.prog 57 #[.string s] w fun e w' => e = .returned (.tuple #[.string ⟨(unqS s).1.toArray⟩, .int .i64 (unqS s).2]) ∧ Below w.heap.size w w' := by
  have F : Hid (unqS s = ([], 11)) := unqS_not hf
  by_cases h2 : s.size < 2
  · clear hf
    go_enter Tryd.func57, Tryd.ntmps57
    go_wp2
    go_ret2
    rw [F.out]
    exact ⟨rfl, Below.refl _ _⟩
  · have h3 : 2 ≤ s.size := by omega
    rw [framed_long h3] at hf
    clear h2
    by_cases c0 : (s[0].toNat : Int) = 34
    · have c1 : ¬ (s[s.size - 1].toNat : Int) = 34 := fun h => by simp [c0, h] at hf
      have b0 : ((s[0].toNat : Int) != 34) = false := by simp [c0]
      have b1 : ((s[s.size - 1].toNat : Int) != 34) = true := by simp [c1]
      clear c0 c1 hf
      go_enter Tryd.func57, Tryd.ntmps57
      go_wp2
      go_ret2
      rw [F.out]
      exact ⟨rfl, Below.refl _ _⟩
    · have b0 : ((s[0].toNat : Int) != 34) = true := by simp [c0]
      clear c0 hf
      go_enter Tryd.func57, Tryd.ntmps57
      go_wp2
      go_ret2
      rw [F.out]
      exact ⟨rfl, Below.refl _ _⟩
set_option maxRecDepth 20000 in
set_option maxHeartbeats 1000000 in
theorem unquoteTok_yes (s : ByteArray) (w : World) (hs : s.size ≤ 4194304) (h3 : 2 ≤ s.size) (hf : framed s = true) :
    Calls Tryd.prog 57 #[.string s] w fun e w' => e = .returned (.tuple #[.string ⟨(unqS s).1.toArray⟩, .int .i64 (unqS s).2]) ∧ Below w.heap.size w w' := by
  have U : Hid (unqS s = unqR (inner s)) := unqS_is hf
  rw [framed_long h3] at hf
  have c0 : (s[0].toNat : Int) = 34 := (of_decide_eq_true hf).1
  have c1 : (s[s.size - 1].toNat : Int) = 34 := (of_decide_eq_true hf).2
  have b0 : ((s[0].toNat : Int) != 34) = false := by simp [c0]
  have b1 : ((s[s.size - 1].toNat : Int) != 34) = false := by simp [c1]
  clear c0 c1 hf
  go_enter Tryd.func57, Tryd.ntmps57
  go_wp2
  clear b0 b1
  go_loopw [5, 6] (fun v i wr => ∃ (k : Nat) (o : List UInt8), i = .int .i64 k ∧ Hid (RelT s k o) ∧ Own w v o wr) (fun _ i _ => s.size - (intOf i).toNat)
  case atStart => exact ⟨1, [], rfl, relT_start s h3, own_nil _ _ (Below.refl _ _)⟩
  case round =>
    obtain ⟨k, o, rfl, hR, hown⟩ := hrel
    have k1 : 1 ≤ k := hR.out.1
    have k2 : k + 1 ≤ s.size := hR.out.2.1
    have ol := relT_len hR.out
    by_cases hlt : k + 1 < s.size
    · have hb := byte_lt s[k]
      by_cases c34 : (s[k].toNat : Int) = 34
      · have F : Hid (unqR (inner s) = ([], 11)) := relT_quote hR.out hlt c34
        have b34 : ((s[k].toNat : Int) == 34) = true := by simp [c34]
        clear c34
        go_wp2
        go_ret2
        rw [U.out, F.out]
        exact ⟨rfl, hown.2⟩
      · have b34 : ((s[k].toNat : Int) == 34) = false := by simp [c34]
        by_cases c92 : (s[k].toNat : Int) = 92
        · have b92 : ((s[k].toNat : Int) == 92) = true := by simp [c92]
          by_cases hl2 : k + 2 = s.size
          · have F : Hid (unqR (inner s) = ([], 11)) := relT_end hR.out hl2 c92
            have bl : ((k : Int) + 1 == (s.size : Int) - 1) = true := by simp; omega
            have hl3 : s.size ≤ k + 2 := by omega
            clear c92 c34 hl2
            go_wp2
            go_ret2
            rw [U.out, F.out]
            exact ⟨rfl, hown.2⟩
          · have hl3 : k + 2 < s.size := by omega
            have bl : ((k : Int) + 1 == (s.size : Int) - 1) = false := by simp; omega
            have hb2 := byte_lt s[k + 1]
            cases ht : txtI (s[k + 1].toNat : Int) with
            | false =>
              have F : Hid (unqR (inner s) = ([], 11)) := relT_escbad hR.out hl3 c92 ht
              clear c92 c34 hl2
              go_wp2_with (go_at_call 67; refine (textTokT _ (by omega) (by omega) _).mono ?_; rintro e w' ⟨rfl, rfl⟩)
              go_ret2
              rw [U.out, F.out]
              exact ⟨rfl, hown.2⟩
            | true =>
              have F : Hid (RelT s (k + 2) (o ++ [s[k + 1]])) := relT_esc hR.out hl3 c92 ht
              clear c92 c34 hl2
              go_wp2_with (first
                | (go_at_call 67; refine (textTokT _ (by omega) (by omega) _).mono ?_; rintro e w' ⟨rfl, rfl⟩)
                | (at_builtin; refine app1 rfl (.tmp 48) (.tmp 52) rfl w _ _ rfl hown s[k + 1] rfl rfl (by omega) ?_; intro v2 w2 hown2))
              go_roundw
              case rel => exact ⟨k + 2, _, by go_num, F, hown2⟩
              case measure => simp [intOf]; omega
        · have b92 : ((s[k].toNat : Int) == 92) = false := by simp [c92]
          have bl : ((k : Int) == (s.size : Int) - 1) = false := by simp; omega
          cases ht : txtI (s[k].toNat : Int) with
          | false =>
            have F : Hid (unqR (inner s) = ([], 11)) := relT_bad hR.out hlt c92 c34 ht
            clear c92 c34
            go_wp2_with (go_at_call 67; refine (textTokT _ (by omega) (by omega) _).mono ?_; rintro e w' ⟨rfl, rfl⟩)
            go_ret2
            rw [U.out, F.out]
            exact ⟨rfl, hown.2⟩
          | true =>
            have F : Hid (RelT s (k + 1) (o ++ [s[k]])) := relT_plain hR.out hlt c92 c34 ht
            clear c92 c34
            go_wp2_with (first
              | (go_at_call 67; refine (textTokT _ (by omega) (by omega) _).mono ?_; rintro e w' ⟨rfl, rfl⟩)
              | (at_builtin; refine app1 rfl (.tmp 48) (.tmp 52) rfl w _ _ rfl hown s[k] rfl rfl (by omega) ?_; intro v2 w2 hown2))
            go_roundw
            case rel => exact ⟨k + 1, _, by go_num, F, hown2⟩
            case measure => simp [intOf]; omega
    · have F : Hid (unqR (inner s) = (o, 0)) := relT_done hR.out (by omega)
      have hcv := own_conv hown
      go_wp2
      go_ret2
      rw [U.out, F.out]
      exact ⟨rfl, hown.2⟩
theorem unquoteTok (s : ByteArray) (w : World) (hs : s.size ≤ 4194304) :
    Calls Tryd.prog 57 #[.string s] w fun e w' => e = .returned (.tuple #[.string ⟨(unqS s).1.toArray⟩, .int .i64 (unqS s).2]) ∧ Below w.heap.size w w' := by
  cases hf : framed s with
  | false => exact unquoteTok_not s w hs hf
  | true =>
    have h3 : 2 ≤ s.size := by
      by_cases h : 2 ≤ s.size
      · exact h
      · rw [framed_short (by omega)] at hf; simp at hf
    exact unquoteTok_yes s w hs h3 hf
end Go.Proofs.YtlhhcpbfjjhbfabDoor
