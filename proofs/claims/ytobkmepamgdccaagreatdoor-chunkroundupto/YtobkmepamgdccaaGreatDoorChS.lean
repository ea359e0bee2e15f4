/- The contracts of textByte, isText; of ParseUint at base sixteen. -/
import Derived.Test.YtobkmepamgdccaaGreatDoorChT
import Derived.Test.YtobkmepamgdccaaGreatDoorEr
import Derived.Test.YtobkmepamgdccaaGreatDoorBc
import Derived.Test.YtobkmepamgdccaaGreatDoorShelfI
import Derived.Shelf.Strconv.ToError
import Derived.Shelf.Strconv.ToErrorRange
import Derived.Lib.ParseIntBMem
import Derived.Lib.ConvBytes
import Derived.Laws.Strings3
import Derived.Laws.Closers25
import Derived.Laws.Closers25b
import Derived.BigCall
import Derived.BigGuard
namespace Go.Proofs.YtobkmepamgdccaaGreatDoor
open Go.RowKit
set_option maxHeartbeats 400000 in
theorem textChk (c : Int) (h0 : 0 ≤ c) (h1 : c ≤ 255) (w : World) :
    Calls Tryz.prog 68 #[.int .u8 c] w fun e w' => e = .returned (.bool (txtI c)) ∧ w' = w := by
  by_cases a1 : c = 9
  · subst a1
    have H : Hid (txtI 9 = true) := rfl
    go_enter Tryz.func68, Tryz.ntmps68
    go_wp2
    go_ret
    rw [H.out]
    exact ⟨rfl, rfl⟩
  · by_cases a2 : 32 ≤ c
    · by_cases a3 : c = 127
      · subst a3
        have H : Hid (txtI 127 = false) := rfl
        go_enter Tryz.func68, Tryz.ntmps68
        go_wp2
        go_ret
        rw [H.out]
        exact ⟨rfl, rfl⟩
      · have b1 : (c == 9) = false := by simpa using a1
        have b2 : (c != 127) = true := by simpa using a3
        have H : Hid (txtI c = true) := by unfold Hid txtI; simp; omega
        go_enter Tryz.func68, Tryz.ntmps68
        go_wp2
        go_ret
        rw [H.out]
        exact ⟨rfl, rfl⟩
    · have b1 : (c == 9) = false := by simpa using a1
      have b2 : decide (32 ≤ c) = false := by simpa using a2
      have H : Hid (txtI c = false) := by unfold Hid txtI; simp; omega
      go_enter Tryz.func68, Tryz.ntmps68
      go_wp2
      go_ret
      rw [H.out]
      exact ⟨rfl, rfl⟩
theorem txt_bad (s : ByteArray) (k : Nat) (h : k < s.size) (hc : txt s[k] = false) : s.data.toList.all txt = false := all_false s.data.toList k (by simpa using h) hc
theorem txt_end (s : ByteArray) (k : Nat) (h : s.size ≤ k) (ha : (s.data.toList.take k).all txt = true) : s.data.toList.all txt = true := by
  rwa [take_all s k h] at ha
set_option maxRecDepth 20000 in
set_option maxHeartbeats 1000000 in
theorem isTextC (s : ByteArray) (w : World) (hs : s.size ≤ 140737488351232) :
    Calls Tryz.prog 54 #[.string s] w fun e w' => e = .returned (.bool (s.data.toList.all txt)) ∧ w' = w := by
  obtain ⟨gb, hgb⟩ : ∃ gb, gb = s.data.toList.all txt := ⟨_, rfl⟩
  have HG := hide' hgb
  rw [← hgb]
  clear hgb
  go_enter Tryz.func54, Tryz.ntmps54
  go_wp2_with fail
  go_loop [6] (fun i => ∃ k : Nat, k ≤ s.size ∧ i = .int .i64 k ∧ Hid ((s.data.toList.take k).all txt = true)) (fun i => s.size - (intOf i).toNat)
  case atStart => exact ⟨0, by omega, rfl, by unfold Hid; simp⟩
  case round =>
    obtain ⟨k, hk, rfl, ha⟩ := hrel
    by_cases hlt : k < s.size
    · have hb := byte_lt s[k]
      cases ht : txtI (s[k].toNat : Int) with
      | true =>
        have A := hide' (all_step s k hlt ht ha.out)
        go_wp2_with (go_at_call 68; refine (textChk _ (by omega) (by omega) _).mono ?_; rintro e w' ⟨rfl, rfl⟩)
        go_round
        case rel => exact ⟨k + 1, by omega, by go_num, A⟩
        case measure => simp [intOf]; omega
      | false =>
        have F := hide' (HG.out.trans (txt_bad s k hlt ht))
        go_wp2_with (go_at_call 68; refine (textChk _ (by omega) (by omega) _).mono ?_; rintro e w' ⟨rfl, rfl⟩)
        go_ret
        rw [F.out]
        exact ⟨rfl, rfl⟩
    · have F := hide' (HG.out.trans (txt_end s k (by omega) ha.out))
      go_wp2_with fail
      go_ret
      rw [F.out]
      exact ⟨rfl, rfl⟩
/-! ParseUint at base sixteen -/
set_option maxRecDepth 100000 in
theorem phEmpty (w : World) : Calls Tryz.prog 66 #[.string ⟨#[]⟩, .int .i64 16, .int .i64 64] w fun e w' => e = .returned (.tuple #[.int .u64 0, .iface 96 (.int .i64 2)]) ∧ w' = w := by
  go_enter Tryz.func66, Tryz.ntmps66
  go_wp2
  go_ret2
  exact ⟨rfl, rfl⟩
theorem low_facts : ∀ n : Fin 256, (hexI (n.val : Int) = if 48 ≤ n.val ∧ n.val ≤ 57 then (n.val : Int) - 48 else if 97 ≤ bits .or .u8 (n.val : Int) 32 ∧ bits .or .u8 (n.val : Int) 32 ≤ 102 then bits .or .u8 (n.val : Int) 32 - 87 else -1) := by decide +kernel
/-- what is gathered of the first k digits -/
def Ph (bs : List UInt8) (k : Nat) (a : Int) : Prop := 0 ≤ a ∧ a ≤ 18446744073709551615 ∧ (bs.take k).all isHex = true ∧ (k ≤ 15 → a = (hexS (bs.take k) : Int))
theorem ph_small {bs : List UInt8} {k : Nat} {a : Int} (h : Ph bs k a) (hc : 1152921504606846976 ≤ a) : 15 < k := by
  obtain ⟨_, _, _, h4⟩ := h
  rcases Nat.lt_or_ge 15 k with h5 | h5
  · exact h5
  · have e := h4 h5
    have h6 := hexS_lt (bs.take k)
    have h7 : 16 ^ (bs.take k).length ≤ 16 ^ 15 := Nat.pow_le_pow_right (by decide) (by rw [List.length_take]; omega)
    have h8 : (16 : Nat) ^ 15 = 1152921504606846976 := by decide
    omega
theorem ph_next {bs : List UInt8} {k : Nat} {a d : Int} (h : Ph bs k a) (hk : k < bs.length) (hd : hexI (bs[k].toNat : Int) = d) (d0 : 0 ≤ d) (hc : a < 1152921504606846976) : Ph bs (k + 1) (a * 16 + d) := by
  obtain ⟨h1, h2, h3, h4⟩ := h
  have hd2 := hexI_le bs[k]
  rw [hd] at hd2
  have hx : isHex bs[k] = true := by unfold isHex; rw [hd]; exact decide_eq_true d0
  refine ⟨by omega, by omega, ?_, fun hk15 => ?_⟩
  · rw [List.take_succ_eq_append_getElem hk, List.all_append, h3]
    simp [hx]
  · rw [h4 (by omega), List.take_succ_eq_append_getElem hk]
    have e : hexS (bs.take k ++ [bs[k]]) = hexS (bs.take k) * 16 + (hexI (bs[k].toNat : Int)).toNat := by unfold hexS; rw [List.foldl_append]; rfl
    rw [e, hd]
    omega
theorem ph_bad {bs : List UInt8} {k : Nat} (hk : k < bs.length) (hd : hexI (bs[k].toNat : Int) = -1) : bs.all isHex = false := by
  rw [List.all_eq_false]
  exact ⟨bs[k], List.getElem_mem _, by unfold isHex; rw [hd]; decide⟩
theorem ph_end {bs : List UInt8} {k : Nat} {a : Int} (h : Ph bs k a) (hk : bs.length ≤ k) (hk2 : k ≤ bs.length) : bs.all isHex = true ∧ (bs.length ≤ 15 → a = (hexS bs : Int)) := by
  obtain ⟨_, _, h3, h4⟩ := h
  rw [List.take_of_length_le hk] at h3 h4
  exact ⟨h3, fun h => h4 (by omega)⟩
/-- what ParseUint tells of bytes: the number, that it is none, or that it is too great -/
def PhR (bs : List UInt8) (e : Ending) : Prop :=
  (∃ a : Int, e = .returned (.tuple #[.int .u64 a, .nilIface]) ∧ 0 ≤ a ∧ a ≤ 18446744073709551615 ∧ bs.all isHex = true ∧ 0 < bs.length ∧ (bs.length ≤ 15 → a = (hexS bs : Int))) ∨
  (e = .returned (.tuple #[.int .u64 0, .iface 96 (.int .i64 2)]) ∧ (bs.all isHex = false ∨ bs.length = 0)) ∨
  (e = .returned (.tuple #[.int .u64 18446744073709551615, .iface 96 (.int .i64 1)]) ∧ 15 < bs.length)
set_option maxHeartbeats 32000000 in
set_option maxRecDepth 100000 in
theorem phSome (t : ByteArray) (hne : t.size ≠ 0) (hmax : t.size ≤ 9223372036854775806) (w : World) :
    Calls Tryz.prog 66 #[.string t, .int .i64 16, .int .i64 64] w fun e w' => PhR t.data.toList e ∧ w' = Lib.bytesWorld w 5 t := by
  have hemp : t.toList.isEmpty = false := by
    rw [← decide_eq_emptyBytes]
    exact decide_eq_false (fun h => hne (by rw [h]; rfl))
  have hcv := Lib.run_convert_string_bytes (P := Tryz.prog) w 9 22 5 t (u := .string) Tryz.underlying9 Tryz.underlying22 Tryz.underlying5
  have hB : ∀ j, j < t.size → (Lib.bytesWorld w 5 t).cell? ⟨w.heap.size, j, none⟩ = some (.int .u8 (t.data.toList.getD j 0).toNat) := fun j hj => Lib.bytesWorld_cell w 5 t j hj
  generalize Lib.bytesWorld w 5 t = W1 at hcv hB ⊢
  obtain ⟨bs, hL⟩ : ∃ bs, bs = t.data.toList := ⟨_, rfl⟩
  have LN : Hid (bs.length = t.size) := by unfold Hid; rw [hL, Lib.size_eq]
  rw [← hL] at hB ⊢
  have CB := hide' hB
  clear hL hB
  have hmv : IntKind.u64.wrap (IntKind.u64.wrap 18446744073709551616 - 1) = 18446744073709551615 := by
    rw [IntKind.wrap_u64, IntKind.wrap_u64]
    decide
  go_enter Tryz.func66, Tryz.ntmps66
  go_wp2
  go_loop [12, 13, 101] (fun vu vn vi => ∃ (k : Nat) (a : Int), vu = .bool false ∧ vn = .int .u64 a ∧ vi = .int .i64 k ∧ k ≤ t.size ∧ (0 ≤ a ∧ a ≤ 18446744073709551615) ∧ Hid (Ph bs k a)) (fun _ _ vi => t.size - (intOf vi).toNat)
  case atStart => exact ⟨0, 0, rfl, rfl, rfl, Nat.zero_le _, ⟨by omega, by omega⟩, ⟨by omega, by omega, rfl, fun _ => rfl⟩⟩
  case round =>
    obtain ⟨k, a, rfl, rfl, rfl, hk, ⟨a0, a1⟩, P⟩ := hrel
    by_cases hkn : k < t.size
    · have G : Hid (k < bs.length) := by unfold Hid; rw [LN.out]; exact hkn
      have hc := CB.out k hkn
      have hget : bs.getD k 0 = bs[k]'G.out := by simp [List.getD, List.getElem?_eq_getElem G.out]
      rw [hget] at hc
      clear hget
      have X1 := hide' (fun h => ph_small P.out h)
      have X3 := hide' (fun d => ph_next (d := d) P.out G.out)
      have X4 := hide' (ph_bad G.out)
      have hc256 : (bs[k]'G.out).toNat < 256 := (bs[k]'G.out).toNat_lt
      have LF := low_facts ⟨(bs[k]'G.out).toNat, hc256⟩
      simp only at LF
      generalize (bs[k]'G.out).toNat = c at hc X1 X3 X4 hc256 LF
      by_cases hd : 48 ≤ c ∧ c ≤ 57
      · obtain ⟨d0, d1⟩ := hd
        rw [if_pos ⟨d0, d1⟩] at LF
        by_cases hcut : 1152921504606846976 ≤ a
        · have R := hide' (X1.out hcut)
          clear X1 X3 X4 P LF
          go_wp2
          go_ret2
          exact ⟨.inr (.inr ⟨rfl, by have := R.out; have := G.out; omega⟩), rfl⟩
        · have icut : a < 1152921504606846976 := by omega
          have R := hide' (X3.out _ LF (by omega) icut)
          clear X1 X3 X4 P hcut LF
          have iov : a * 16 + ((c : Int) - 48) ≤ 18446744073709551615 := by omega
          go_wp2
          refine ⟨⟨k + 1, a * 16 + ((c : Int) - 48), rfl, (by first | rfl | (congr 1; omega)), (by first | rfl | (congr 1; omega)), by omega, ⟨by omega, by omega⟩, R⟩, by simp [intOf]; omega⟩
      · by_cases h95 : c = 95
        · subst h95
          have R := hide' (X4.out (by decide))
          have hu0 := bits_lo_u8 .or 95 32
          have hu1 := bits_hi_u8 .or 95 32
          have b95 : bits .or .u8 95 32 = 127 := by decide +kernel
          clear X1 X3 X4 P LF hd
          go_wp2_with (go_at_call 83; refine (lowC _ _).mono ?_; rintro e w' ⟨rfl, rfl⟩)
          all_goals go_ret2
          all_goals exact ⟨.inr (.inl ⟨rfl, .inl R.out⟩), rfl⟩
        have q95 : ((c : Int) == 95) = false := by simp; omega
        have q95' : (c == 95) = false := by simpa using h95
        rw [if_neg hd] at LF
        have hv0 := bits_lo_u8 .or (c : Int) 32
        have hv1 := bits_hi_u8 .or (c : Int) 32
        have cL := fun W => lowC (c : Int) W
        generalize bits .or .u8 (c : Int) 32 = v at LF hv0 hv1 cL
        have CL := hide' cL
        clear cL h95
        by_cases hv : 97 ≤ v ∧ v ≤ 102
        · rw [if_pos hv] at LF
          obtain ⟨v0, v1⟩ := hv
          by_cases hcut : 1152921504606846976 ≤ a
          · have R := hide' (X1.out hcut)
            clear X1 X3 X4 P LF
            go_wp2_with (go_at_call 83; refine (CL.out _).mono ?_; rintro e w' ⟨rfl, rfl⟩)
            all_goals go_ret2
            all_goals exact ⟨.inr (.inr ⟨rfl, by have := R.out; have := G.out; omega⟩), rfl⟩
          · have icut : a < 1152921504606846976 := by omega
            have R := hide' (X3.out _ LF (by omega) icut)
            clear X1 X3 X4 P hcut LF
            have iov : a * 16 + (v - 87) ≤ 18446744073709551615 := by omega
            go_wp2_with (go_at_call 83; refine (CL.out _).mono ?_; rintro e w' ⟨rfl, rfl⟩)
            all_goals refine ⟨⟨k + 1, a * 16 + (v - 87), rfl, (by first | rfl | (congr 1; omega)), (by first | rfl | (congr 1; omega)), by omega, ⟨by omega, by omega⟩, R⟩, by simp [intOf]; omega⟩
        · rw [if_neg hv] at LF
          have R := hide' (X4.out LF)
          clear X1 X3 X4 P LF
          go_wp2_with (go_at_call 83; refine (CL.out _).mono ?_; rintro e w' ⟨rfl, rfl⟩)
          all_goals go_ret2
          all_goals exact ⟨.inr (.inl ⟨rfl, .inl R.out⟩), rfl⟩
    · have R := hide' (ph_end P.out (by rw [LN.out]; omega) (by rw [LN.out]; exact hk))
      have N0 : Hid (0 < bs.length) := by unfold Hid; rw [LN.out]; omega
      clear P
      go_wp2
      go_ret2
      exact ⟨.inl ⟨a, rfl, a0, a1, R.out.1, N0.out, R.out.2⟩, rfl⟩
end Go.Proofs.YtobkmepamgdccaaGreatDoor
