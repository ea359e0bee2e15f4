/- The bodies of the library's functions that are met here are those that the kit's contracts were proved of: the tables of numbers, checked body by body. The contracts of textByte, isText; of ParseUint at base sixteen. The contracts of strconv.ParseUint at base sixteen and of sizeOf. What a decoder's block holds; the contract of readSize. The contracts of readData, trailersLength, readTrailers. The contracts of read and Decode. -/
import Derived.Shelf.Small.Wraps
import Derived.Shelf.Bytes.SlIndexAt
import Derived.Test.YtmikgpmnffdnnaaGreatDoorProg
import Derived.Test.YtmikgpmnffdnnaaGreatDoorBk
import Derived.Test.YtmikgpmnffdnnaaGreatDoorBj
import Derived.Test.YtmikgpmnffdnnaaGreatDoorBc
import Derived.Shelf.Strconv.ToError
import Derived.Shelf.Strconv.ToErrorRange
import Derived.Lib.ParseIntBMem
import Derived.Lib.ConvBytes
import Derived.Laws.Strings3
import Derived.Laws.Closers25
import Derived.Laws.Closers25b
import Derived.BigCall
import Derived.BigGuard
import Derived.Test.YtmikgpmnffdnnaaGreatDoorBd
import Derived.Test.YtmikgpmnffdnnaaGreatDoorBf
import Derived.Deep.RegionLaw
import Derived.Deep.QuietTactic
import Derived.BigQuiet
namespace Go.Proofs
open Go.Shelf
def Tryz.lays104_ren : Go.Shelf.Ren := ⟨fun | 104 => 168 | 211 => 188 | 207 => 195 | n => n, fun | 9 => 9 | 4 => 4 | 24 => 115 | 3 => 3 | n => n, fun | n => n⟩
theorem Tryz.lays104 : Go.Proofs.Lays.n104 Tryz.prog Tryz.lays104_ren := {
  mixed := by kernel_rfl
  f104 := Tryz.func168.trans (congrArg some (by kernel_rfl))
  f207 := Tryz.func195.trans (congrArg some (by kernel_rfl))
  f211 := Tryz.func188.trans (congrArg some (by kernel_rfl))
  t3 := Tryz.underlying3
  a3 := Tryz.isAgg3
  z3 := Tryz.sizeOf3
  v3 := Tryz.zeroValue3
  t4 := Tryz.underlying4
  a4 := Tryz.isAgg4
  z4 := Tryz.sizeOf4
  v4 := Tryz.zeroValue4
  t9 := Tryz.underlying9
  a9 := Tryz.isAgg9
  z9 := Tryz.sizeOf9
  v9 := Tryz.zeroValue9
  t24 := Tryz.underlying115
  a24 := Tryz.isAgg115
  z24 := Tryz.sizeOf115
  v24 := Tryz.zeroValue115 }
def Tryz.lays187_ren : Go.Shelf.Ren := ⟨fun | 187 => 103 | 255 => 130 | n => n, fun | 37 => 22 | 5 => 5 | 3 => 3 | n => n, fun | n => n⟩
theorem Tryz.lays187 : Go.Proofs.Lays.n187 Tryz.prog Tryz.lays187_ren := {
  mixed := by kernel_rfl
  f187 := Tryz.func103.trans (congrArg some (by kernel_rfl))
  f255 := Tryz.func130.trans (congrArg some (by kernel_rfl))
  t3 := Tryz.underlying3
  a3 := Tryz.isAgg3
  z3 := Tryz.sizeOf3
  v3 := Tryz.zeroValue3
  t5 := Tryz.underlying5
  a5 := Tryz.isAgg5
  z5 := Tryz.sizeOf5
  v5 := Tryz.zeroValue5
  t37 := Tryz.underlying22
  a37 := Tryz.isAgg22
  z37 := Tryz.sizeOf22
  v37 := Tryz.zeroValue22 }
end Go.Proofs
namespace Go.Proofs.YtmikgpmnffdnnaaGreatDoor
open Go.RowKit
set_option maxHeartbeats 400000 in
theorem textChk (c : Int) (h0 : 0 ≤ c) (h1 : c ≤ 255) (w : World) :
    Calls Tryz.prog 196 #[.int .u8 c] w fun e w' => e = .returned (.bool (txtI c)) ∧ w' = w := by
  by_cases a1 : c = 9
  · subst a1
    have H : Hid (txtI 9 = true) := rfl
    go_enter Tryz.func196, Tryz.ntmps196
    go_wp2
    go_ret
    rw [H.out]
    exact ⟨rfl, rfl⟩
  · by_cases a2 : 32 ≤ c
    · by_cases a3 : c = 127
      · subst a3
        have H : Hid (txtI 127 = false) := rfl
        go_enter Tryz.func196, Tryz.ntmps196
        go_wp2
        go_ret
        rw [H.out]
        exact ⟨rfl, rfl⟩
      · have b1 : (c == 9) = false := by simpa using a1
        have b2 : (c != 127) = true := by simpa using a3
        have H : Hid (txtI c = true) := by unfold Hid txtI; simp; omega
        go_enter Tryz.func196, Tryz.ntmps196
        go_wp2
        go_ret
        rw [H.out]
        exact ⟨rfl, rfl⟩
    · have b1 : (c == 9) = false := by simpa using a1
      have b2 : decide (32 ≤ c) = false := by simpa using a2
      have H : Hid (txtI c = false) := by unfold Hid txtI; simp; omega
      go_enter Tryz.func196, Tryz.ntmps196
      go_wp2
      go_ret
      rw [H.out]
      exact ⟨rfl, rfl⟩
theorem txt_bad (s : ByteArray) (k : Nat) (h : k < s.size) (hc : txt s[k] = false) : s.data.toList.all txt = false := all_false s.data.toList k (by simpa using h) hc
theorem txt_end (s : ByteArray) (k : Nat) (h : s.size ≤ k) (ha : (s.data.toList.take k).all txt = true) : s.data.toList.all txt = true := by
  rwa [take_all s k h] at ha
set_option maxRecDepth 20000 in
set_option maxHeartbeats 1000000 in
theorem isTextC (s : ByteArray) (w : World) (hs : s.size ≤ 140737488351232) :
    Calls Tryz.prog 189 #[.string s] w fun e w' => e = .returned (.bool (s.data.toList.all txt)) ∧ w' = w := by
  obtain ⟨gb, hgb⟩ : ∃ gb, gb = s.data.toList.all txt := ⟨_, rfl⟩
  have HG := hide' hgb
  rw [← hgb]
  clear hgb
  go_enter Tryz.func189, Tryz.ntmps189
  go_wp2_with fail
  go_loop [6] (fun i => ∃ k : Nat, k ≤ s.size ∧ i = .int .i64 k ∧ Hid ((s.data.toList.take k).all txt = true)) (fun i => s.size - (intOf i).toNat)
  case atStart => exact ⟨0, by omega, rfl, by unfold Hid; simp⟩
  case round =>
    obtain ⟨k, hk, rfl, ha⟩ := hrel
    by_cases hlt : k < s.size
    · have hb := byte_lt s[k]
      cases ht : txtI (s[k].toNat : Int) with
      | true =>
        have A := hide' (all_step s k hlt ht ha.out)
        go_wp2_with (go_at_call 196; refine (textChk _ (by omega) (by omega) _).mono ?_; rintro e w' ⟨rfl, rfl⟩)
        go_round
        case rel => exact ⟨k + 1, by omega, by go_num, A⟩
        case measure => simp [intOf]; omega
      | false =>
        have F := hide' (HG.out.trans (txt_bad s k hlt ht))
        go_wp2_with (go_at_call 196; refine (textChk _ (by omega) (by omega) _).mono ?_; rintro e w' ⟨rfl, rfl⟩)
        go_ret
        rw [F.out]
        exact ⟨rfl, rfl⟩
    · have F := hide' (HG.out.trans (txt_end s k (by omega) ha.out))
      go_wp2_with fail
      go_ret
      rw [F.out]
      exact ⟨rfl, rfl⟩
/-! ParseUint at base sixteen -/
set_option maxRecDepth 100000 in
theorem phEmpty (w : World) : Calls Tryz.prog 167 #[.string ⟨#[]⟩, .int .i64 16, .int .i64 64] w fun e w' => e = .returned (.tuple #[.int .u64 0, .iface 177 (.int .i64 2)]) ∧ w' = w := by
  go_enter Tryz.func167, Tryz.ntmps167
  go_wp2
  go_ret2
  exact ⟨rfl, rfl⟩
theorem low_facts : ∀ n : Fin 256, (hexI (n.val : Int) = if 48 ≤ n.val ∧ n.val ≤ 57 then (n.val : Int) - 48 else if 97 ≤ bits .or .u8 (n.val : Int) 32 ∧ bits .or .u8 (n.val : Int) 32 ≤ 102 then bits .or .u8 (n.val : Int) 32 - 87 else -1) := by decide +kernel
/-- what is gathered of the first k digits -/
def Ph (bs : List UInt8) (k : Nat) (a : Int) : Prop := 0 ≤ a ∧ a ≤ 18446744073709551615 ∧ (bs.take k).all isHex = true ∧ (k ≤ 15 → a = (hexS (bs.take k) : Int))
theorem ph_small {bs : List UInt8} {k : Nat} {a : Int} (h : Ph bs k a) (hc : 1152921504606846976 ≤ a) : 15 < k := by
  obtain ⟨_, _, _, h4⟩ := h
  rcases Nat.lt_or_ge 15 k with h5 | h5
  · exact h5
  · have e := h4 h5
    have h6 := hexS_lt (bs.take k)
    have h7 : 16 ^ (bs.take k).length ≤ 16 ^ 15 := Nat.pow_le_pow_right (by decide) (by rw [List.length_take]; omega)
    have h8 : (16 : Nat) ^ 15 = 1152921504606846976 := by decide
    omega
theorem ph_next {bs : List UInt8} {k : Nat} {a d : Int} (h : Ph bs k a) (hk : k < bs.length) (hd : hexI (bs[k].toNat : Int) = d) (d0 : 0 ≤ d) (hc : a < 1152921504606846976) : Ph bs (k + 1) (a * 16 + d) := by
  obtain ⟨h1, h2, h3, h4⟩ := h
  have hd2 := hexI_le bs[k]
  rw [hd] at hd2
  have hx : isHex bs[k] = true := by unfold isHex; rw [hd]; exact decide_eq_true d0
  refine ⟨by omega, by omega, ?_, fun hk15 => ?_⟩
  · rw [List.take_succ_eq_append_getElem hk, List.all_append, h3]
    simp [hx]
  · rw [h4 (by omega), List.take_succ_eq_append_getElem hk]
    have e : hexS (bs.take k ++ [bs[k]]) = hexS (bs.take k) * 16 + (hexI (bs[k].toNat : Int)).toNat := by unfold hexS; rw [List.foldl_append]; rfl
    rw [e, hd]
    omega
theorem ph_bad {bs : List UInt8} {k : Nat} (hk : k < bs.length) (hd : hexI (bs[k].toNat : Int) = -1) : bs.all isHex = false := by
  rw [List.all_eq_false]
  exact ⟨bs[k], List.getElem_mem _, by unfold isHex; rw [hd]; decide⟩
theorem ph_end {bs : List UInt8} {k : Nat} {a : Int} (h : Ph bs k a) (hk : bs.length ≤ k) (hk2 : k ≤ bs.length) : bs.all isHex = true ∧ (bs.length ≤ 15 → a = (hexS bs : Int)) := by
  obtain ⟨_, _, h3, h4⟩ := h
  rw [List.take_of_length_le hk] at h3 h4
  exact ⟨h3, fun h => h4 (by omega)⟩
/-- what ParseUint tells of bytes: the number, that it is none, or that it is too great -/
def PhR (bs : List UInt8) (e : Ending) : Prop :=
  (∃ a : Int, e = .returned (.tuple #[.int .u64 a, .nilIface]) ∧ 0 ≤ a ∧ a ≤ 18446744073709551615 ∧ bs.all isHex = true ∧ 0 < bs.length ∧ (bs.length ≤ 15 → a = (hexS bs : Int))) ∨
  (e = .returned (.tuple #[.int .u64 0, .iface 177 (.int .i64 2)]) ∧ (bs.all isHex = false ∨ bs.length = 0)) ∨
  (e = .returned (.tuple #[.int .u64 18446744073709551615, .iface 177 (.int .i64 1)]) ∧ 15 < bs.length)
set_option maxHeartbeats 32000000 in
set_option maxRecDepth 100000 in
theorem phSome (t : ByteArray) (hne : t.size ≠ 0) (hmax : t.size ≤ 9223372036854775806) (w : World) :
    Calls Tryz.prog 167 #[.string t, .int .i64 16, .int .i64 64] w fun e w' => PhR t.data.toList e ∧ w' = Lib.bytesWorld w 5 t := by
  have hemp : t.toList.isEmpty = false := by
    rw [← decide_eq_emptyBytes]
    exact decide_eq_false (fun h => hne (by rw [h]; rfl))
  have hcv := Lib.run_convert_string_bytes (P := Tryz.prog) w 9 22 5 t (u := .string) Tryz.underlying9 Tryz.underlying22 Tryz.underlying5
  have hB : ∀ j, j < t.size → (Lib.bytesWorld w 5 t).cell? ⟨w.heap.size, j, none⟩ = some (.int .u8 (t.data.toList.getD j 0).toNat) := fun j hj => Lib.bytesWorld_cell w 5 t j hj
  generalize Lib.bytesWorld w 5 t = W1 at hcv hB ⊢
  obtain ⟨bs, hL⟩ : ∃ bs, bs = t.data.toList := ⟨_, rfl⟩
  have LN : Hid (bs.length = t.size) := by unfold Hid; rw [hL, Lib.size_eq]
  rw [← hL] at hB ⊢
  have CB := hide' hB
  clear hL hB
  have hmv : IntKind.u64.wrap (IntKind.u64.wrap 18446744073709551616 - 1) = 18446744073709551615 := by
    rw [IntKind.wrap_u64, IntKind.wrap_u64]
    decide
  go_enter Tryz.func167, Tryz.ntmps167
  go_wp2
  go_loop [12, 13, 101] (fun vu vn vi => ∃ (k : Nat) (a : Int), vu = .bool false ∧ vn = .int .u64 a ∧ vi = .int .i64 k ∧ k ≤ t.size ∧ (0 ≤ a ∧ a ≤ 18446744073709551615) ∧ Hid (Ph bs k a)) (fun _ _ vi => t.size - (intOf vi).toNat)
  case atStart => exact ⟨0, 0, rfl, rfl, rfl, Nat.zero_le _, ⟨by omega, by omega⟩, ⟨by omega, by omega, rfl, fun _ => rfl⟩⟩
  case round =>
    obtain ⟨k, a, rfl, rfl, rfl, hk, ⟨a0, a1⟩, P⟩ := hrel
    by_cases hkn : k < t.size
    · have G : Hid (k < bs.length) := by unfold Hid; rw [LN.out]; exact hkn
      have hc := CB.out k hkn
      have hget : bs.getD k 0 = bs[k]'G.out := by simp [List.getD, List.getElem?_eq_getElem G.out]
      rw [hget] at hc
      clear hget
      have X1 := hide' (fun h => ph_small P.out h)
      have X3 := hide' (fun d => ph_next (d := d) P.out G.out)
      have X4 := hide' (ph_bad G.out)
      have hc256 : (bs[k]'G.out).toNat < 256 := (bs[k]'G.out).toNat_lt
      have LF := low_facts ⟨(bs[k]'G.out).toNat, hc256⟩
      simp only at LF
      generalize (bs[k]'G.out).toNat = c at hc X1 X3 X4 hc256 LF
      by_cases hd : 48 ≤ c ∧ c ≤ 57
      · obtain ⟨d0, d1⟩ := hd
        rw [if_pos ⟨d0, d1⟩] at LF
        by_cases hcut : 1152921504606846976 ≤ a
        · have R := hide' (X1.out hcut)
          clear X1 X3 X4 P LF
          go_wp2
          go_ret2
          exact ⟨.inr (.inr ⟨rfl, by have := R.out; have := G.out; omega⟩), rfl⟩
        · have icut : a < 1152921504606846976 := by omega
          have R := hide' (X3.out _ LF (by omega) icut)
          clear X1 X3 X4 P hcut LF
          have iov : a * 16 + ((c : Int) - 48) ≤ 18446744073709551615 := by omega
          go_wp2
          refine ⟨⟨k + 1, a * 16 + ((c : Int) - 48), rfl, (by first | rfl | (congr 1; omega)), (by first | rfl | (congr 1; omega)), by omega, ⟨by omega, by omega⟩, R⟩, by simp [intOf]; omega⟩
      · by_cases h95 : c = 95
        · subst h95
          have R := hide' (X4.out (by decide))
          have hu0 := bits_lo_u8 .or 95 32
          have hu1 := bits_hi_u8 .or 95 32
          have b95 : bits .or .u8 95 32 = 127 := by decide +kernel
          clear X1 X3 X4 P LF hd
          go_wp2_with (go_at_call 186; refine (lowC _ _).mono ?_; rintro e w' ⟨rfl, rfl⟩)
          all_goals go_ret2
          all_goals exact ⟨.inr (.inl ⟨rfl, .inl R.out⟩), rfl⟩
        have q95 : ((c : Int) == 95) = false := by simp; omega
        have q95' : (c == 95) = false := by simpa using h95
        rw [if_neg hd] at LF
        have hv0 := bits_lo_u8 .or (c : Int) 32
        have hv1 := bits_hi_u8 .or (c : Int) 32
        have cL := fun W => lowC (c : Int) W
        generalize bits .or .u8 (c : Int) 32 = v at LF hv0 hv1 cL
        have CL := hide' cL
        clear cL h95
        by_cases hv : 97 ≤ v ∧ v ≤ 102
        · rw [if_pos hv] at LF
          obtain ⟨v0, v1⟩ := hv
          by_cases hcut : 1152921504606846976 ≤ a
          · have R := hide' (X1.out hcut)
            clear X1 X3 X4 P LF
            go_wp2_with (go_at_call 186; refine (CL.out _).mono ?_; rintro e w' ⟨rfl, rfl⟩)
            all_goals go_ret2
            all_goals exact ⟨.inr (.inr ⟨rfl, by have := R.out; have := G.out; omega⟩), rfl⟩
          · have icut : a < 1152921504606846976 := by omega
            have R := hide' (X3.out _ LF (by omega) icut)
            clear X1 X3 X4 P hcut LF
            have iov : a * 16 + (v - 87) ≤ 18446744073709551615 := by omega
            go_wp2_with (go_at_call 186; refine (CL.out _).mono ?_; rintro e w' ⟨rfl, rfl⟩)
            all_goals refine ⟨⟨k + 1, a * 16 + (v - 87), rfl, (by first | rfl | (congr 1; omega)), (by first | rfl | (congr 1; omega)), by omega, ⟨by omega, by omega⟩, R⟩, by simp [intOf]; omega⟩
        · rw [if_neg hv] at LF
          have R := hide' (X4.out LF)
          clear X1 X3 X4 P LF
          go_wp2_with (go_at_call 186; refine (CL.out _).mono ?_; rintro e w' ⟨rfl, rfl⟩)
          all_goals go_ret2
          all_goals exact ⟨.inr (.inl ⟨rfl, .inl R.out⟩), rfl⟩
    · have R := hide' (ph_end P.out (by rw [LN.out]; omega) (by rw [LN.out]; exact hk))
      have N0 : Hid (0 < bs.length) := by unfold Hid; rw [LN.out]; omega
      clear P
      go_wp2
      go_ret2
      exact ⟨.inl ⟨a, rfl, a0, a1, R.out.1, N0.out, R.out.2⟩, rfl⟩
end Go.Proofs.YtmikgpmnffdnnaaGreatDoor
namespace Go.Proofs.YtmikgpmnffdnnaaGreatDoor
open Go.RowKit
theorem innerH (l : List UInt8) (hl : l.length ≤ 281474976710656) (w : World) :
    Calls Tryz.prog 167 #[.string ⟨l.toArray⟩, .int .i64 16, .int .i64 64] w fun e w' => PhR l e ∧ Below w.heap.size w w' := by
  by_cases h : l = []
  · subst h
    refine (phEmpty w).mono ?_
    rintro e w' ⟨rfl, rfl⟩
    exact ⟨.inr (.inl ⟨rfl, .inr rfl⟩), Below.refl _ _⟩
  · have hs : (⟨l.toArray⟩ : ByteArray).size = l.length := size_l l
    have h0 : ¬ (⟨l.toArray⟩ : ByteArray).size = 0 := by rw [hs]; intro e; exact h (List.eq_nil_of_length_eq_zero e)
    refine (phSome ⟨l.toArray⟩ h0 (by rw [hs]; omega) w).mono ?_
    rintro e w' ⟨hr, rfl⟩
    exact ⟨hr, Lib.bytesWorld_below _ _ _⟩
/-- what strconv.ParseUint tells of bytes -/
def PhO (l : List UInt8) (e : Ending) : Prop := ∃ (a : Int) (ev : Value), e = .returned (.tuple #[.int .u64 a, ev]) ∧ 0 ≤ a ∧ a ≤ 18446744073709551615 ∧
  ((ev = .nilIface ∧ l.all isHex = true ∧ 0 < l.length ∧ (l.length ≤ 15 → a = (hexS l : Int))) ∨
   ((∃ N, ev = .iface 180 (.pointer (some ⟨N, 0, none⟩))) ∧ (decide (0 < l.length) && (l.all isHex && decide (l.length ≤ 8))) = false))
set_option maxHeartbeats 2000000 in
set_option maxRecDepth 20000 in
theorem parseH (l : List UInt8) (hl : l.length ≤ 281474976710656) (w : World) (E : Er w) :
    Calls Tryz.prog 150 #[.string ⟨l.toArray⟩, .int .i64 16, .int .i64 64] w fun e w' => PhO l e ∧ Below w.heap.size w w' := by
  have C := hide' (innerH l hl w)
  have EV := hide' E
  have hs : (⟨l.toArray⟩ : ByteArray).size ≤ 281474976710656 := by rw [size_l]; exact hl
  clear E hl
  go_enter Tryz.func150, Tryz.ntmps150
  go_wp2_with fail
  refine C.out.mono ?_
  rintro e w1 ⟨hr, b1⟩
  have B1 := hide' b1
  have E1 := hide' (er_below EV.out b1)
  clear b1 C EV
  rcases hr with ⟨a, rfl, a0, a1, h1, h2, h3⟩ | ⟨rfl, h1⟩ | ⟨rfl, h1⟩
  · have H1 := hide' h1
    have H2 := hide' h2
    have H3 := hide' h3
    clear h1 h2 h3
    go_wp2_with fail
    go_ret2
    exact ⟨⟨a, .nilIface, rfl, a0, a1, .inl ⟨rfl, H1.out, H2.out, H3.out⟩⟩, B1.out⟩
  · obtain ⟨⟨tp, p, hv⟩, _⟩ := E1.out
    have K := hide' (Any.strconv_toError_syntax Tryz.laysC245 ⟨#[80, 97, 114, 115, 101, 85, 105, 110, 116]⟩ ⟨l.toArray⟩ 16 64 (.iface tp p) w1 hs hv (.inr ⟨tp, p, rfl⟩))
    have H1 : Hid ((decide (0 < l.length) && (l.all isHex && decide (l.length ≤ 8))) = false) := by
      unfold Hid
      rcases h1 with h | h
      · rw [h]; simp
      · rw [decide_eq_false (by omega : ¬ 0 < l.length)]; rfl
    clear h1 hv
    go_wp2_with fail
    refine K.out.mono ?_
    rintro e w2 ⟨N, rfl, _, _, b2⟩
    have B2 := hide' (bt' B1.out b2)
    clear b2 K
    go_wp2_with fail
    go_ret2
    exact ⟨⟨0, _, rfl, by omega, by omega, .inr ⟨⟨N, rfl⟩, H1.out⟩⟩, B2.out⟩
  · obtain ⟨_, tp, p, hv⟩ := E1.out
    have K := hide' (Any.strconv_toError_range Tryz.laysC245 ⟨#[80, 97, 114, 115, 101, 85, 105, 110, 116]⟩ ⟨l.toArray⟩ 16 64 (.iface tp p) w1 hs hv (.inr ⟨tp, p, rfl⟩))
    have H1 : Hid ((decide (0 < l.length) && (l.all isHex && decide (l.length ≤ 8))) = false) := by
      unfold Hid
      rw [decide_eq_false (by omega : ¬ l.length ≤ 8)]; simp
    clear h1 hv
    go_wp2_with fail
    refine K.out.mono ?_
    rintro e w2 ⟨N, rfl, _, _, b2⟩
    have B2 := hide' (bt' B1.out b2)
    clear b2 K
    go_wp2_with fail
    go_ret2
    exact ⟨⟨18446744073709551615, _, rfl, by omega, by omega, .inr ⟨⟨N, rfl⟩, H1.out⟩⟩, B2.out⟩
theorem cutSemi (s : ByteArray) (hs : s.size < 4294967281) (w : World) (M : MaxV w) :
    Calls Tryz.prog 80 #[.string s, .string ⟨#[59]⟩] w fun e w' => ∃ b, e = .returned (.tuple #[.string ⟨(digL s.data.toList).toArray⟩, .string ⟨(extL s.data.toList).toArray⟩, .bool b]) ∧ Below w.heap.size w w' := by
  obtain ⟨m, hm⟩ := M
  refine (Any.strings_Cut Tryz.lays145 s ⟨#[59]⟩ m w hs hm).mono ?_
  rintro e w' ⟨rfl, n, rfl⟩
  refine ⟨! s.data.toList.all noSemi, ?_, below_drewN w n⟩
  rw [show (⟨#[59]⟩ : ByteArray).data.toList = [59] from rfl, cut_one noSemi 59 noSemi_iff]
  rfl
set_option maxHeartbeats 2000000 in
set_option maxRecDepth 20000 in
theorem sizeOfC (l : List UInt8) (hl : l.length ≤ 4096) (w : World) (E : Er w) (M : MaxV w) :
    Calls Tryz.prog 169 #[.string ⟨l.toArray⟩] w fun e w' => ∃ x : Int, e = .returned (.tuple #[.int .i64 x, .bool (decide (0 ≤ sizeC l))]) ∧ Hid (0 ≤ sizeC l → x = sizeC l) ∧ Below w.heap.size w w' := by
  have cC := cutSemi ⟨l.toArray⟩ (by rw [size_l]; omega) w M
  rw [show (⟨l.toArray⟩ : ByteArray).data.toList = l from by simp] at cC
  have GS := size_is l
  have GX : Hid (goodZ l = true → sizeC l = (hexS (digL l) : Int)) := size_good l
  have d1 := dig_len l
  have d2 := ext_len l
  have GD : goodZ l = (decide (0 < (digL l).length) && ((digL l).all isHex && (decide ((digL l).length ≤ 8) && (extL l).all txt))) := rfl
  have ZI : Hid (0 ≤ sizeC l → goodZ l = true) := fun h => by rw [GS]; exact decide_eq_true h
  rw [← GS]
  clear GS
  generalize goodZ l = gs at GD GX ZI ⊢
  generalize digL l = D at cC GX d1 GD
  generalize extL l = X at cC d2 GD
  generalize sizeC l = sz at GX ZI ⊢
  generalize (⟨l.toArray⟩ : ByteArray) = t at cC ⊢
  have HD := hide' GD
  have C := hide' cC
  have zX : (⟨X.toArray⟩ : ByteArray).size ≤ 140737488351232 := by rw [size_l]; omega
  have cP := hide' (fun W (hE : Er W) => parseH D (by omega) W hE)
  have cT := fun W => isTextC ⟨X.toArray⟩ W zX
  rw [show (⟨X.toArray⟩ : ByteArray).data.toList = X from by simp] at cT
  have CT := hide' cT
  have EV := hide' E
  have hz : (⟨D.toArray⟩ : ByteArray).size = D.length := size_l D
  clear cC GD d2 E M zX cT
  generalize hd : (⟨D.toArray⟩ : ByteArray) = dt at C cP hz
  clear hd
  generalize hx : (⟨X.toArray⟩ : ByteArray) = xt at C CT
  clear hx
  go_enter Tryz.func169, Tryz.ntmps169
  go_wp2_with fail
  refine C.out.mono ?_
  rintro e w1 ⟨bb, rfl, b1⟩
  have B1 := hide' b1
  have E1 := hide' (er_below EV.out b1)
  clear b1 C EV
  go_wp2_with fail
  refine (cP.out _ E1.out).mono ?_
  rintro e w2 ⟨⟨a, ev, rfl, a0, a1, hc⟩, b2⟩
  have B2 := hide' (bt' B1.out b2)
  clear b2 cP E1 B1
  have k0 : (0 : Int) ≤ (D.length : Int) := by omega
  have HZ := hide' hz
  rcases hc with ⟨rfl, h1, h2, h3⟩ | ⟨⟨N, rfl⟩, h⟩
  · by_cases h8 : D.length ≤ 8
    · have ea := h3 (by omega)
      have hlt := hexS_lt D
      have hp : 16 ^ D.length ≤ 16 ^ 8 := Nat.pow_le_pow_right (by decide) h8
      have h16 : (16 : Nat) ^ 8 = 4294967296 := by decide
      have al : a < 4294967296 := by omega
      have EA := hide' ea
      have GE : Hid (gs = X.all txt) := by unfold Hid; rw [HD.out, h1, decide_eq_true h2, decide_eq_true h8]; simp
      have z8 : (dt.size : Int) ≤ 8 := by rw [hz]; omega
      have z8' : decide ((dt.size : Int) ≤ 8) = true := decide_eq_true z8
      clear ea hlt hp h16 h1 h2 h3 h8 HD hz z8
      rw [GE.out] at GX ZI
      generalize X.all txt = xb at CT GX ZI GE
      go_wp2_with (go_at_call 189; refine (CT.out _).mono ?_; rintro e w3 ⟨rfl, rfl⟩)
      go_ret2
      rw [GE.out]
      exact ⟨a, by first | rfl | simp, fun h => by rw [EA.out, GX.out (ZI.out h)], B2.out⟩
    · have GE : Hid (gs = false) := by unfold Hid; rw [HD.out, decide_eq_false h8]; simp
      have z8' : decide ((dt.size : Int) ≤ 8) = false := decide_eq_false (by rw [hz]; omega)
      have z8 : ¬ (dt.size : Int) ≤ 8 := by rw [hz]; omega
      clear h1 h2 h3 h8 HD hz
      rw [GE.out] at GX ZI
      go_wp2_with fail
      go_ret2
      rw [GE.out]
      exact ⟨_, rfl, fun h => absurd (ZI.out h) (by simp), B2.out⟩
  · have GE : Hid (gs = false) := by
      unfold Hid
      rw [HD.out]
      cases q1 : decide (0 < D.length) with
      | false => rfl
      | true =>
        cases q2 : D.all isHex with
        | false => rfl
        | true =>
          rw [q1, q2] at h
          have h' : decide (D.length ≤ 8) = false := by simpa using h
          rw [h']; rfl
    clear h HD hz
    rw [GE.out] at GX ZI
    go_wp2_with fail
    go_ret2
    rw [GE.out]
    exact ⟨_, rfl, fun h => absurd (ZI.out h) (by simp), B2.out⟩
end Go.Proofs.YtmikgpmnffdnnaaGreatDoor
namespace Go.Proofs.YtmikgpmnffdnnaaGreatDoor
open Go.RowKit
theorem quad_set0 {b : Nat} {W : World} {v0 v1 v2 v3 : Value} (h : Quad b W v0 v1 v2 v3) (x : Value) : Quad b (W.setCell ⟨b, 0, none⟩ x) x v1 v2 v3 := by
  obtain ⟨h0, h1, h2, h3, f0, f1, f2, f3, hz⟩ := h
  exact ⟨World.cell?_setCell_same (u := v0) _ _ _ h0, by rw [oth4 (by decide)]; exact h1, by rw [oth4 (by decide)]; exact h2, by rw [oth4 (by decide)]; exact h3, by rw [frozen_set4]; exact f0, by rw [frozen_set4]; exact f1, by rw [frozen_set4]; exact f2, by rw [frozen_set4]; exact f3, by simpa using hz⟩
theorem quad_set1 {b : Nat} {W : World} {v0 v1 v2 v3 : Value} (h : Quad b W v0 v1 v2 v3) (x : Value) : Quad b (W.setCell ⟨b, 1, none⟩ x) v0 x v2 v3 := by
  obtain ⟨h0, h1, h2, h3, f0, f1, f2, f3, hz⟩ := h
  exact ⟨by rw [oth4 (by decide)]; exact h0, World.cell?_setCell_same (u := v1) _ _ _ h1, by rw [oth4 (by decide)]; exact h2, by rw [oth4 (by decide)]; exact h3, by rw [frozen_set4]; exact f0, by rw [frozen_set4]; exact f1, by rw [frozen_set4]; exact f2, by rw [frozen_set4]; exact f3, by simpa using hz⟩
theorem quad_set2 {b : Nat} {W : World} {v0 v1 v2 v3 : Value} (h : Quad b W v0 v1 v2 v3) (x : Value) : Quad b (W.setCell ⟨b, 2, none⟩ x) v0 v1 x v3 := by
  obtain ⟨h0, h1, h2, h3, f0, f1, f2, f3, hz⟩ := h
  exact ⟨by rw [oth4 (by decide)]; exact h0, by rw [oth4 (by decide)]; exact h1, World.cell?_setCell_same (u := v2) _ _ _ h2, by rw [oth4 (by decide)]; exact h3, by rw [frozen_set4]; exact f0, by rw [frozen_set4]; exact f1, by rw [frozen_set4]; exact f2, by rw [frozen_set4]; exact f3, by simpa using hz⟩
/-- a decoder's block g, made behind w0: what is next, the size, the data in a row of their own made later, the trailers -/
def Dec (w0 : World) (g : Nat) (nx s : Int) (out : List UInt8) (tv : Value) (w : World) : Prop :=
  ∃ dv, Quad g w (.int .i64 nx) (.int .i64 s) dv tv ∧ w.ownsRow (g + 1) 5 1 dv out.length (out.map B) ∧ Below w0.heap.size w0 w ∧ w0.heap.size ≤ g
theorem dec_below {w0 : World} {g : Nat} {nx s : Int} {out : List UInt8} {tv : Value} {w w' : World} (h : Dec w0 g nx s out tv w) (hb : Below w.heap.size w w') : Dec w0 g nx s out tv w' := by
  obtain ⟨dv, q, r, b, hg⟩ := h
  exact ⟨dv, quad_below q hb, row_below r hb, bt' b hb, hg⟩
theorem dec_set0 {w0 : World} {g : Nat} {nx s : Int} {out : List UInt8} {tv : Value} {w : World} (h : Dec w0 g nx s out tv w) (x : Int) : Dec w0 g x s out tv (w.setCell ⟨g, 0, none⟩ (.int .i64 x)) := by
  obtain ⟨dv, q, r, b, hg⟩ := h
  exact ⟨dv, quad_set0 q _, row_poke r (Nat.lt_succ_self g), b.setCell hg _, hg⟩
theorem dec_set1 {w0 : World} {g : Nat} {nx s : Int} {out : List UInt8} {tv : Value} {w : World} (h : Dec w0 g nx s out tv w) (x : Int) : Dec w0 g nx x out tv (w.setCell ⟨g, 1, none⟩ (.int .i64 x)) := by
  obtain ⟨dv, q, r, b, hg⟩ := h
  exact ⟨dv, quad_set1 q _, row_poke r (Nat.lt_succ_self g), b.setCell hg _, hg⟩
theorem dec_set3 {w0 : World} {g : Nat} {nx s : Int} {out : List UInt8} {tv : Value} {w : World} (h : Dec w0 g nx s out tv w) (x : Value) : Dec w0 g nx s out x (w.setCell ⟨g, 3, none⟩ x) := by
  obtain ⟨dv, q, r, b, hg⟩ := h
  exact ⟨dv, quad_set3 q _, row_poke r (Nat.lt_succ_self g), b.setCell hg _, hg⟩
theorem dec_bel {w0 : World} {g : Nat} {nx s : Int} {out : List UInt8} {tv : Value} {w : World} (h : Dec w0 g nx s out tv w) : Below w0.heap.size w0 w := by
  obtain ⟨dv, q, r, b, hg⟩ := h
  exact b
theorem idx10B (v : Value) (bs : List UInt8) (w : World) (hv : HoldsB w v bs) :
    Calls Tryz.prog 103 #[v, .int .u8 10] w fun e w' => e = .returned (.int .i64 (Lib.indexByte bs 10)) ∧ w' = w := by
  have hin := hv
  obtain ⟨ao, cap, rfl, h0, hcp, hc⟩ := hv
  cases ao with
  | none =>
    obtain rfl := h0 rfl
    have hz : bs.length = 0 := by omega
    obtain rfl : bs = [] := List.eq_nil_of_length_eq_zero hz
    exact Any.bytes_IndexByte_nil Tryz.lays187 10 w
  | some ad =>
    have hcell : ∀ i, i < bs.length → w.cell? (ad.add i) = some (.int .u8 ((bs.map fun b => (b.toNat : Int)).getD i 0)) := by
      intro i hi
      obtain ⟨b, off, e, _, hcl⟩ := hc (fun e => by rw [e] at hi; simp at hi)
      simp only [Option.some.injEq] at e
      subst e
      rw [Go.WideShapes.add_plain, hcl i hi]
      simp [B, List.getD, hi]
    have c := Any.bytes_IndexByte_at Tryz.lays187 ad bs.length cap (bs.map fun b => (b.toNat : Int)) 10 w (by simp) hcell
    rw [bytesOf_map'] at c
    exact c
theorem ten_toU8 : ((10 : Int).toNat.toUInt8) = 10 := rfl
def szV (bs : List UInt8) : Value := .tuple #[.int .i64 ((lineC bs).2.1 : Int), .int .i64 (lineC bs).2.2]
set_option maxHeartbeats 4000000 in
set_option maxRecDepth 20000 in
theorem readSizeC (w0 : World) (g : Nat) (s : Int) (out : List UInt8) (tv v : Value) (bs : List UInt8) (w : World) (D : Dec w0 g 0 s out tv w) (hv : HoldsB w v bs) (hs : bs.length < 4294967281) (E : Er w) (M : MaxV w) :
    Calls Tryz.prog 151 #[.pointer (some ⟨g, 0, none⟩), v] w fun e w' => e = .returned (szV bs) ∧ Below w0.heap.size w0 w' ∧ Hid ((lineC bs).2.1 ≠ 0 → Dec w0 g (nxOf (lineC bs).1) ((lineC bs).1 : Int) out tv w') := by
  have cI := idx10B v bs w hv
  rw [index10] at cI
  have DH := hide' D
  by_cases hk : lenL bs = bs.length
  · rw [if_pos hk] at cI
    have CI := hide' cI
    by_cases h2 : bs.length < 200
    · have R := line_no bs hk h2
      unfold szV
      rw [R]
      obtain ⟨ao, cap, rfl, _⟩ := hv
      obtain ⟨n, hn⟩ : ∃ n, n = bs.length := ⟨_, rfl⟩
      rw [← hn] at CI hs h2 ⊢
      clear cI hk R hn D E M
      go_enter Tryz.func151, Tryz.ntmps151
      go_wp2_with fail
      refine CI.out.mono ?_
      rintro e w1 ⟨rfl, rfl⟩
      go_wp2_with fail
      go_ret2
      exact ⟨rfl, dec_bel DH.out, by first | exact fun h => absurd rfl h | trivial⟩
    · have R := line_no2 bs hk (by omega)
      unfold szV
      rw [R]
      obtain ⟨ao, cap, rfl, _⟩ := hv
      obtain ⟨n, hn⟩ : ∃ n, n = bs.length := ⟨_, rfl⟩
      rw [← hn] at CI hs h2 ⊢
      clear cI hk R hn D E M
      go_enter Tryz.func151, Tryz.ntmps151
      go_wp2_with fail
      refine CI.out.mono ?_
      rintro e w1 ⟨rfl, rfl⟩
      go_wp2_with fail
      go_ret2
      exact ⟨rfl, dec_bel DH.out, by first | exact fun h => absurd rfl h | trivial⟩
  · have hlt := lenL_lt hk
    rw [if_neg hk] at cI
    have CI := hide' cI
    by_cases h2 : 200 < lenL bs + 1
    · have R := line_long bs hlt h2
      unfold szV
      rw [R]
      obtain ⟨ao, cap, rfl, _⟩ := hv
      obtain ⟨n, hn⟩ : ∃ n, n = bs.length := ⟨_, rfl⟩
      rw [← hn] at CI hs hlt ⊢
      generalize lenL bs = k at CI hlt h2
      have h2' : (200 : Int) < (k : Int) + 1 := by omega
      clear cI hk R hn D E M h2
      go_enter Tryz.func151, Tryz.ntmps151
      go_wp2_with fail
      refine CI.out.mono ?_
      rintro e w1 ⟨rfl, rfl⟩
      go_wp2_with fail
      go_ret2
      exact ⟨rfl, dec_bel DH.out, by first | exact fun h => absurd rfl h | trivial⟩
    · obtain ⟨pv, s1, HP⟩ := holdsB_take hv (lenL bs + 1) (by omega)
      have cv : Sem.run Tryz.prog (convert 22 9 pv) w = .ok (.string ⟨(bs.take (lenL bs + 1)).toArray⟩) w := by
        have HP' := HP
        obtain ⟨a2, c2, e2, _⟩ := HP
        rw [e2] at HP' ⊢
        exact conv_holdsB w a2 c2 _ HP'
      have hl1 : (bs.take (lenL bs + 1)).length ≤ 200 := by rw [List.length_take]; omega
      have cS := Any.strings_CutSuffix Tryz.lays104 ⟨(bs.take (lenL bs + 1)).toArray⟩ ⟨#[13, 10]⟩ w (by rw [size_l]; omega)
      rw [show (⟨(bs.take (lenL bs + 1)).toArray⟩ : ByteArray).data.toList = bs.take (lenL bs + 1) from by simp, show (⟨#[13, 10]⟩ : ByteArray).data.toList = [13, 10] from rfl, trim_end bs hlt, suf_end bs hlt] at cS
      have hl2 := lineL_len bs
      have cZ := sizeOfC (lineL bs) (by omega) w E M
      have RB := hide' (line_bad bs hlt)
      have RG := hide' (fun h => line_ok bs hlt h (by omega))
      have CS := hide' cS
      have CZ := hide' cZ
      have S1 : ∀ W, Sem.run Tryz.prog (Instr.slice 22 v none (some (.int .i64 ((lenL bs : Int) + 1))) none) W = .ok pv W := by
        intro W
        have := s1 W
        rwa [Int.natCast_add] at this
      obtain ⟨ao, cap, rfl, _⟩ := hv
      obtain ⟨n, hn⟩ : ∃ n, n = bs.length := ⟨_, rfl⟩
      have h2' : (lenL bs : Int) + 1 ≤ 200 := by omega
      rw [← hn] at CI S1 hs hlt ⊢
      clear cI hn D E M h2 HP hl1 cS hl2 cZ s1 hk
      unfold szV
      generalize lineC bs = LC at RB RG ⊢
      generalize endL bs = eb at CS RB RG
      generalize lineL bs = ln at CS CZ RB RG
      generalize (bs.take (lenL bs + 1)) = tk at cv CS
      generalize (⟨ln.toArray⟩ : ByteArray) = lt at CS CZ
      generalize (⟨tk.toArray⟩ : ByteArray) = tt at cv CS
      generalize lenL bs = k at CI S1 hlt h2' RG
      generalize sizeC ln = sz at CZ RB RG
      go_enter Tryz.func151, Tryz.ntmps151
      go_wp2_with fail
      refine CI.out.mono ?_
      rintro e w1 ⟨rfl, ew⟩
      rw [ew]
      clear ew w1
      go_wp2_with fail
      refine CS.out.mono ?_
      rintro e w1 ⟨rfl, ew⟩
      rw [ew]
      clear ew w1
      go_wp2_with fail
      refine CZ.out.mono ?_
      rintro e w2 ⟨x, rfl, hx, b2⟩
      have D2 := hide' (dec_below DH.out b2)
      clear b2 cv S1 CI CS CZ DH
      cases eb with
      | false =>
        have R := hide' (RB.out rfl)
        clear RB RG hx
        generalize decide (0 ≤ sz) = gb
        cases gb
        all_goals
          go_wp2_with fail
          go_ret2
          rw [R.out]
          exact ⟨rfl, dec_bel D2.out, by first | exact fun h => absurd rfl h | trivial⟩
      | true =>
        by_cases hz : 0 ≤ sz
        · have R := hide' (RG.out (by simpa using hz))
          have e1 := hx.out hz
          subst e1
          have D3 := hide' (dec_set1 D2.out x)
          have D4 := hide' (dec_set0 D3.out 1)
          have D5 := hide' (dec_set0 D4.out 2)
          obtain ⟨dv, ⟨c0, c1, c2, c3, f0, f1, f2, f3, fz⟩, _⟩ := D2.out
          obtain ⟨dv3, ⟨c30, c31, c32, c33, f30, f31, f32, f33, fz3⟩, _⟩ := D3.out
          obtain ⟨dv4, ⟨c40, c41, c42, c43, f40, f41, f42, f43, fz4⟩, _⟩ := D4.out
          have hz' : decide (0 ≤ x) = true := decide_eq_true hz
          rw [hz']
          by_cases h0 : x = 0
          · subst h0
            clear RB RG hx hz'
            go_wp2_with fail
            go_ret2
            rw [R.out]
            exact ⟨rfl, dec_bel D5.out, fun _ => D5.out⟩
          · have h0' : (x == 0) = false := by simpa using h0
            have N0 : Hid (x.toNat ≠ 0 ∧ ((x.toNat : Nat) : Int) = x) := by unfold Hid; omega
            clear RB RG hx hz' h0
            go_wp2_with fail
            go_ret2
            rw [R.out]
            refine ⟨rfl, dec_bel D4.out, fun _ => ?_⟩
            simp only
            rw [nxOf_pos N0.out.1, N0.out.2]
            exact D4.out
        · have R := hide' (RB.out (by simpa using hz))
          have hz' : decide (0 ≤ sz) = false := decide_eq_false hz
          rw [hz']
          clear RB RG hx hz hz'
          go_wp2_with fail
          go_ret2
          rw [R.out]
          exact ⟨rfl, dec_bel D2.out, by first | exact fun h => absurd rfl h | trivial⟩
end Go.Proofs.YtmikgpmnffdnnaaGreatDoor
namespace Go.Proofs.YtmikgpmnffdnnaaGreatDoor
open Go.RowKit
/-- a row of bytes appended to inside a drawn region -/
theorem step_appC {ops : Array Oper} {o : Oper} {a : Act} {K : Act → World → Prop} {Q : Exit → Act → World → Prop} {E : Prop} {W : World} (hgd : o.guard = none) (s x : Operand)
    (ho : o.op = .call { callee := .builtin .append, args := #[s, x], argTypes := #[22, 22] }) (base : Nat) (v : Value) (bs : List UInt8) (hs : a.eval s = v) (hown : W.ownsRow base 5 1 v bs.length (bs.map B)) (hbase : base ≤ W.heap.size)
    (b off m c : Nat) (qs : List UInt8) (hm : qs.length = m) (hx : a.eval x = .slice (some ⟨b, off, none⟩) m c) (hnews : ∀ j (h : j < qs.length), W.cell? ⟨b, off + j, none⟩ = some (B qs[j])) (hlen : bs.length + m ≤ 140737488355328)
    (h : ∀ v' w', w'.ownsRow base 5 1 v' (bs ++ qs).length ((bs ++ qs).map B) → Below base W w' → K (a.put o.dst v') w') : if Region.wanted o (yielded ops a.tmps) = true then Oper.wp Tryz.prog o a W K Q else E := by
  obtain ⟨i0, hi, hz0, hz1, hz2⟩ := info_parts Tryz.info5
  have hw : Region.wanted o (yielded ops a.tmps) = true := by simp [Region.wanted, hgd]
  rw [if_pos hw]
  subst hm
  refine wp_append_own W s x 22 ho base 5 i0 (.int .u8 0) 1 1 Tryz.underlying22 hi hz0 hz1 hz2 rfl (by decide) v bs.length (bs.map B) hs hown ⟨b, off, none⟩ qs.length c (qs.map B) hx (by simp) ?_ ?_ ?_ ?_ hbase ?_
  · intro j u hj
    rw [Go.WideShapes.add_plain]
    obtain ⟨hj1, hj2⟩ := List.getElem?_eq_some_iff.1 hj
    rw [List.length_map] at hj1
    rw [hnews j hj1, ← hj2]
    simp
  · intro u hu; obtain ⟨x, _, rfl⟩ := List.mem_map.1 hu; rfl
  · unfold maxLen; omega
  · omega
  · intro v' w' h1 h2 _
    refine h v' w' (by rw [List.map_append, List.length_append]; exact h1) ?_
    exact Below.grown (Below.refl _ _) h2 hbase (fun k hk => (hown.lt k hk).1)
theorem row_slice {w : World} {base k n : Nat} {t : TypeId} {v : Value} {cs : List Value} (h : w.ownsRow base t k v n cs) : ∃ a c, v = .slice a n c := by
  rcases h.2 with ⟨rfl, hn⟩ | ⟨x, cap, cur, rfl, _⟩
  · exact ⟨none, 0, by rw [hn]⟩
  · exact ⟨_, _, rfl⟩
theorem quad_base {b base : Nat} {W W' : World} {v0 v1 v2 v3 : Value} (h : Quad b W v0 v1 v2 v3) (hb : Below base W W') (hlt : b < base) : Quad b W' v0 v1 v2 v3 := by
  obtain ⟨h0, h1, h2, h3, f0, f1, f2, f3, hz⟩ := h
  have c : ∀ o, W'.cell? ⟨b, o, none⟩ = W.cell? ⟨b, o, none⟩ := fun o => hb.cell (p := ⟨b, o, none⟩) hlt
  have f : ∀ o, W'.frozen? ⟨b, o, none⟩ = W.frozen? ⟨b, o, none⟩ := fun o => hb.frozen (p := ⟨b, o, none⟩) hlt
  exact ⟨by rw [c]; exact h0, by rw [c]; exact h1, by rw [c]; exact h2, by rw [c]; exact h3, by rw [f]; exact f0, by rw [f]; exact f1, by rw [f]; exact f2, by rw [f]; exact f3, Nat.lt_of_lt_of_le hz hb.size⟩
theorem pair_take (l : List UInt8) (h : 2 ≤ l.length) : (pairB l = true → l.take 2 = [13, 10]) ∧ (pairB l = false → ¬ l.take 2 = [13, 10]) := by
  refine ⟨fun hp => ?_, fun hp e => ?_⟩
  · obtain ⟨t, rfl⟩ := (pair_iff l).1 hp
    rfl
  · have : pairB l = true := (pair_iff l).2 ⟨l.drop 2, by
      have := List.take_append_drop 2 l
      rw [e] at this
      exact this.symm⟩
    rw [this] at hp
    cases hp
theorem ne_text {l : List UInt8} (h : ¬ l = [13, 10]) : (⟨l.toArray⟩ : ByteArray) ≠ ⟨#[13, 10]⟩ := by
  intro e
  apply h
  have := congrArg (fun s : ByteArray => s.data.toList) e
  simpa using this
def rdV (n e : Int) : Value := .tuple #[.int .i64 n, .int .i64 e]
set_option maxHeartbeats 4000000 in
set_option maxRecDepth 20000 in
theorem readDataC (w0 : World) (g s : Nat) (hs0 : 0 < s) (hs1 : s < 4294967296) (out : List UInt8) (hol : out.length ≤ 65536) (tv v : Value) (bs : List UInt8) (w : World) (D : Dec w0 g 1 (s : Int) out tv w) (hv : HoldsB w0 v bs) (_hs : bs.length < 4294967281) :
    Calls Tryz.prog 152 #[.pointer (some ⟨g, 0, none⟩), v] w fun e w' => Below w0.heap.size w0 w' ∧
      ((65536 < out.length + s ∧ e = .returned (rdV 0 71)) ∨ (out.length + s ≤ 65536 ∧ bs.length < s + 2 ∧ e = .returned (rdV 0 0)) ∨ (out.length + s ≤ 65536 ∧ s + 2 ≤ bs.length ∧ pairB (bs.drop s) = false ∧ e = .returned (rdV 0 70)) ∨
       (out.length + s ≤ 65536 ∧ s + 2 ≤ bs.length ∧ pairB (bs.drop s) = true ∧ e = .returned (rdV ((s : Int) + 2) 0) ∧ Dec w0 g 0 (s : Int) (out ++ bs.take s) tv w')) := by
  unfold rdV
  have DH := hide' D
  obtain ⟨dv, q, r, b, hg⟩ := D
  obtain ⟨da, dc, hdv⟩ : ∃ da dc, dv = .slice da out.length dc := by
    rcases r.2 with ⟨rfl, hn⟩ | ⟨x, cap, cur, rfl, _⟩
    · exact ⟨none, 0, by rw [hn]⟩
    · exact ⟨_, _, rfl⟩
  subst hdv
  have Q := hide' q
  have R := hide' r
  have HV := hide' hv
  obtain ⟨k, hk⟩ : ∃ k, k = out.length := ⟨_, rfl⟩
  obtain ⟨n, hn⟩ : ∃ n, n = bs.length := ⟨_, rfl⟩
  obtain ⟨ao, cap, rfl, h0, hcp, hc⟩ := hv
  have HK := hide' hk
  have HN := hide' hn
  rw [← hk] at hol Q R ⊢
  rw [← hn] at hcp ⊢
  obtain ⟨c0, c1, c2, c3, f0, f1, f2, f3, fz⟩ := Q.out
  by_cases h1 : 65536 < k + s
  · have h1' : (65536 : Int) < (k : Int) + (s : Int) := by omega
    clear hk hn q r hc h0 b
    go_enter Tryz.func152, Tryz.ntmps152
    go_wp2_with fail
    go_quiet (fail)
    go_wp2_with fail
    go_ret2
    exact ⟨bt' (dec_bel DH.out) (below_drewN _ _), .inl ⟨h1, rfl⟩⟩
  · have h1' : (k : Int) + (s : Int) ≤ 65536 := by omega
    by_cases h2 : n < s + 2
    · have h2' : (n : Int) < (s : Int) + 2 := by omega
      clear hk hn q r hc h0 b
      go_enter Tryz.func152, Tryz.ntmps152
      go_wp2_with fail
      go_quiet (fail)
      go_wp2_with fail
      go_ret2
      exact ⟨bt' (dec_bel DH.out) (below_drewN _ _), .inr (.inl ⟨by omega, h2, rfl⟩)⟩
    · have h2' : (s : Int) + 2 ≤ (n : Int) := by omega
      obtain ⟨bb, off, rfl, hlt, hcell⟩ := hc (fun e => by rw [e] at hn; simp at hn; omega)
      have sl := fun W => cutp_at bb off n cap s ((s : Int) + 2) (s + 2) (by omega) (by omega) (by omega) (by omega) hcp W
      rw [show s + 2 - s = 2 by omega] at sl
      have hdl : (bs.drop s).length = n - s := by rw [List.length_drop, hn]
      have hv2 : HoldsB w0 (.slice (some ⟨bb, off + s, none⟩) 2 (cap - s)) ((bs.drop s).take 2) := by
        have e2 : Lib.fromV (some ⟨bb, off, none⟩) bs.length cap s = .slice (some ⟨bb, off + s, none⟩) (bs.length - s) (cap - s) := by
          unfold Lib.fromV
          rw [if_neg (by omega)]
          simp [Addr.add]
          omega
        have HS' := holdsB_suf (i := s) HV.out (by omega)
        rw [e2, ← List.length_drop] at HS'
        exact holdsB_pre HS' 2 (by omega)
      have l2 : ((bs.drop s).take 2).length = 2 := by rw [List.length_take]; omega
      have pt := pair_take (bs.drop s) (by omega)
      have cv := fun W (hb : Below w0.heap.size w0 W) => conv_holdsB W (some ⟨bb, off + s, none⟩) (cap - s) ((bs.drop s).take 2) (by rw [l2]; exact holdsB_mono hv2 hb)
      rw [l2] at cv
      have CV := hide' cv
      have DQ := fun W (hb : Below w.heap.size w W) => dec_below DH.out hb
      have DQH := hide' DQ
      clear hv2 cv DQ hdl
      cases hp : pairB (bs.drop s) with
      | false =>
        have ne := pt.2 hp
        generalize (bs.drop s).take 2 = q2 at CV ne l2
        have n0 := ne_text ne
        have n1 : ((⟨q2.toArray⟩ : ByteArray).toList == [13, 10]) = false := by rw [Lib.toList_data]; simpa using ne
        have n2 : (q2 == [13, 10]) = false := by simpa using ne
        clear hk hn q r hc h0 b pt hp ne hcell
        go_enter Tryz.func152, Tryz.ntmps152
        go_wp2_with fail
        go_quiet (fail)
        have DW := DQH.out (w.drewN nq) (below_drewN _ _)
        obtain ⟨dv4, ⟨d0, d1, d2, d3, e0, e1, e2, e3, ez⟩, _⟩ := DW
        have cvw := CV.out _ (dec_bel (DQH.out (w.drewN nq) (below_drewN _ _)))
        have BW := hide' (dec_bel (DQH.out (w.drewN nq) (below_drewN _ _)))
        generalize w.drewN nq = W2 at d0 d1 d2 d3 e0 e1 e2 e3 ez cvw BW ⊢
        go_wp2_with fail
        go_ret2
        exact ⟨BW.out, .inr (.inr (.inl ⟨by omega, by omega, by first | rfl | trivial, rfl⟩))⟩
      | true =>
        have e13 := pt.1 hp
        rw [e13] at CV
        have ht : (bs.take s).length = s := by rw [List.length_take]; omega
        have st := fun W (k2 : Nat) (hk2 : k2 = s) => (holdsB_take HV.out s (by omega))
        have sl2 : ∀ W, Sem.run Tryz.prog (Instr.slice 22 (.slice (some ⟨bb, off, none⟩) n cap) none (some (.int .i64 (s : Int))) none) W = .ok (.slice (some ⟨bb, off, none⟩) s cap) W := by
          intro W
          have hel : Tryz.prog.elem 22 = 5 := by kernel_rfl
          have hh := run_slice_h (P := Tryz.prog) W 22 (some ⟨bb, off, none⟩) n cap (by rw [hel]; exact Tryz.underlying22) .i64 s (by omega) (by omega)
          rw [hel, Tryz.sizeOf5] at hh
          simp only [Result.andThen, Int.toNat_natCast, sliced] at hh
          rw [hh]
          simp [Addr.add]
        have cs : ∀ W, Below w0.heap.size w0 W → ∀ j (h : j < (bs.take s).length), W.cell? ⟨bb, off + j, none⟩ = some (B (bs.take s)[j]) := by
          intro W hb j hj
          rw [hb.cell (p := ⟨bb, off + j, none⟩) hlt, hcell j (by rw [List.length_take] at hj; omega)]
          simp
        have CS := hide' cs
        have HT := hide' ht
        generalize bs.take s = qs at CS HT ⊢
        clear hk hn q r hc h0 b pt hp e13 hcell st cs ht
        go_enter Tryz.func152, Tryz.ntmps152
        go_wp2_with fail
        go_quiet (fail)
        obtain ⟨dv4, q4, r4, b4, _⟩ := DQH.out (w.drewN nq) (below_drewN _ _)
        obtain rfl : dv4 = .slice da k dc := by
          have h5 : (w.drewN nq).cell? ⟨g, 2, none⟩ = some (.slice da k dc) := by
            rw [(below_drewN w nq).cell (p := ⟨g, 2, none⟩) fz]; exact c2
          have h6 := q4.2.2.1
          rw [h5] at h6
          exact (Option.some.inj h6).symm
        obtain ⟨d0, d1, d2, d3, e0, e1, e2, e3, ez⟩ := q4
        have Q4 : Hid (Quad g (w.drewN nq) (.int .i64 1) (.int .i64 (s : Int)) (.slice da k dc) tv) := ⟨d0, d1, d2, d3, e0, e1, e2, e3, ez⟩
        have R4 := hide' r4
        have B4 := hide' b4
        have cvw := CV.out _ b4
        rw [← HK.out] at R4
        clear r4 b4
        generalize w.drewN nq = W2 at d0 d1 d2 d3 e0 e1 e2 e3 ez cvw Q4 R4 B4 ⊢
        go_wp2_with fail
        go_region_law
          ((refine step_appC (by rfl) _ _ (by rfl) (g + 1) _ out (by first | rfl | simp [Act.eval, Act.put]) (by rw [← HK.out]; exact R4.out.drew) (by have h9 := ez; simp; omega) bb off s cap qs HT.out (by first | rfl | simp [Act.eval, Act.put]) (CS.out _ B4.out.drew) (by rw [← HK.out]; omega) ?_; intro v2 w2 row2 bel2;
            have Q2 := hide' (quad_base (W := W2.drew) (quad_below Q4.out ((Below.refl _ _).drew)) bel2 (Nat.lt_succ_self g));
            have bw2 := hide' (B4.out.drew.trans (bel2.mono (by omega)));
            obtain ⟨va, vc, hv2⟩ := row_slice row2; rw [List.length_append] at hv2; subst hv2;
            have RW2 := hide' row2;
            obtain ⟨k0, k1, k2, k3, j0, j1, j2, j3, jz⟩ := Q2.out; clear row2 bel2))
        all_goals
          have Q3 := hide' (quad_set2 Q2.out (.slice va (out.length + qs.length) vc))
          have Q5 := hide' (quad_set0 Q3.out (.int .i64 0))
          obtain ⟨p0, p1, p2, p3, o0, o1, o2, o3, oz⟩ := Q3.out
          go_wp2_with fail
          go_ret2
          exact ⟨(bw2.out.setCell hg _).setCell hg _, .inr (.inr (.inr ⟨by omega, by omega, by first | rfl | trivial, rfl, _, Q5.out, row_poke (row_poke RW2.out (Nat.lt_succ_self g)) (Nat.lt_succ_self g), (bw2.out.setCell hg _).setCell hg _, hg⟩))⟩
set_option maxHeartbeats 4000000 in
set_option maxRecDepth 20000 in
theorem tlenTok (v : Value) (bs : List UInt8) (w : World) (hv : HoldsB w v bs) (M : MaxV w) (hs : bs.length < 4294967281) :
    Calls Tryz.prog 170 #[v] w fun e w' => e = .returned (rdV ((tlenC bs).1 : Int) (tlenC bs).2) ∧ Below w.heap.size w w' := by
  unfold rdV
  have HV := hide' hv
  obtain ⟨ao, cap, rfl, h0, hcp, _⟩ := hv
  have cP := hasPair ao cap bs w HV.out
  have kc := mark2 w
  cases hp : pairB bs with
  | true =>
    rw [hp] at cP
    have C := hide' cP
    have T : tlenC bs = (2, 0) := by unfold tlenC; rw [if_pos hp]
    rw [T]
    obtain ⟨n, hn⟩ : ∃ n, n = bs.length := ⟨_, rfl⟩
    rw [← hn] at C hs hcp ⊢
    clear cP hp T hn HV M h0
    go_enter Tryz.func170, Tryz.ntmps170
    go_wp2_with fail
    refine C.out.mono ?_
    clear kc
    rintro e w1 ⟨rfl, b1⟩
    have B1 := hide' b1
    clear b1
    go_wp2_with fail
    go_ret2
    exact ⟨rfl, B1.out⟩
  | false =>
    rw [hp] at cP
    have C := hide' cP
    have T : tlenC bs = endOf bs 0 := by unfold tlenC; rw [hp, if_neg (by simp)]
    rw [T]
    have cI := hide' (fun W (hb : Below w.heap.size w W) => indexB ao cap bs W (holdsB_mono HV.out hb) (maxV_below M hb) hs)
    rcases index_cases (bs.drop 0) E4 with hi | ⟨i, hi⟩
    · have en := end_none bs 0 hi
      rw [List.drop_zero] at hi
      rw [hi] at cI
      have EN := hide' en
      by_cases hl : 8192 ≤ bs.length
      · rw [if_pos hl] at EN
        rw [EN.out]
        obtain ⟨n, hn⟩ : ∃ n, n = bs.length := ⟨_, rfl⟩
        rw [← hn] at C cI hs hcp hl ⊢
        have t1 : decide ((n : Int) < 8192) = false := decide_eq_false (by omega)
        have HLL := hide' hl
        clear hl
        clear cP hp T hn HV M h0 en EN hi
        go_enter Tryz.func170, Tryz.ntmps170
        go_wp2_with fail
        refine C.out.mono ?_
        clear kc
        rintro e w1 ⟨rfl, b1⟩
        have B1 := hide' b1
        have kc := mark4 w1
        clear b1
        go_wp2_with fail
        refine (cI.out w1 B1.out).mono ?_
        clear kc
        rintro e w2 ⟨rfl, b2⟩
        have B2 := hide' (bt' B1.out b2)
        clear b2
        go_wp2_with fail
        go_ret2
        exact ⟨rfl, B2.out⟩
      · rw [if_neg hl] at EN
        rw [EN.out]
        obtain ⟨n, hn⟩ : ∃ n, n = bs.length := ⟨_, rfl⟩
        rw [← hn] at C cI hs hcp hl ⊢
        have t1 : decide ((n : Int) < 8192) = true := decide_eq_true (by omega)
        have HLL := hide' hl
        clear hl
        clear cP hp T hn HV M h0 en EN hi
        go_enter Tryz.func170, Tryz.ntmps170
        go_wp2_with fail
        refine C.out.mono ?_
        clear kc
        rintro e w1 ⟨rfl, b1⟩
        have B1 := hide' b1
        have kc := mark4 w1
        clear b1
        go_wp2_with fail
        refine (cI.out w1 B1.out).mono ?_
        clear kc
        rintro e w2 ⟨rfl, b2⟩
        have B2 := hide' (bt' B1.out b2)
        clear b2
        go_wp2_with fail
        go_ret2
        exact ⟨rfl, B2.out⟩
    · have en := end_some bs 0 i hi
      have hro := occ_len _ _ _ (by decide) (index_is _ _ _ hi).2.1
      rw [List.drop_zero] at hi hro
      rw [hi] at cI
      rw [show E4.length = 4 from rfl] at hro
      have EN := hide' en
      by_cases hl : 8192 < 0 + i + 4
      · rw [if_pos hl] at EN
        rw [EN.out]
        obtain ⟨n, hn⟩ : ∃ n, n = bs.length := ⟨_, rfl⟩
        rw [← hn] at C cI hs hcp hro ⊢
        have t1 : decide ((8192 : Int) < (i : Int) + 4) = true := decide_eq_true (by omega)
        clear cP hp T hn HV M h0 en EN hi hl
        go_enter Tryz.func170, Tryz.ntmps170
        go_wp2_with fail
        refine C.out.mono ?_
        clear kc
        rintro e w1 ⟨rfl, b1⟩
        have B1 := hide' b1
        have kc := mark4 w1
        clear b1
        go_wp2_with fail
        refine (cI.out w1 B1.out).mono ?_
        clear kc
        rintro e w2 ⟨rfl, b2⟩
        have B2 := hide' (bt' B1.out b2)
        clear b2
        go_wp2_with fail
        go_ret2
        exact ⟨rfl, B2.out⟩
      · rw [if_neg hl] at EN
        rw [EN.out]
        obtain ⟨n, hn⟩ : ∃ n, n = bs.length := ⟨_, rfl⟩
        rw [← hn] at C cI hs hcp hro ⊢
        have t1 : decide ((8192 : Int) < (i : Int) + 4) = false := decide_eq_false (by omega)
        clear cP hp T hn HV M h0 en EN hi hl
        go_enter Tryz.func170, Tryz.ntmps170
        go_wp2_with fail
        refine C.out.mono ?_
        clear kc
        rintro e w1 ⟨rfl, b1⟩
        have B1 := hide' b1
        have kc := mark4 w1
        clear b1
        go_wp2_with fail
        refine (cI.out w1 B1.out).mono ?_
        clear kc
        rintro e w2 ⟨rfl, b2⟩
        have B2 := hide' (bt' B1.out b2)
        clear b2
        go_wp2_with fail
        go_ret2
        exact ⟨by first | rfl | (congr 1; simp), B2.out⟩
/-- a decoder that has read the trailers -/
def FinD (w0 : World) (g : Nat) (s : Int) (out : List UInt8) (fs : FL) (w : World) : Prop :=
  ∃ dv tv, Quad g w (.int .i64 3) (.int .i64 s) dv tv ∧ w.ownsRow (g + 1) 5 1 dv out.length (out.map B) ∧ w.ownsRow (g + 1) 102 2 tv fs.length (cellsF fs) ∧ Below w0.heap.size w0 w ∧ w0.heap.size ≤ g
set_option maxHeartbeats 4000000 in
set_option maxRecDepth 20000 in
theorem readTrailersC (w0 : World) (g : Nat) (s : Int) (out : List UInt8) (tv v : Value) (bs : List UInt8) (w : World) (D : Dec w0 g 2 s out tv w) (hv : HoldsB w0 v bs) (hs : bs.length < 4294967281) (E : Env w0) :
    Calls Tryz.prog 153 #[.pointer (some ⟨g, 0, none⟩), v] w fun e w' => e = .returned (rdV ((tailC bs).2.1 : Int) (tailC bs).2.2) ∧ Below w0.heap.size w0 w' ∧ Hid ((tailC bs).2.1 ≠ 0 → FinD w0 g s out (tailC bs).1 w') := by
  unfold rdV
  have DH := hide' D
  have hb := dec_bel D
  have cT := tlenTok v bs w (holdsB_mono hv hb) (maxV_below E.1 hb) hs
  unfold rdV at cT
  have EV := hide' E
  by_cases h0 : (tlenC bs).1 = 0
  · have R := tail_len0 bs h0
    rw [R]
    rw [h0] at cT
    generalize (tlenC bs).2 = te at cT ⊢
    have C := hide' cT
    clear cT h0 R hv hb E D
    go_enter Tryz.func153, Tryz.ntmps153
    go_wp2_with fail
    refine C.out.mono ?_
    rintro e w1 ⟨rfl, b1⟩
    have D1 := hide' (dec_below DH.out b1)
    clear b1 C
    go_wp2_with fail
    go_ret2
    exact ⟨rfl, dec_bel D1.out, by first | exact fun h => absurd rfl h | trivial⟩
  · obtain ⟨t1, t2, t3, t4, R⟩ := tail_len1 bs h0
    rw [t1] at cT
    generalize (tlenC bs).1 = N at cT t2 t3 t4 R
    obtain ⟨pv, s1, HP⟩ := holdsB_take hv (N - 2) (by omega)
    have hpl : (bs.take (N - 2)).length < 4294967281 := by rw [List.length_take]; omega
    have cF := hide' (fun W (hb : Below w0.heap.size w0 W) => parseC pv (bs.take (N - 2)) W (holdsB_mono HP hb) (env_below EV.out hb) hpl)
    have fl := parse_len (bs.take (N - 2))
    generalize parseOf (bs.take (N - 2)) = f at R cF fl
    obtain ⟨fs, fe⟩ := f
    simp only at R cF fl
    have S1 : ∀ W, Sem.run Tryz.prog (Instr.slice 22 v none (some (.int .i64 ((N : Int) - 2))) none) W = .ok pv W := by
      intro W
      have := s1 W
      rwa [show (((N - 2 : Nat) : Int)) = (N : Int) - 2 by omega] at this
    have hN0 : ((N : Int) == 0) = false := by simp; omega
    have RH := hide' R
    have C := hide' cT
    obtain ⟨ao, cap, rfl, _⟩ := hv
    clear cT R HP hpl s1 t1 t3 hb E D h0
    go_enter Tryz.func153, Tryz.ntmps153
    go_wp2_with fail
    refine C.out.mono ?_
    rintro e w1 ⟨rfl, b1⟩
    have D1 := hide' (dec_below DH.out b1)
    clear b1 C
    go_wp2_with fail
    refine (cF.out _ (dec_bel D1.out)).mono ?_
    rintro e w2 ⟨lv, rfl, ho⟩
    obtain ⟨la, lc, lb, lo, hlv, _⟩ := holdsF_parts (holdsF_own ho)
    subst hlv
    have D2 := hide' (dec_below D1.out ho.2)
    have hw1 : g + 1 ≤ w1.heap.size := by obtain ⟨_, q, _⟩ := D1.out; exact q.2.2.2.2.2.2.2.2
    have RO := hide' (row_base ho.1 hw1)
    clear ho cF
    have D3 := hide' (dec_set3 D2.out (.slice la fs.length lc))
    obtain ⟨dv, ⟨c0, c1, c2, c3, f0, f1, f2, f3, fz⟩, _⟩ := D2.out
    obtain ⟨dv3, ⟨c30, c31, c32, c33, f30, f31, f32, f33, fz3⟩, _⟩ := D3.out
    by_cases g2 : fe = 0
    · subst g2
      rw [if_pos rfl] at RH
      have D4 := hide' (dec_set0 D3.out 3)
      go_wp2_with fail
      go_ret2
      rw [RH.out]
      refine ⟨rfl, dec_bel D4.out, fun _ => ?_⟩
      obtain ⟨dv5, q5, r5, b5, hg⟩ := D4.out
      exact ⟨dv5, .slice la fs.length lc, q5, r5, row_poke (row_poke RO.out (Nat.lt_succ_self g)) (Nat.lt_succ_self g), b5, hg⟩
    · have t2' : (fe != 0) = true := by simpa using g2
      rw [if_neg g2] at RH
      clear g2
      go_wp2_with fail
      go_ret2
      rw [RH.out]
      exact ⟨rfl, dec_bel D3.out, by first | exact fun h => absurd rfl h | trivial⟩
end Go.Proofs.YtmikgpmnffdnnaaGreatDoor
namespace Go.Proofs.YtmikgpmnffdnnaaGreatDoor
open Go.RowKit
set_option maxHeartbeats 2000000 in
set_option maxRecDepth 20000 in
theorem readC0 (w0 : World) (g : Nat) (s : Int) (out : List UInt8) (tv v : Value) (bs : List UInt8) (w : World) (D : Dec w0 g 0 s out tv w) (hv : HoldsB w v bs) (hs : bs.length < 4294967281) (E : Er w) (M : MaxV w) :
    Calls Tryz.prog 121 #[.pointer (some ⟨g, 0, none⟩), v] w fun e w' => e = .returned (.tuple #[.int .i64 ((lineC bs).2.1 : Int), .int .i64 (lineC bs).2.2]) ∧ Below w0.heap.size w0 w' ∧ Hid ((lineC bs).2.1 ≠ 0 → Dec w0 g (nxOf (lineC bs).1) ((lineC bs).1 : Int) out tv w') := by
  have C := readSizeC w0 g s out tv v bs w D hv hs E M
  unfold szV at C
  have CH := hide' C
  obtain ⟨dv, ⟨c0, c1, c2, c3, f0, f1, f2, f3, fz⟩, _⟩ := D
  obtain ⟨ao, cap, rfl, _⟩ := hv
  clear C E M hs
  generalize lineC bs = L at CH ⊢
  obtain ⟨l1, l2, l3⟩ := L
  go_enter Tryz.func121, Tryz.ntmps121
  go_wp2_with fail
  refine CH.out.mono ?_
  rintro e w1 ⟨rfl, b1, hD⟩
  have B1 := hide' b1
  clear b1 CH
  go_wp2_with fail
  go_ret2
  exact ⟨rfl, B1.out, hD⟩
set_option maxHeartbeats 2000000 in
set_option maxRecDepth 20000 in
theorem readC1 (w0 : World) (g s : Nat) (hs0 : 0 < s) (hs1 : s < 4294967296) (out : List UInt8) (hol : out.length ≤ 65536) (tv v : Value) (bs : List UInt8) (w : World) (D : Dec w0 g 1 (s : Int) out tv w) (hv : HoldsB w0 v bs) (hs : bs.length < 4294967281) :
    Calls Tryz.prog 121 #[.pointer (some ⟨g, 0, none⟩), v] w fun e w' => Below w0.heap.size w0 w' ∧
      ((65536 < out.length + s ∧ e = .returned (rdV 0 71)) ∨ (out.length + s ≤ 65536 ∧ bs.length < s + 2 ∧ e = .returned (rdV 0 0)) ∨ (out.length + s ≤ 65536 ∧ s + 2 ≤ bs.length ∧ pairB (bs.drop s) = false ∧ e = .returned (rdV 0 70)) ∨
       (out.length + s ≤ 65536 ∧ s + 2 ≤ bs.length ∧ pairB (bs.drop s) = true ∧ e = .returned (rdV ((s : Int) + 2) 0) ∧ Dec w0 g 0 (s : Int) (out ++ bs.take s) tv w')) := by
  have C := readDataC w0 g s hs0 hs1 out hol tv v bs w D hv hs
  unfold rdV at C ⊢
  have CH := hide' C
  obtain ⟨dv, ⟨c0, c1, c2, c3, f0, f1, f2, f3, fz⟩, _⟩ := D
  obtain ⟨ao, cap, rfl, _⟩ := hv
  clear C hs
  go_enter Tryz.func121, Tryz.ntmps121
  go_wp2_with fail
  refine CH.out.mono ?_
  rintro e w1 ⟨b1, h⟩
  have B1 := hide' b1
  clear b1 CH
  rcases h with ⟨h1, rfl⟩ | ⟨h1, h2, rfl⟩ | ⟨h1, h2, h3, rfl⟩ | ⟨h1, h2, h3, rfl, h4⟩
  · have H1 := hide' h1
    clear h1
    go_wp2_with fail
    go_ret2
    exact ⟨B1.out, .inl ⟨H1.out, rfl⟩⟩
  · have H1 := hide' h1
    have H2 := hide' h2
    clear h1 h2
    go_wp2_with fail
    go_ret2
    exact ⟨B1.out, .inr (.inl ⟨H1.out, H2.out, rfl⟩)⟩
  · have H1 := hide' h1
    have H2 := hide' h2
    have H3 := hide' h3
    clear h1 h2 h3
    go_wp2_with fail
    go_ret2
    exact ⟨B1.out, .inr (.inr (.inl ⟨H1.out, H2.out, H3.out, rfl⟩))⟩
  · have H1 := hide' h1
    have H2 := hide' h2
    have H3 := hide' h3
    have H4 := hide' h4
    clear h1 h2 h3 h4
    go_wp2_with fail
    go_ret2
    exact ⟨B1.out, .inr (.inr (.inr ⟨H1.out, H2.out, H3.out, rfl, H4.out⟩))⟩
set_option maxHeartbeats 2000000 in
set_option maxRecDepth 20000 in
theorem readC2 (w0 : World) (g : Nat) (s : Int) (out : List UInt8) (tv v : Value) (bs : List UInt8) (w : World) (D : Dec w0 g 2 s out tv w) (hv : HoldsB w0 v bs) (hs : bs.length < 4294967281) (E : Env w0) :
    Calls Tryz.prog 121 #[.pointer (some ⟨g, 0, none⟩), v] w fun e w' => e = .returned (.tuple #[.int .i64 ((tailC bs).2.1 : Int), .int .i64 (tailC bs).2.2]) ∧ Below w0.heap.size w0 w' ∧ Hid ((tailC bs).2.1 ≠ 0 → FinD w0 g s out (tailC bs).1 w') := by
  have C := readTrailersC w0 g s out tv v bs w D hv hs E
  unfold rdV at C
  have CH := hide' C
  obtain ⟨dv, ⟨c0, c1, c2, c3, f0, f1, f2, f3, fz⟩, _⟩ := D
  obtain ⟨ao, cap, rfl, _⟩ := hv
  clear C E hs
  generalize tailC bs = L at CH ⊢
  obtain ⟨l1, l2, l3⟩ := L
  go_enter Tryz.func121, Tryz.ntmps121
  go_wp2_with fail
  refine CH.out.mono ?_
  rintro e w1 ⟨rfl, b1, hD⟩
  have B1 := hide' b1
  clear b1 CH
  go_wp2_with fail
  go_ret2
  exact ⟨rfl, B1.out, hD⟩
theorem line_size (b : List UInt8) : (lineC b).1 < 4294967296 := by
  rcases lineC_cases b with e | e | ⟨s, e, hlt, _⟩
  · rw [e]; decide
  · rw [e]; decide
  · have h2 : lineC b = ((sizeC (b.take (lenL b - 1))).toNat, lenL b + 1, 0) := by
      unfold lineC at e ⊢
      split
      · rename_i q; omega
      · split
        · rename_i q1 q2; rw [if_neg q1, if_pos q2] at e; simp at e
        · rfl
    rw [h2]
    have h3 : sizeC (b.take (lenL b - 1)) < 4294967296 := by
      unfold sizeC
      split
      · decide
      · rename_i q
        have h4 := hexS_lt ((b.take (lenL b - 1)).takeWhile isHex)
        have h5 : 16 ^ ((b.take (lenL b - 1)).takeWhile isHex).length ≤ 16 ^ 8 := Nat.pow_le_pow_right (by decide) (by omega)
        have h6 : (16 : Nat) ^ 8 = 4294967296 := by decide
        omega
    show (sizeC (b.take (lenL b - 1))).toNat < 4294967296
    omega
def decV (r : List UInt8 × FL × Nat × Int) (dv lv : Value) : Value := .tuple #[dv, lv, .int .i64 (r.2.2.1 : Int), .int .i64 r.2.2.2]
/-- the decoder's block at one time -/
def At (w : World) (bs : List UInt8) (nx : Int) (s : Nat) (out : List UInt8) (fs : FL) (n : Nat) (wr : World) : Prop :=
  DS bs nx s out fs n ∧ ((nx ≠ 3 ∧ Dec w w.heap.size nx (s : Int) out (.slice none 0 0) wr) ∨ (nx = 3 ∧ FinD w w.heap.size (s : Int) out fs wr))
theorem at_start (w : World) (bs : List UInt8) : At w bs 0 0 [] [] 0 (w.alloc (.cells #[.int .i64 0, .int .i64 0, .slice none 0 0, .slice none 0 0] 138)) :=
  ⟨ds_start bs, .inl ⟨by decide, .slice none 0 0, quad_lit w _ _ _ _ _, World.ownsRow_nil _ _ _ _, below_alloc' _ _, Nat.le_refl _⟩⟩
set_option maxHeartbeats 8000000 in
set_option maxRecDepth 20000 in
theorem decC (v : Value) (bs : List UInt8) (w : World) (hv : HoldsB w v bs) (E : Env w) (R : Er w) (hs : bs.length < 4294967281) :
    Calls Tryz.prog 91 #[v] w fun e w' => ∃ dv lv, e = .returned (decV (decOf bs) dv lv) ∧ Own w dv (decOf bs).1 w' ∧ OwnF w lv (decOf bs).2.1 w' := by
  have HV := hide' hv
  have EV := hide' E
  have RV := hide' R
  obtain ⟨ao, cap, rfl, h0, hcp, _⟩ := hv
  obtain ⟨N, hN⟩ : ∃ N, N = bs.length := ⟨_, rfl⟩
  have HN := hide' hN
  rw [← hN] at hs hcp ⊢
  clear hN E R h0
  go_enter Tryz.func91, Tryz.ntmps91
  go_wp2_with fail
  go_loopw [7, 8, 9] (fun lv _ _ wr => ∃ (n : Nat) (nx : Int) (s : Nat) (out : List UInt8) (fs : FL), lv = .int .i64 n ∧ n ≤ N ∧ s < 4294967296 ∧ Hid (At w bs nx s out fs n wr)) (fun lv _ _ _ => N - (intOf lv).toNat)
  case atStart => exact ⟨0, 0, 0, [], [], rfl, Nat.zero_le _, by decide, at_start w bs⟩
  case round =>
    obtain ⟨n, nx, s, out, fs, rfl, hn, hsz, A⟩ := hrel
    obtain ⟨ds, hA⟩ := A.out
    have DSH := hide' ds
    rcases hA with ⟨h3, D⟩ | ⟨h3, F⟩
    · have hb := dec_bel D
      have sl := fun W => from_run ao N cap n hn hcp W
      have HS := holdsB_suf HV.out n (by rw [← HN.out]; exact hn)
      rw [← HN.out] at HS
      obtain ⟨vs, hvs⟩ : ∃ vs, vs = Lib.fromV ao N cap n := ⟨_, rfl⟩
      rw [← hvs] at HS sl
      have dl : (bs.drop n).length = N - n := by rw [List.length_drop, HN.out]
      have hdl : (bs.drop n).length < 4294967281 := by omega
      have D9 := D
      obtain ⟨dv, ⟨c0, c1, c2, c3, f0, f1, f2, f3, fz⟩, _⟩ := D9
      clear hvs A
      rcases ds_nx ds with rfl | rfl | rfl | rfl
      · have C := hide' (readC0 w w.heap.size (s : Int) out (.slice none 0 0) vs (bs.drop n) wr D (holdsB_mono HS hb) hdl (er_below RV.out hb) (maxV_below EV.out.1 hb))
        have st := ds_size ds
        have ls := line_size (bs.drop n)
        have hle : (lineC (bs.drop n)).2.1 ≤ N - n := by
          rcases lineC_cases (bs.drop n) with e | e | ⟨s, e, hlt, _⟩
          · rw [e]; exact Nat.zero_le _
          · rw [e]; exact Nat.zero_le _
          · rw [e]; show lenL (bs.drop n) + 1 ≤ N - n; omega
        generalize lineC (bs.drop n) = L at C st ls hle
        obtain ⟨l1, l2, l3⟩ := L
        simp only at C st ls hle
        have ST := hide' st
        clear st ds HS dl hdl hb DSH D
        have hN2 : N < 4294967281 := hs
        go_wp2_with fail
        refine C.out.mono ?_
        rintro e w1 ⟨rfl, b1, hD⟩
        have B1 := hide' b1
        clear b1 C
        by_cases hz : l2 = 0
        · subst hz
          have RR := hide' (ST.out.1 rfl)
          clear ST hD
          go_wp2_with fail
          exact bodyPost_ret (v := .tuple #[.slice none 0 0, .slice none 0 0, .int .i64 0, .int .i64 l3]) (by simp [results, Tryz.results91, go_sem]) rfl ⟨.slice none 0 0, .slice none 0 0, by rw [RR.out]; rfl, by rw [RR.out]; exact own_nil _ _ B1.out, by rw [RR.out]; exact ownF_nil _ _ B1.out⟩
        · have hz' : ((l2 : Int) == 0) = false := by simp; omega
          have RR := hide' (ST.out.2 hz)
          have DD := hide' (hD.out hz)
          clear ST hD
          go_wp2_with fail
          go_roundw
          case rel => exact ⟨n + l2, _, l1, out, [], by go_num, by omega, ls, RR.out, .inl ⟨nxOf_ne _, DD.out⟩⟩
          case measure => simp [intOf]; omega
      · have hs0 : 0 < s := by
          rcases ds.2.2 with h | h | h | h
          · exact absurd h.1 (by decide)
          · obtain ⟨_, _, f, m, k, _, h5, _⟩ := h; omega
          · exact absurd h.1 (by decide)
          · exact absurd h.1 (by decide)
        have C := hide' (readC1 w w.heap.size s hs0 hsz out ds.2.1 (.slice none 0 0) vs (bs.drop n) wr D HS hdl)
        unfold rdV at C
        have ST := hide' (ds_data ds)
        have DL := hide' dl
        clear ds HS dl hdl hb DSH D
        have hN2 : N < 4294967281 := hs
        go_wp2_with fail
        refine C.out.mono ?_
        rintro e w1 ⟨b1, h⟩
        have B1 := hide' b1
        clear b1 C
        rcases h with ⟨h1, rfl⟩ | ⟨h1, h2, rfl⟩ | ⟨h1, h2, h3, rfl⟩ | ⟨h1, h2, h3, rfl, h4⟩
        · have RR := hide' (ST.out.1 h1)
          clear ST h1
          go_wp2_with fail
          exact bodyPost_ret (v := .tuple #[.slice none 0 0, .slice none 0 0, .int .i64 0, .int .i64 71]) (by simp [results, Tryz.results91, go_sem]) rfl ⟨.slice none 0 0, .slice none 0 0, by rw [RR.out]; rfl, by rw [RR.out]; exact own_nil _ _ B1.out, by rw [RR.out]; exact ownF_nil _ _ B1.out⟩
        · have RR := hide' (ST.out.2.1 h1 h2)
          clear ST h1 h2
          go_wp2_with fail
          exact bodyPost_ret (v := .tuple #[.slice none 0 0, .slice none 0 0, .int .i64 0, .int .i64 0]) (by simp [results, Tryz.results91, go_sem]) rfl ⟨.slice none 0 0, .slice none 0 0, by rw [RR.out]; rfl, by rw [RR.out]; exact own_nil _ _ B1.out, by rw [RR.out]; exact ownF_nil _ _ B1.out⟩
        · have RR := hide' (ST.out.2.2.1 h1 h2 h3)
          clear ST h1 h2 h3
          go_wp2_with fail
          exact bodyPost_ret (v := .tuple #[.slice none 0 0, .slice none 0 0, .int .i64 0, .int .i64 70]) (by simp [results, Tryz.results91, go_sem]) rfl ⟨.slice none 0 0, .slice none 0 0, by rw [RR.out]; rfl, by rw [RR.out]; exact own_nil _ _ B1.out, by rw [RR.out]; exact ownF_nil _ _ B1.out⟩
        · have RR := hide' (ST.out.2.2.2 h1 h2 h3)
          have DD := hide' h4
          have hle : s + 2 ≤ N - n := by rw [← DL.out]; exact h2
          have hz' : (((s : Int) + 2) == 0) = false := by simp; omega
          clear ST h1 h2 h3 h4
          go_wp2_with fail
          go_roundw
          case rel => exact ⟨n + (s + 2), 0, s, _, [], by go_num, by omega, hsz, RR.out, .inl ⟨by decide, DD.out⟩⟩
          case measure => simp [intOf]; omega
      · have C := hide' (readC2 w w.heap.size (s : Int) out (.slice none 0 0) vs (bs.drop n) wr D HS hdl EV.out)
        have st := ds_tail ds
        have hle : (tailC (bs.drop n)).2.1 ≤ N - n := by
          rcases tail_need (bs.drop n) with e | e | ⟨_, e, _⟩
          · rw [e]; exact Nat.zero_le _
          · rcases Nat.eq_zero_or_pos (tailC (bs.drop n)).2.1 with h | h
            · omega
            · have h5 := (st.2 (by omega)).1
              have h6 := HN.out
              omega
          · omega
        generalize tailC (bs.drop n) = L at C st hle
        obtain ⟨l1, l2, l3⟩ := L
        simp only at C st hle
        have ST := hide' st
        clear st ds HS dl hdl hb DSH D
        have hN2 : N < 4294967281 := hs
        go_wp2_with fail
        refine C.out.mono ?_
        rintro e w1 ⟨rfl, b1, hD⟩
        have B1 := hide' b1
        clear b1 C
        by_cases hz : l2 = 0
        · subst hz
          have RR := hide' (ST.out.1 rfl)
          clear ST hD
          go_wp2_with fail
          exact bodyPost_ret (v := .tuple #[.slice none 0 0, .slice none 0 0, .int .i64 0, .int .i64 l3]) (by simp [results, Tryz.results91, go_sem]) rfl ⟨.slice none 0 0, .slice none 0 0, by rw [RR.out]; rfl, by rw [RR.out]; exact own_nil _ _ B1.out, by rw [RR.out]; exact ownF_nil _ _ B1.out⟩
        · have hz' : ((l2 : Int) == 0) = false := by simp; omega
          have RR := hide' (ST.out.2 hz)
          have DD := hide' (hD.out hz)
          clear ST hD
          go_wp2_with fail
          go_roundw
          case rel => exact ⟨n + l2, 3, s, out, l1, by go_num, by omega, hsz, RR.out, .inr ⟨rfl, DD.out⟩⟩
          case measure => simp [intOf]; omega
      · exact absurd rfl h3
    · subst h3
      have RR := hide' (ds_end ds)
      obtain ⟨dv, tv, q, r1, r2, b, hg⟩ := F
      have HR1 := hide' r1
      have HR2 := hide' r2
      have HB := hide' b
      obtain ⟨c0, c1, c2, c3, f0, f1, f2, f3, fz⟩ := q
      clear A ds DSH r1 r2 b hg
      go_wp2_with fail
      go_quiet (fail)
      go_wp2_with fail
      have hb2 := below_drewN wr nq
      exact bodyPost_ret (v := .tuple #[dv, tv, .int .i64 (n : Int), .int .i64 0]) (by simp [results, Tryz.results91, go_sem]) rfl ⟨dv, tv, by rw [RR.out]; rfl, by rw [RR.out]; exact ⟨row_base (row_below HR1.out hb2) (by omega), bt' HB.out hb2⟩, by rw [RR.out]; exact ⟨row_base (row_below HR2.out hb2) (by omega), bt' HB.out hb2⟩⟩
end Go.Proofs.YtmikgpmnffdnnaaGreatDoor
