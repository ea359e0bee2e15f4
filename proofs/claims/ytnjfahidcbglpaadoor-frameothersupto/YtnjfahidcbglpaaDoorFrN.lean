/- The number that an element tells: the library's ParseUint of 63 bits at base ten, the project's number, the document's. -/
import Derived.Test.YtnjfahidcbglpaaDoorFrP
import Derived.Test.YtnjfahidcbglpaaDoorShelfI
import Derived.Shelf.Strconv.ToError
import Derived.Shelf.Strconv.ToErrorRange
import Derived.Lib.ParseIntBMem
import Derived.Lib.ConvBytes
import Derived.Laws.Strings3
import Derived.Laws.Closers25
import Derived.Laws.Closers25b
import Derived.BigCall
import Derived.BigGuard
namespace Go.Proofs.YtnjfahidcbglpaaDoor
open Go.RowKit
theorem lowC (c : Int) (w : World) : Calls Tryd.prog 60 #[.int .u8 c] w fun e w' => e = .returned (.int .u8 (bits .or .u8 c 32)) ∧ w' = w := by
  go_enter Tryd.func60, Tryd.ntmps60
  go_wp2
  go_ret
  exact ⟨rfl, rfl⟩
set_option maxRecDepth 100000 in
theorem puEmpty (w : World) : Calls Tryd.prog 57 #[.string ⟨#[]⟩, .int .i64 10, .int .i64 63] w fun e w' => e = .returned (.tuple #[.int .u64 0, .iface 84 (.int .i64 2)]) ∧ w' = w := by
  go_enter Tryd.func57, Tryd.ntmps57
  go_wp2
  go_ret2
  exact ⟨rfl, rfl⟩
/-- the reading's step: what is gathered so far, as the model's number, beside what the rest tells -/
def Pu (bs : List UInt8) (k : Nat) (a : Int) : Prop := ∃ acc : Nat, a = (acc : Int) ∧ acc ≤ 9223372036854775807 ∧ Lib.parseUintM 9223372036854775807 0 bs = Lib.parseUintM 9223372036854775807 acc (bs.drop k)
theorem pu_bound {bs : List UInt8} {k : Nat} {a : Int} (h : Pu bs k a) : 0 ≤ a ∧ a ≤ 9223372036854775807 := by
  obtain ⟨acc, rfl, h, _⟩ := h
  omega
theorem pu_drop {bs : List UInt8} {k : Nat} (h : k < bs.length) : bs.drop k = bs[k] :: bs.drop (k + 1) := List.drop_eq_getElem_cons h
theorem pu_cut {bs : List UInt8} {k : Nat} {a : Int} (h : Pu bs k a) (hk : k < bs.length) (h0 : 48 ≤ bs[k].toNat) (h1 : bs[k].toNat ≤ 57) (hc : 1844674407370955162 ≤ a) : Lib.parseUintM 9223372036854775807 0 bs = .range := by
  obtain ⟨acc, rfl, _, h⟩ := h
  have hc' : 1844674407370955162 ≤ acc := by omega
  rw [h, pu_drop hk]
  simp [Lib.parseUintM, h0, h1, hc']
theorem pu_over {bs : List UInt8} {k : Nat} {a : Int} (h : Pu bs k a) (hk : k < bs.length) (h0 : 48 ≤ bs[k].toNat) (h1 : bs[k].toNat ≤ 57) (hc : a < 1844674407370955162) (ho : 9223372036854775807 < a * 10 + ((bs[k].toNat : Int) - 48)) : Lib.parseUintM 9223372036854775807 0 bs = .range := by
  obtain ⟨acc, rfl, _, h⟩ := h
  have hc' : ¬ 1844674407370955162 ≤ acc := by omega
  have ho' : 9223372036854775807 < acc * 10 + (bs[k].toNat - 48) := by omega
  rw [h, pu_drop hk]
  simp [Lib.parseUintM, h0, h1, hc', ho']
theorem pu_next {bs : List UInt8} {k : Nat} {a : Int} (h : Pu bs k a) (hk : k < bs.length) (h0 : 48 ≤ bs[k].toNat) (h1 : bs[k].toNat ≤ 57) (hc : a < 1844674407370955162) (ho : a * 10 + ((bs[k].toNat : Int) - 48) ≤ 9223372036854775807) : Pu bs (k + 1) (a * 10 + ((bs[k].toNat : Int) - 48)) := by
  obtain ⟨acc, rfl, _, h⟩ := h
  have hc' : ¬ 1844674407370955162 ≤ acc := by omega
  have ho' : ¬ 9223372036854775807 < acc * 10 + (bs[k].toNat - 48) := by omega
  refine ⟨acc * 10 + (bs[k].toNat - 48), by omega, by omega, ?_⟩
  rw [h, pu_drop hk]
  simp [Lib.parseUintM, h0, h1, hc', ho']
theorem pu_bad {bs : List UInt8} {k : Nat} {a : Int} (h : Pu bs k a) (hk : k < bs.length) (hd : ¬ (48 ≤ bs[k].toNat ∧ bs[k].toNat ≤ 57)) : Lib.parseUintM 9223372036854775807 0 bs = .syntax := by
  obtain ⟨acc, rfl, _, h⟩ := h
  rw [h, pu_drop hk]
  simp [Lib.parseUintM, hd]
theorem pu_end {bs : List UInt8} {k : Nat} {a : Int} (h : Pu bs k a) (hk : bs.length ≤ k) : Lib.uintTupleM 84 9223372036854775807 (Lib.parseUintM 9223372036854775807 0 bs) = .tuple #[.int .u64 a, .nilIface] := by
  obtain ⟨acc, rfl, _, h⟩ := h
  rw [h, List.drop_eq_nil_of_le hk]
  rfl
set_option maxHeartbeats 32000000 in
set_option maxRecDepth 100000 in
theorem puSome (t : ByteArray) (hne : t.size ≠ 0) (hmax : t.size ≤ 9223372036854775806) (w : World) :
    Calls Tryd.prog 57 #[.string t, .int .i64 10, .int .i64 63] w fun e w' => e = .returned (Lib.uintTupleM 84 9223372036854775807 (Lib.parseUintM 9223372036854775807 0 t.data.toList)) ∧ w' = Lib.bytesWorld w 5 t := by
  have hemp : t.toList.isEmpty = false := by
    rw [← decide_eq_emptyBytes]
    exact decide_eq_false (fun h => hne (by rw [h]; rfl))
  have hcv := Lib.run_convert_string_bytes (P := Tryd.prog) w 9 57 5 t (u := .string) Tryd.underlying9 Tryd.underlying57 Tryd.underlying5
  have hB : ∀ j, j < t.size → (Lib.bytesWorld w 5 t).cell? ⟨w.heap.size, j, none⟩ = some (.int .u8 (t.data.toList.getD j 0).toNat) := fun j hj => Lib.bytesWorld_cell w 5 t j hj
  generalize Lib.bytesWorld w 5 t = W1 at hcv hB ⊢
  obtain ⟨bs, hL⟩ : ∃ bs, bs = t.data.toList := ⟨_, rfl⟩
  have LN : Hid (bs.length = t.size) := by unfold Hid; rw [hL, Lib.size_eq]
  rw [← hL] at hB ⊢
  have CB := hide' hB
  clear hL hB
  have hmv : IntKind.u64.wrap (IntKind.u64.wrap 9223372036854775808 - 1) = 9223372036854775807 := by
    rw [IntKind.wrap_u64, IntKind.wrap_u64]
    decide
  go_enter Tryd.func57, Tryd.ntmps57
  go_wp2
  go_loop [12, 13, 101] (fun vu vn vi => ∃ (k : Nat) (a : Int), vu = .bool false ∧ vn = .int .u64 a ∧ vi = .int .i64 k ∧ k ≤ t.size ∧ Hid (Pu bs k a)) (fun _ _ vi => t.size - (intOf vi).toNat)
  case atStart => exact ⟨0, 0, rfl, rfl, rfl, Nat.zero_le _, 0, rfl, by decide, rfl⟩
  case round =>
    obtain ⟨k, a, rfl, rfl, rfl, hk, P⟩ := hrel
    obtain ⟨a0, a1⟩ := pu_bound P.out
    by_cases hkn : k < t.size
    · have G : Hid (k < bs.length) := by unfold Hid; rw [LN.out]; exact hkn
      have hc := CB.out k hkn
      have hget : bs.getD k 0 = bs[k]'G.out := by simp [List.getD, List.getElem?_eq_getElem G.out]
      rw [hget] at hc
      clear hget
      have X1 := hide' (pu_cut P.out G.out)
      have X2 := hide' (pu_over P.out G.out)
      have X3 := hide' (pu_next P.out G.out)
      have X4 := hide' (pu_bad P.out G.out)
      have hc256 : (bs[k]'G.out).toNat < 256 := (bs[k]'G.out).toNat_lt
      generalize (bs[k]'G.out).toNat = c at hc X1 X2 X3 X4 hc256
      by_cases hd : 48 ≤ c ∧ c ≤ 57
      · obtain ⟨d0, d1⟩ := hd
        by_cases hcut : 1844674407370955162 ≤ a
        · have R := hide' (X1.out d0 d1 hcut)
          clear X1 X2 X3 X4 P
          go_wp2
          go_ret2
          rw [R.out]
          exact ⟨rfl, rfl⟩
        · have icut : a < 1844674407370955162 := by omega
          by_cases hov : 9223372036854775807 < a * 10 + ((c : Int) - 48)
          · have R := hide' (X2.out d0 d1 icut hov)
            have iw : a * 10 + ((c : Int) - 48) < 18446744073709551616 ∨ 18446744073709551616 ≤ a * 10 + ((c : Int) - 48) := by omega
            clear X1 X2 X3 X4 P hcut
            rcases iw with iw | iw
            · go_wp2
              go_ret2
              rw [R.out]
              exact ⟨rfl, rfl⟩
            · have hwr : IntKind.u64.wrap (a * 10 + ((c : Int) - 48)) = a * 10 + ((c : Int) - 48) - 18446744073709551616 := by
                rw [IntKind.wrap_u64]
                omega
              go_wp2
              go_ret2
              rw [R.out]
              exact ⟨rfl, rfl⟩
          · have iov : a * 10 + ((c : Int) - 48) ≤ 9223372036854775807 := by omega
            have R := hide' (X3.out d0 d1 icut iov)
            clear X1 X2 X3 X4 P hcut hov
            go_wp2
            refine ⟨⟨k + 1, a * 10 + ((c : Int) - 48), rfl, (by first | rfl | (congr 1; omega)), (by first | rfl | (congr 1; omega)), by omega, R⟩, by simp [intOf]; omega⟩
      · have R := hide' (X4.out hd)
        clear X1 X2 X3 X4 P
        have hv0 := bits_lo_u8 .or (c : Int) 32
        have hv1 := bits_hi_u8 .or (c : Int) 32
        have hu0 := bits_lo_u8 .or 95 32
        have hu1 := bits_hi_u8 .or 95 32
        go_wp2_with (go_at_call 60; refine (lowC _ _).mono ?_; rintro e w' ⟨rfl, rfl⟩)
        all_goals go_ret2
        all_goals (rw [R.out]; exact ⟨rfl, rfl⟩)
    · have R := hide' (pu_end P.out (by rw [LN.out]; omega))
      clear P
      go_wp2
      go_ret2
      rw [R.out]
      exact ⟨rfl, rfl⟩
end Go.Proofs.YtnjfahidcbglpaaDoor
