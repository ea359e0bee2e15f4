/- The contracts of appendNumber and of the document's Number. -/
import Derived.Test.YtnbidckmekmcfabRcN
import Derived.Deep.OwnRows
namespace Go.Proofs.Ytnbidckmekmcfab
open Go.RowKit
theorem be_byte (n k m : Nat) (hm : m = 256 ^ k) : ((n / m % 256 : Nat) : Int) = ((UInt8.ofNat (n / 256 ^ k)).toNat : Int) := by
  subst hm
  rw [ofNat_mod]
set_option maxRecDepth 20000 in
set_option maxHeartbeats 1000000 in
theorem appendNumberC (v : Value) (bs : List UInt8) (w0 w : World) (n size : Nat) (hO : Own w0 v bs w) (hs : size ≤ 4) (hl : bs.length ≤ 1000000) :
    Calls Try.prog 12 #[v, .int .i64 (n : Int), .int .i64 (size : Int)] w fun e w' => ∃ u, e = .returned u ∧ Own w0 u (bs ++ beN size n) w' := by
  have HO := hide' hO
  obtain ⟨L, hL⟩ : ∃ L, L = bs ++ beN size n := ⟨_, rfl⟩
  have EL := hide' hL
  rw [← hL]
  clear hO hL
  go_enter Try.func12, Try.ntmps12
  go_wp2
  go_loopw [0, 7] (fun v i wr => ∃ (k : Nat) (pre : List UInt8), k ≤ 4 ∧ i = .int .i64 ((k : Int) - 1) ∧ Hid (pre ++ beN k n = L) ∧ Hid (pre.length + k ≤ 1000010) ∧ Hid (Own w0 v pre wr)) (fun _ i _ => (intOf i + 1).toNat)
  case atStart => exact ⟨size, bs, hs, by first | rfl | go_num, EL.out.symm, by unfold Hid; omega, HO⟩
  case round =>
    obtain ⟨k, pre, hk, rfl, hE, hP, hO⟩ := hrel
    match k, hk with
    | 0, _ =>
      have hO' := hO.out
      have e := hE.out
      rw [beN, List.append_nil] at e
      have E := hide' e
      clear e
      go_wp2
      go_ret
      exact ⟨_, rfl, by rw [← E.out]; exact hO'⟩
    | 1, _ =>
      have hb := hide' (be_byte n 0 1 (by decide))
      have ht : Hid ((pre ++ [UInt8.ofNat (n / 256 ^ 0)]) ++ beN 0 n = L) := by
        unfold Hid; rw [List.append_assoc]; exact hE.out
      have hle : Hid (pre.length + 1 ≤ 140737488355328) := by unfold Hid; have := hP.out; omega
      generalize UInt8.ofNat (n / 256 ^ 0) = c at hb ht
      go_wp2_with (at_builtin; refine app1 rfl (.tmp 14) (.tmp 20) rfl w0 _ _ rfl hO.out c (by have := hb.out; omega) rfl hle.out ?_; intro v2 w2 hown2)
      go_roundw
      case rel => exact ⟨0, pre ++ [c], by omega, by first | rfl | go_num, ht, by unfold Hid; have := hP.out; rw [List.length_append, List.length_singleton]; omega, hown2⟩
      case measure => simp [intOf]
    | 2, _ =>
      have hb := hide' (be_byte n 1 256 (by decide))
      have ht : Hid ((pre ++ [UInt8.ofNat (n / 256 ^ 1)]) ++ beN 1 n = L) := by
        unfold Hid; rw [List.append_assoc]; exact hE.out
      have hle : Hid (pre.length + 1 ≤ 140737488355328) := by unfold Hid; have := hP.out; omega
      generalize UInt8.ofNat (n / 256 ^ 1) = c at hb ht
      go_wp2_with (at_builtin; refine app1 rfl (.tmp 14) (.tmp 20) rfl w0 _ _ rfl hO.out c (by have := hb.out; omega) rfl hle.out ?_; intro v2 w2 hown2)
      go_roundw
      case rel => exact ⟨1, pre ++ [c], by omega, by first | rfl | go_num, ht, by unfold Hid; have := hP.out; rw [List.length_append, List.length_singleton]; omega, hown2⟩
      case measure => simp [intOf]
    | 3, _ =>
      have hb := hide' (be_byte n 2 65536 (by decide))
      have ht : Hid ((pre ++ [UInt8.ofNat (n / 256 ^ 2)]) ++ beN 2 n = L) := by
        unfold Hid; rw [List.append_assoc]; exact hE.out
      have hle : Hid (pre.length + 1 ≤ 140737488355328) := by unfold Hid; have := hP.out; omega
      generalize UInt8.ofNat (n / 256 ^ 2) = c at hb ht
      go_wp2_with (at_builtin; refine app1 rfl (.tmp 14) (.tmp 20) rfl w0 _ _ rfl hO.out c (by have := hb.out; omega) rfl hle.out ?_; intro v2 w2 hown2)
      go_roundw
      case rel => exact ⟨2, pre ++ [c], by omega, by first | rfl | go_num, ht, by unfold Hid; have := hP.out; rw [List.length_append, List.length_singleton]; omega, hown2⟩
      case measure => simp [intOf]
    | 4, _ =>
      have hb := hide' (be_byte n 3 16777216 (by decide))
      have ht : Hid ((pre ++ [UInt8.ofNat (n / 256 ^ 3)]) ++ beN 3 n = L) := by
        unfold Hid; rw [List.append_assoc]; exact hE.out
      have hle : Hid (pre.length + 1 ≤ 140737488355328) := by unfold Hid; have := hP.out; omega
      generalize UInt8.ofNat (n / 256 ^ 3) = c at hb ht
      go_wp2_with (at_builtin; refine app1 rfl (.tmp 14) (.tmp 20) rfl w0 _ _ rfl hO.out c (by have := hb.out; omega) rfl hle.out ?_; intro v2 w2 hown2)
      go_roundw
      case rel => exact ⟨3, pre ++ [c], by omega, by first | rfl | go_num, ht, by unfold Hid; have := hP.out; rw [List.length_append, List.length_singleton]; omega, hown2⟩
      case measure => simp [intOf]
/-- what a new block with these bytes holds -/
theorem own_bytes (w : World) (l : List UInt8) (n : Nat) (hn : n = l.length) (vs : Array Value) (hv : vs = (l.map B).toArray) (hl : l.length ≤ 1000000) : Own w (.slice (some ⟨w.heap.size, 0, none⟩) n n) l (w.alloc (.cells vs 5)) := by
  subst hv hn
  refine ⟨?_, (Below.refl _ _).alloc (Nat.le_refl _) _⟩
  have h := World.ownsRow_lit (base := w.heap.size) (e := 5) (size := 1) w (l.map B).toArray l.length (Nat.le_refl _) (by unfold maxLen; omega) (by simp)
  simpa using h
theorem make2 (w : World) : (Instr.makeSlice 25 (.int .i64 2) (.int .i64 2)).run Try.prog w = .ok (.slice (some ⟨w.heap.size, 0, none⟩) 2 2) (w.alloc (.cells #[.int .u8 0, .int .u8 0] 5)) := by
  have h := run_make_row' (P := Try.prog) 25 5 (.int .u8 0) 1 Try.underlying25 Try.info5 rfl .i64 .i64 2 (by decide) (by decide) w
  rw [show madeCells #[Value.int .u8 0] 2 = #[.int .u8 0, .int .u8 0] from Array.ext' (by rw [toList_madeCells_one]; rfl)] at h
  exact h
theorem make4 (w : World) : (Instr.makeSlice 25 (.int .i64 4) (.int .i64 4)).run Try.prog w = .ok (.slice (some ⟨w.heap.size, 0, none⟩) 4 4) (w.alloc (.cells #[.int .u8 0, .int .u8 0, .int .u8 0, .int .u8 0] 5)) := by
  have h := run_make_row' (P := Try.prog) 25 5 (.int .u8 0) 1 Try.underlying25 Try.info5 rfl .i64 .i64 4 (by decide) (by decide) w
  rw [show madeCells #[Value.int .u8 0] 4 = #[.int .u8 0, .int .u8 0, .int .u8 0, .int .u8 0] from Array.ext' (by rw [toList_madeCells_one]; rfl)] at h
  exact h
set_option maxRecDepth 20000 in
set_option maxHeartbeats 1000000 in
theorem number2RC (n : Nat) (w : World) (hn : n < 65536) :
    Calls Try.prog 13 #[.int .i64 (n : Int), .int .i64 2] w fun e w' => ∃ u, e = .returned u ∧ Own w u (beN 2 n) w' := by
  have a0 := and_255 n (by omega)
  have a1 := and_255 (n / 256) (by omega)
  rw [← show (n : Int) / 256 = ((n / 256 : Nat) : Int) by omega] at a1
  have b0 := hide' (be_byte n 0 1 (by decide))
  have c0 : Hid ((n : Int) % 256 = ((n / 1 % 256 : Nat) : Int)) := by unfold Hid; omega
  have b1 := hide' (be_byte n 1 256 (by decide))
  have c1 : Hid ((n : Int) / 256 % 256 = ((n / 256 % 256 : Nat) : Int)) := by unfold Hid; omega
  have hmk := make2
  have E : Hid (#[Value.int .u8 ((n : Int) / 256 % 256), Value.int .u8 ((n : Int) % 256)] = ((beN 2 n).map B).toArray) := by
    unfold Hid
    show _ = #[Value.int .u8 ((UInt8.ofNat (n / 256 ^ 1)).toNat : Int), .int .u8 ((UInt8.ofNat (n / 256 ^ 0)).toNat : Int)]
    rw [c1.out, b1.out, c0.out, b0.out]
  go_enter Try.func13, Try.ntmps13
  go_wp2
  go_rounds 3
  go_ret
  exact ⟨_, rfl, own_bytes w (beN 2 n) 2 (beN_len 2 n).symm _ E.out (by rw [beN_len]; omega)⟩
set_option maxRecDepth 20000 in
set_option maxHeartbeats 1000000 in
theorem number4RC (n : Nat) (w : World) (hn : n < 4294967296) :
    Calls Try.prog 13 #[.int .i64 (n : Int), .int .i64 4] w fun e w' => ∃ u, e = .returned u ∧ Own w u (beN 4 n) w' := by
  have a0 := and_255 n (by omega)
  have a1 := and_255 (n / 256) (by omega)
  rw [← show (n : Int) / 256 = ((n / 256 : Nat) : Int) by omega] at a1
  have a2 := and_255 (n / 256 / 256) (by omega)
  rw [← show (n : Int) / 256 / 256 = ((n / 256 / 256 : Nat) : Int) by omega] at a2
  have a3 := and_255 (n / 256 / 256 / 256) (by omega)
  rw [← show (n : Int) / 256 / 256 / 256 = ((n / 256 / 256 / 256 : Nat) : Int) by omega] at a3
  have b0 := hide' (be_byte n 0 1 (by decide))
  have c0 : Hid ((n : Int) % 256 = ((n / 1 % 256 : Nat) : Int)) := by unfold Hid; omega
  have b1 := hide' (be_byte n 1 256 (by decide))
  have c1 : Hid ((n : Int) / 256 % 256 = ((n / 256 % 256 : Nat) : Int)) := by unfold Hid; omega
  have b2 := hide' (be_byte n 2 65536 (by decide))
  have c2 : Hid ((n : Int) / 256 / 256 % 256 = ((n / 65536 % 256 : Nat) : Int)) := by unfold Hid; omega
  have b3 := hide' (be_byte n 3 16777216 (by decide))
  have c3 : Hid ((n : Int) / 256 / 256 / 256 % 256 = ((n / 16777216 % 256 : Nat) : Int)) := by unfold Hid; omega
  have hmk := make4
  have E : Hid (#[Value.int .u8 ((n : Int) / 256 / 256 / 256 % 256), Value.int .u8 ((n : Int) / 256 / 256 % 256), Value.int .u8 ((n : Int) / 256 % 256), Value.int .u8 ((n : Int) % 256)] = ((beN 4 n).map B).toArray) := by
    unfold Hid
    show _ = #[Value.int .u8 ((UInt8.ofNat (n / 256 ^ 3)).toNat : Int), .int .u8 ((UInt8.ofNat (n / 256 ^ 2)).toNat : Int), .int .u8 ((UInt8.ofNat (n / 256 ^ 1)).toNat : Int), .int .u8 ((UInt8.ofNat (n / 256 ^ 0)).toNat : Int)]
    rw [c3.out, b3.out, c2.out, b2.out, c1.out, b1.out, c0.out, b0.out]
  go_enter Try.func13, Try.ntmps13
  go_wp2
  go_rounds 5
  go_ret
  exact ⟨_, rfl, own_bytes w (beN 4 n) 4 (beN_len 4 n).symm _ E.out (by rw [beN_len]; omega)⟩
end Go.Proofs.Ytnbidckmekmcfab
