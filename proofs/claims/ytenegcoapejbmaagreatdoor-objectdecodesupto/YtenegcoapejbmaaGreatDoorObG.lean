/- The document's numbers of eight bytes, time, section. -/
import Derived.Test.YtenegcoapejbmaaGreatDoorObD
namespace Go.Proofs.YtenegcoapejbmaaGreatDoor
open Go.RowKit
theorem make8 (w : World) : (Instr.makeSlice 22 (.int .i64 8) (.int .i64 8)).run Tryz.prog w = .ok (.slice (some ⟨w.heap.size, 0, none⟩) 8 8) (w.alloc (.cells #[.int .u8 0, .int .u8 0, .int .u8 0, .int .u8 0, .int .u8 0, .int .u8 0, .int .u8 0, .int .u8 0] 5)) := by
  have h := run_make_row' (P := Tryz.prog) 22 5 (.int .u8 0) 1 Tryz.underlying22 Tryz.info5 rfl .i64 .i64 8 (by decide) (by decide) w
  rw [show madeCells #[Value.int .u8 0] 8 = #[.int .u8 0, .int .u8 0, .int .u8 0, .int .u8 0, .int .u8 0, .int .u8 0, .int .u8 0, .int .u8 0] from Array.ext' (by rw [toList_madeCells_one]; rfl)] at h
  exact h
set_option maxRecDepth 20000 in
set_option maxHeartbeats 2000000 in
theorem number8RC (n : Nat) (w : World) (hn : n < 1125899906842624) :
    Calls Tryz.prog 35 #[.int .i64 (n : Int), .int .i64 8] w fun e w' => ∃ u, e = .returned u ∧ Own w u (beN 8 n) w' := by
  have a0 := and_255 (n) (by omega)
  have a1 := and_255 (n / 256) (by omega)
  rw [← show (n : Int) / 256 = ((n / 256 : Nat) : Int) by omega] at a1
  have a2 := and_255 (n / 256 / 256) (by omega)
  rw [← show (n : Int) / 256 / 256 = ((n / 256 / 256 : Nat) : Int) by omega] at a2
  have a3 := and_255 (n / 256 / 256 / 256) (by omega)
  rw [← show (n : Int) / 256 / 256 / 256 = ((n / 256 / 256 / 256 : Nat) : Int) by omega] at a3
  have a4 := and_255 (n / 256 / 256 / 256 / 256) (by omega)
  rw [← show (n : Int) / 256 / 256 / 256 / 256 = ((n / 256 / 256 / 256 / 256 : Nat) : Int) by omega] at a4
  have a5 := and_255 (n / 256 / 256 / 256 / 256 / 256) (by omega)
  rw [← show (n : Int) / 256 / 256 / 256 / 256 / 256 = ((n / 256 / 256 / 256 / 256 / 256 : Nat) : Int) by omega] at a5
  have a6 := and_255 (n / 256 / 256 / 256 / 256 / 256 / 256) (by omega)
  rw [← show (n : Int) / 256 / 256 / 256 / 256 / 256 / 256 = ((n / 256 / 256 / 256 / 256 / 256 / 256 : Nat) : Int) by omega] at a6
  have a7 := and_255 (n / 256 / 256 / 256 / 256 / 256 / 256 / 256) (by omega)
  rw [← show (n : Int) / 256 / 256 / 256 / 256 / 256 / 256 / 256 = ((n / 256 / 256 / 256 / 256 / 256 / 256 / 256 : Nat) : Int) by omega] at a7
  have b0 := hide' (be_byte n 0 1 (by decide))
  have c0 : Hid ((n : Int) % 256 = ((n / 1 % 256 : Nat) : Int)) := by unfold Hid; omega
  have b1 := hide' (be_byte n 1 256 (by decide))
  have c1 : Hid ((n : Int) / 256 % 256 = ((n / 256 % 256 : Nat) : Int)) := by unfold Hid; omega
  have b2 := hide' (be_byte n 2 65536 (by decide))
  have c2 : Hid ((n : Int) / 256 / 256 % 256 = ((n / 65536 % 256 : Nat) : Int)) := by unfold Hid; omega
  have b3 := hide' (be_byte n 3 16777216 (by decide))
  have c3 : Hid ((n : Int) / 256 / 256 / 256 % 256 = ((n / 16777216 % 256 : Nat) : Int)) := by unfold Hid; omega
  have b4 := hide' (be_byte n 4 4294967296 (by decide))
  have c4 : Hid ((n : Int) / 256 / 256 / 256 / 256 % 256 = ((n / 4294967296 % 256 : Nat) : Int)) := by unfold Hid; omega
  have b5 := hide' (be_byte n 5 1099511627776 (by decide))
  have c5 : Hid ((n : Int) / 256 / 256 / 256 / 256 / 256 % 256 = ((n / 1099511627776 % 256 : Nat) : Int)) := by unfold Hid; omega
  have b6 := hide' (be_byte n 6 281474976710656 (by decide))
  have c6 : Hid ((n : Int) / 256 / 256 / 256 / 256 / 256 / 256 % 256 = ((n / 281474976710656 % 256 : Nat) : Int)) := by unfold Hid; omega
  have b7 := hide' (be_byte n 7 72057594037927936 (by decide))
  have c7 : Hid ((n : Int) / 256 / 256 / 256 / 256 / 256 / 256 / 256 % 256 = ((n / 72057594037927936 % 256 : Nat) : Int)) := by unfold Hid; omega
  have hmk := make8
  have E : Hid (#[Value.int .u8 ((n : Int) / 256 / 256 / 256 / 256 / 256 / 256 / 256 % 256), Value.int .u8 ((n : Int) / 256 / 256 / 256 / 256 / 256 / 256 % 256), Value.int .u8 ((n : Int) / 256 / 256 / 256 / 256 / 256 % 256), Value.int .u8 ((n : Int) / 256 / 256 / 256 / 256 % 256), Value.int .u8 ((n : Int) / 256 / 256 / 256 % 256), Value.int .u8 ((n : Int) / 256 / 256 % 256), Value.int .u8 ((n : Int) / 256 % 256), Value.int .u8 ((n : Int) % 256)] = ((beN 8 n).map B).toArray) := by
    unfold Hid
    show _ = #[Value.int .u8 ((UInt8.ofNat (n / 256 ^ 7)).toNat : Int), Value.int .u8 ((UInt8.ofNat (n / 256 ^ 6)).toNat : Int), Value.int .u8 ((UInt8.ofNat (n / 256 ^ 5)).toNat : Int), Value.int .u8 ((UInt8.ofNat (n / 256 ^ 4)).toNat : Int), Value.int .u8 ((UInt8.ofNat (n / 256 ^ 3)).toNat : Int), Value.int .u8 ((UInt8.ofNat (n / 256 ^ 2)).toNat : Int), Value.int .u8 ((UInt8.ofNat (n / 256 ^ 1)).toNat : Int), Value.int .u8 ((UInt8.ofNat (n / 256 ^ 0)).toNat : Int)]
    rw [c7.out, b7.out, c6.out, b6.out, c5.out, b5.out, c4.out, b4.out, c3.out, b3.out, c2.out, b2.out, c1.out, b1.out, c0.out, b0.out]
  go_enter Tryz.func35, Tryz.ntmps35
  go_wp2
  go_rounds 9
  go_ret
  exact ⟨_, rfl, own_bytes w (beN 8 n) 8 (beN_len 8 n).symm _ E.out (by rw [beN_len]; omega)⟩
theorem timeRC (n : Int) (w : World) : Calls Tryz.prog 34 #[.int .i64 n] w fun e w' => e = .returned (.bool (goodTm n)) ∧ w' = w := by
  by_cases h1 : 0 ≤ n
  · by_cases h2 : n ≤ 253402300799
    · have H : Hid (goodTm n = true) := by unfold Hid goodTm; simp; omega
      have b1 : decide (0 ≤ n) = true := by simpa using h1
      have b2 : decide (n ≤ 253402300799) = true := by simpa using h2
      go_enter Tryz.func34, Tryz.ntmps34
      go_wp2
      go_ret
      rw [H.out]
      exact ⟨rfl, rfl⟩
    · have H : Hid (goodTm n = false) := by unfold Hid goodTm; simp; omega
      have b1 : decide (0 ≤ n) = true := by simpa using h1
      have b2 : decide (n ≤ 253402300799) = false := by simpa using h2
      go_enter Tryz.func34, Tryz.ntmps34
      go_wp2
      go_ret
      rw [H.out]
      exact ⟨rfl, rfl⟩
  · have H : Hid (goodTm n = false) := by unfold Hid goodTm; simp; omega
    have b1 : decide (0 ≤ n) = false := by simpa using h1
    go_enter Tryz.func34, Tryz.ntmps34
    go_wp2
    go_ret
    rw [H.out]
    exact ⟨rfl, rfl⟩
set_option maxRecDepth 20000 in
set_option maxHeartbeats 2000000 in
theorem sectionRC (v d : Value) (bs qs : List UInt8) (t : Nat) (w : World) (hE : Ext v bs w) (hd : HoldsB w d qs) (ho : qs ≠ [] → Oth d v) (ht : t ≤ 100) (hl : bs.length ≤ 100000) (hq : qs.length ≤ 100000) :
    Calls Tryz.prog 36 #[v, .int .i64 (t : Int), d] w fun e w' => ∃ u, e = .returned u ∧ Rw u (bs ++ secL t qs) w' ∧ AppT v w u w' := by
  have HE := hide' hE
  have HD := hide' hd
  have HO := hide' ho
  obtain ⟨c, hc⟩ : ∃ c, c = UInt8.ofNat t := ⟨_, rfl⟩
  have hcv : Hid ((c.toNat : Int) = (t : Int)) := by unfold Hid; rw [hc, ofNat_mod]; omega
  have hmod : (t : Int) % 256 = (t : Int) := by omega
  have ES : Hid (bs ++ secL t qs = bs ++ [c] ++ beN 4 qs.length ++ qs) := by unfold Hid secL; rw [hc]; simp
  have l1 : Hid ((bs ++ [c]).length = bs.length + 1) := by unfold Hid; simp
  have l2 : Hid ((bs ++ [c] ++ beN 4 qs.length).length = bs.length + 5) := by unfold Hid; simp [beN_len]
  obtain ⟨da, dc, rfl, -, -, -⟩ := hd
  obtain ⟨m, hm⟩ : ∃ m, m = qs.length := ⟨_, rfl⟩
  have HM : Hid (qs.length = m) := hm.symm
  have hml : m ≤ 100000 := by omega
  rw [← hm] at HD HO ES l2 ⊢
  clear hE ho hc hm
  go_enter Tryz.func36, Tryz.ntmps36
  go_wp2_with (at_builtin; refine app1E rfl (.tmp 7) (.tmp 10) rfl _ _ rfl HE.out c (by have := hcv.out; omega) rfl ?_; intro v2 w2 hr2 ha2)
  have R2 := hide' hr2
  have A2 := hide' ha2
  have D2 : Hid (HoldsB w2 (.slice da m dc) qs ∧ (qs ≠ [] → Oth (.slice da m dc) v2)) := holdsB_app HD.out HO.out ha2
  clear hr2 ha2
  refine (number4RC m w2 (by omega)).mono ?_
  rintro e w3 ⟨v3, rfl, ho3⟩
  have R3 := hide' (rw_below R2.out ho3.2)
  have A3 := hide' (appT_after A2.out ho3.2)
  have D3 : Hid (HoldsB w3 (.slice da m dc) qs ∧ (qs ≠ [] → Oth (.slice da m dc) v2)) := ⟨holdsB_mono D2.out.1 ho3.2, D2.out.2⟩
  have H3 := hide' (holdsB_own ho3)
  clear ho3 R2 A2 D2
  go_wp2_with (at_builtin; first
    | (refine appAllE rfl (.tmp 12) (.tmp 15) rfl v2 _ rfl R3.out v3 _ rfl H3.out (by rw [l1.out, beN_len]; omega) ?_; intro v4 w4 hr4 ha4; have R4 := hide' hr4; have A4 := hide' (appT_trans A3.out ha4); have D4 := hide' (holdsB_app D3.out.1 D3.out.2 ha4).1; clear hr4 ha4)
    | (refine appAllE rfl (.tmp 17) (.tmp 18) rfl v4 _ rfl R4.out _ qs rfl D4.out (by rw [l2.out, HM.out]; omega) ?_; intro v5 w5 hr5 ha5))
  go_ret
  exact ⟨v5, rfl, by rw [ES.out]; exact hr5, appT_trans A4.out ha5⟩
end Go.Proofs.YtenegcoapejbmaaGreatDoor
