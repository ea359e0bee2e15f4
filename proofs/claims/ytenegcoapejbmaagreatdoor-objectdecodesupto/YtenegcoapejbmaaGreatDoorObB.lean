/- The contracts of object.isTime, appendNumber, appendSection. -/
import Derived.Test.YtenegcoapejbmaaGreatDoorObA
import Derived.Test.YtenegcoapejbmaaGreatDoorObP
import Derived.Test.YtenegcoapejbmaaGreatDoorBi
import Derived.Lib.AppendZeros
namespace Go.Proofs.YtenegcoapejbmaaGreatDoor
open Go.RowKit
/-- one byte appended -/
theorem app1E {ops : Array Oper} {rest : List Oper} {o : Oper} {a : Act} {Q : Exit → Act → World → Prop} {wr : World} {n : Int} (hgd : o.guard = none) (s x : Operand)
    (ho : o.op = .call { callee := .builtin .append, args := #[s, x], argTypes := #[22, 22] }) (v : Value) (bs : List UInt8) (hs : a.eval s = v) (hE : Ext v bs wr)
    (c : UInt8) (hn : n = (c.toNat : Int)) (hx : a.eval x = .slice (some ⟨wr.heap.size, 0, none⟩) 1 1)
    (h : ∀ v' w', Rw v' (bs ++ [c]) w' → AppT v wr v' w' → wpList Tryz.prog ops Q rest (a.put o.dst v') w') : wpList Tryz.prog ops Q (o :: rest) a (wr.alloc (.cells #[.int .u8 n] 5)) := by
  obtain ⟨v', w', hr, h1, h2⟩ := hE c n o.type hn
  exact Lib.wpList_append_run _ hgd s x _ _ ho _ _ hs hx v' w' hr (h v' w' h1 h2)
/-- bytes that stand elsewhere, appended -/
theorem appAllE {ops : Array Oper} {rest : List Oper} {o : Oper} {a : Act} {Q : Exit → Act → World → Prop} {wr : World} (hgd : o.guard = none) (s x : Operand)
    (ho : o.op = .call { callee := .builtin .append, args := #[s, x], argTypes := #[22, 22] }) (v : Value) (bs : List UInt8) (hs : a.eval s = v) (hR : Rw v bs wr)
    (d : Value) (qs : List UInt8) (hx : a.eval x = d) (hd : HoldsB wr d qs) (hl : bs.length + qs.length ≤ 100000000)
    (h : ∀ v' w', Rw v' (bs ++ qs) w' → AppT v wr v' w' → wpList Tryz.prog ops Q rest (a.put o.dst v') w') : wpList Tryz.prog ops Q (o :: rest) a wr := by
  obtain ⟨v', w', hr, h1, h2⟩ := app_rw hR hd hl o.type
  exact Lib.wpList_append_run _ hgd s x _ _ ho _ _ hs hx v' w' hr (h v' w' h1 h2)
theorem isTimeC (n : Int) (w : World) : Calls Tryz.prog 39 #[.int .i64 n] w fun e w' => e = .returned (.bool (goodTm n)) ∧ w' = w := by
  by_cases h1 : 0 ≤ n
  · by_cases h2 : n ≤ 253402300799
    · have H : Hid (goodTm n = true) := by unfold Hid goodTm; simp; omega
      have b1 : decide (0 ≤ n) = true := by simpa using h1
      have b2 : decide (n ≤ 253402300799) = true := by simpa using h2
      go_enter Tryz.func39, Tryz.ntmps39
      go_wp2
      go_ret
      rw [H.out]
      exact ⟨rfl, rfl⟩
    · have H : Hid (goodTm n = false) := by unfold Hid goodTm; simp; omega
      have b1 : decide (0 ≤ n) = true := by simpa using h1
      have b2 : decide (n ≤ 253402300799) = false := by simpa using h2
      go_enter Tryz.func39, Tryz.ntmps39
      go_wp2
      go_ret
      rw [H.out]
      exact ⟨rfl, rfl⟩
  · have H : Hid (goodTm n = false) := by unfold Hid goodTm; simp; omega
    have b1 : decide (0 ≤ n) = false := by simpa using h1
    go_enter Tryz.func39, Tryz.ntmps39
    go_wp2
    go_ret
    rw [H.out]
    exact ⟨rfl, rfl⟩
set_option maxRecDepth 20000 in
set_option maxHeartbeats 2000000 in
theorem appNumC (v : Value) (bs : List UInt8) (w : World) (n size : Nat) (hR : Rw v bs w) (hs : size ≤ 8) (hl : bs.length ≤ 1000000) :
    Calls Tryz.prog 22 #[v, .int .i64 (n : Int), .int .i64 (size : Int)] w fun e w' => ∃ u, e = .returned u ∧ Rw u (bs ++ beN size n) w' ∧ AppT v w u w' := by
  have HO := hide' hR
  obtain ⟨L, hL⟩ : ∃ L, L = bs ++ beN size n := ⟨_, rfl⟩
  have EL := hide' hL
  rw [← hL]
  clear hR hL
  go_enter Tryz.func22, Tryz.ntmps22
  go_wp2
  go_loopw [0, 7] (fun vr i wr => ∃ (k : Nat) (pre : List UInt8), k ≤ 8 ∧ i = .int .i64 ((k : Int) - 1) ∧ Hid (pre ++ beN k n = L) ∧ Hid (pre.length + k ≤ 1000010) ∧ Hid (Rw vr pre wr ∧ AppT v w vr wr)) (fun _ i _ => (intOf i + 1).toNat)
  case atStart => exact ⟨size, bs, hs, by first | rfl | go_num, EL.out.symm, by unfold Hid; omega, ⟨HO.out, appT_refl _ _⟩⟩
  case round =>
    obtain ⟨k, pre, hk, rfl, hE, hP, hO⟩ := hrel
    match k, hk with
    | 0, _ =>
      have hO' := hO.out
      have e := hE.out
      rw [beN, List.append_nil] at e
      have E := hide' e
      clear e
      go_wp2
      go_ret
      exact ⟨_, rfl, by rw [← E.out]; exact hO'⟩
    | 1, _ =>
      have hb := hide' (be_byte n 0 1 (by decide))
      have ht : Hid ((pre ++ [UInt8.ofNat (n / 256 ^ 0)]) ++ beN 0 n = L) := by
        unfold Hid; rw [List.append_assoc]; exact hE.out
      have hx : Hid (Ext _ pre wr) := ext_row hO.out.1 (by have := hP.out; omega)
      generalize UInt8.ofNat (n / 256 ^ 0) = c at hb ht
      go_wp2_with (at_builtin; refine app1E rfl (.tmp 14) (.tmp 20) rfl _ _ rfl hx.out c (by have := hb.out; omega) rfl ?_; intro v2 w2 hr2 ha2)
      go_roundw
      case rel => exact ⟨0, pre ++ [c], by omega, by first | rfl | go_num, ht, by unfold Hid; have := hP.out; rw [List.length_append, List.length_singleton]; omega, ⟨hr2, appT_trans hO.out.2 ha2⟩⟩
      case measure => simp [intOf]
    | 2, _ =>
      have hb := hide' (be_byte n 1 256 (by decide))
      have ht : Hid ((pre ++ [UInt8.ofNat (n / 256 ^ 1)]) ++ beN 1 n = L) := by
        unfold Hid; rw [List.append_assoc]; exact hE.out
      have hx : Hid (Ext _ pre wr) := ext_row hO.out.1 (by have := hP.out; omega)
      generalize UInt8.ofNat (n / 256 ^ 1) = c at hb ht
      go_wp2_with (at_builtin; refine app1E rfl (.tmp 14) (.tmp 20) rfl _ _ rfl hx.out c (by have := hb.out; omega) rfl ?_; intro v2 w2 hr2 ha2)
      go_roundw
      case rel => exact ⟨1, pre ++ [c], by omega, by first | rfl | go_num, ht, by unfold Hid; have := hP.out; rw [List.length_append, List.length_singleton]; omega, ⟨hr2, appT_trans hO.out.2 ha2⟩⟩
      case measure => simp [intOf]
    | 3, _ =>
      have hb := hide' (be_byte n 2 65536 (by decide))
      have ht : Hid ((pre ++ [UInt8.ofNat (n / 256 ^ 2)]) ++ beN 2 n = L) := by
        unfold Hid; rw [List.append_assoc]; exact hE.out
      have hx : Hid (Ext _ pre wr) := ext_row hO.out.1 (by have := hP.out; omega)
      generalize UInt8.ofNat (n / 256 ^ 2) = c at hb ht
      go_wp2_with (at_builtin; refine app1E rfl (.tmp 14) (.tmp 20) rfl _ _ rfl hx.out c (by have := hb.out; omega) rfl ?_; intro v2 w2 hr2 ha2)
      go_roundw
      case rel => exact ⟨2, pre ++ [c], by omega, by first | rfl | go_num, ht, by unfold Hid; have := hP.out; rw [List.length_append, List.length_singleton]; omega, ⟨hr2, appT_trans hO.out.2 ha2⟩⟩
      case measure => simp [intOf]
    | 4, _ =>
      have hb := hide' (be_byte n 3 16777216 (by decide))
      have ht : Hid ((pre ++ [UInt8.ofNat (n / 256 ^ 3)]) ++ beN 3 n = L) := by
        unfold Hid; rw [List.append_assoc]; exact hE.out
      have hx : Hid (Ext _ pre wr) := ext_row hO.out.1 (by have := hP.out; omega)
      generalize UInt8.ofNat (n / 256 ^ 3) = c at hb ht
      go_wp2_with (at_builtin; refine app1E rfl (.tmp 14) (.tmp 20) rfl _ _ rfl hx.out c (by have := hb.out; omega) rfl ?_; intro v2 w2 hr2 ha2)
      go_roundw
      case rel => exact ⟨3, pre ++ [c], by omega, by first | rfl | go_num, ht, by unfold Hid; have := hP.out; rw [List.length_append, List.length_singleton]; omega, ⟨hr2, appT_trans hO.out.2 ha2⟩⟩
      case measure => simp [intOf]
    | 5, _ =>
      have hb := hide' (be_byte n 4 4294967296 (by decide))
      have ht : Hid ((pre ++ [UInt8.ofNat (n / 256 ^ 4)]) ++ beN 4 n = L) := by
        unfold Hid; rw [List.append_assoc]; exact hE.out
      have hx : Hid (Ext _ pre wr) := ext_row hO.out.1 (by have := hP.out; omega)
      generalize UInt8.ofNat (n / 256 ^ 4) = c at hb ht
      go_wp2_with (at_builtin; refine app1E rfl (.tmp 14) (.tmp 20) rfl _ _ rfl hx.out c (by have := hb.out; omega) rfl ?_; intro v2 w2 hr2 ha2)
      go_roundw
      case rel => exact ⟨4, pre ++ [c], by omega, by first | rfl | go_num, ht, by unfold Hid; have := hP.out; rw [List.length_append, List.length_singleton]; omega, ⟨hr2, appT_trans hO.out.2 ha2⟩⟩
      case measure => simp [intOf]
    | 6, _ =>
      have hb := hide' (be_byte n 5 1099511627776 (by decide))
      have ht : Hid ((pre ++ [UInt8.ofNat (n / 256 ^ 5)]) ++ beN 5 n = L) := by
        unfold Hid; rw [List.append_assoc]; exact hE.out
      have hx : Hid (Ext _ pre wr) := ext_row hO.out.1 (by have := hP.out; omega)
      generalize UInt8.ofNat (n / 256 ^ 5) = c at hb ht
      go_wp2_with (at_builtin; refine app1E rfl (.tmp 14) (.tmp 20) rfl _ _ rfl hx.out c (by have := hb.out; omega) rfl ?_; intro v2 w2 hr2 ha2)
      go_roundw
      case rel => exact ⟨5, pre ++ [c], by omega, by first | rfl | go_num, ht, by unfold Hid; have := hP.out; rw [List.length_append, List.length_singleton]; omega, ⟨hr2, appT_trans hO.out.2 ha2⟩⟩
      case measure => simp [intOf]
    | 7, _ =>
      have hb := hide' (be_byte n 6 281474976710656 (by decide))
      have ht : Hid ((pre ++ [UInt8.ofNat (n / 256 ^ 6)]) ++ beN 6 n = L) := by
        unfold Hid; rw [List.append_assoc]; exact hE.out
      have hx : Hid (Ext _ pre wr) := ext_row hO.out.1 (by have := hP.out; omega)
      generalize UInt8.ofNat (n / 256 ^ 6) = c at hb ht
      go_wp2_with (at_builtin; refine app1E rfl (.tmp 14) (.tmp 20) rfl _ _ rfl hx.out c (by have := hb.out; omega) rfl ?_; intro v2 w2 hr2 ha2)
      go_roundw
      case rel => exact ⟨6, pre ++ [c], by omega, by first | rfl | go_num, ht, by unfold Hid; have := hP.out; rw [List.length_append, List.length_singleton]; omega, ⟨hr2, appT_trans hO.out.2 ha2⟩⟩
      case measure => simp [intOf]
    | 8, _ =>
      have hb := hide' (be_byte n 7 72057594037927936 (by decide))
      have ht : Hid ((pre ++ [UInt8.ofNat (n / 256 ^ 7)]) ++ beN 7 n = L) := by
        unfold Hid; rw [List.append_assoc]; exact hE.out
      have hx : Hid (Ext _ pre wr) := ext_row hO.out.1 (by have := hP.out; omega)
      generalize UInt8.ofNat (n / 256 ^ 7) = c at hb ht
      go_wp2_with (at_builtin; refine app1E rfl (.tmp 14) (.tmp 20) rfl _ _ rfl hx.out c (by have := hb.out; omega) rfl ?_; intro v2 w2 hr2 ha2)
      go_roundw
      case rel => exact ⟨7, pre ++ [c], by omega, by first | rfl | go_num, ht, by unfold Hid; have := hP.out; rw [List.length_append, List.length_singleton]; omega, ⟨hr2, appT_trans hO.out.2 ha2⟩⟩
      case measure => simp [intOf]
set_option maxRecDepth 20000 in
set_option maxHeartbeats 2000000 in
theorem appSecC (v d : Value) (bs qs : List UInt8) (t t1 : Nat) (e1 : t + 1 = t1) (w : World) (hE : Ext v bs w) (hd : HoldsB w d qs) (ho : qs ≠ [] → Oth d v) (ht : t ≤ 100) (hl : bs.length ≤ 100000) (hq : qs.length ≤ 100000) :
    Calls Tryz.prog 20 #[v, .int .i64 (t : Int), d] w fun e w' => ∃ u, e = .returned u ∧ Rw u (bs ++ secL t1 qs) w' ∧ AppT v w u w' := by
  subst e1
  have HE := hide' hE
  have HD := hide' hd
  have HO := hide' ho
  obtain ⟨c, hc⟩ : ∃ c, c = UInt8.ofNat (t + 1) := ⟨_, rfl⟩
  have hcv : Hid ((c.toNat : Int) = (t : Int) + 1) := by unfold Hid; rw [hc, ofNat_mod]; omega
  have hmod : ((t : Int) + 1) % 256 = (t : Int) + 1 := by omega
  have ES : Hid (bs ++ secL (t + 1) qs = bs ++ [c] ++ beN 4 qs.length ++ qs) := by unfold Hid secL; rw [hc]; simp
  have l1 : Hid ((bs ++ [c]).length = bs.length + 1) := by unfold Hid; simp
  have l2 : Hid ((bs ++ [c] ++ beN 4 qs.length).length = bs.length + 5) := by unfold Hid; simp [beN_len]
  obtain ⟨da, dc, rfl, -, -, -⟩ := hd
  obtain ⟨m, hm⟩ : ∃ m, m = qs.length := ⟨_, rfl⟩
  have HM : Hid (qs.length = m) := hm.symm
  have hml : m ≤ 100000 := by omega
  rw [← hm] at HD HO ES l2 ⊢
  clear hE ho hc hm
  go_enter Tryz.func20, Tryz.ntmps20
  go_wp2_with (at_builtin; refine app1E rfl (.tmp 7) (.tmp 11) rfl _ _ rfl HE.out c (by have := hcv.out; omega) rfl ?_; intro v2 w2 hr2 ha2)
  have R2 := hide' hr2
  have A2 := hide' ha2
  have D2 : Hid (HoldsB w2 (.slice da m dc) qs ∧ (qs ≠ [] → Oth (.slice da m dc) v2)) := holdsB_app HD.out HO.out ha2
  clear hr2 ha2
  refine (appNumC v2 (bs ++ [c]) w2 m 4 R2.out (by decide) (by rw [l1.out]; omega)).mono ?_
  rintro e w3 ⟨v3, rfl, hr3, ha3⟩
  have R3 := hide' hr3
  have A3 := hide' (appT_trans A2.out ha3)
  have D3 : Hid (HoldsB w3 (.slice da m dc) qs) := (holdsB_app D2.out.1 D2.out.2 ha3).1
  clear hr3 ha3
  go_wp2_with (at_builtin; refine appAllE rfl (.tmp 17) (.tmp 18) rfl _ _ rfl R3.out _ qs rfl D3.out (by rw [l2.out, HM.out]; omega) ?_; intro v4 w4 hr4 ha4)
  go_ret
  exact ⟨v4, rfl, by rw [ES.out]; exact hr4, appT_trans A3.out ha4⟩
end Go.Proofs.YtenegcoapejbmaaGreatDoor
