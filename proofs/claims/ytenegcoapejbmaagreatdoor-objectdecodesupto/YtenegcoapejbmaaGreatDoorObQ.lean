/- The document's Value of eight bytes; rows of slices; a section of what stands behind a place. -/
import Derived.Test.YtenegcoapejbmaaGreatDoorObI
import Derived.Test.YtenegcoapejbmaaGreatDoorObG
namespace Go.Proofs.YtenegcoapejbmaaGreatDoor
open Go.RowKit
theorem valN_app (a b : List UInt8) : valN (a ++ b) = valN a * 256 ^ b.length + valN b := by
  have : valN (a ++ b) = valA (valN a) b := by simp [valN, valA]
  rw [this, valA_eq]; rfl
theorem valN_take (l : List UInt8) (k : Nat) : valN (l.take k) ≤ valN l := by
  have h := valN_app (l.take k) (l.drop k)
  rw [List.take_append_drop] at h
  have : valN (l.take k) ≤ valN (l.take k) * 256 ^ (l.drop k).length := Nat.le_mul_of_pos_right _ (Nat.pow_pos (by decide))
  omega
set_option maxRecDepth 20000 in
set_option maxHeartbeats 1000000 in
theorem value8RC (v : Value) (bs : List UInt8) (w : World) (hv : HoldsB w v bs) (hl : bs.length ≤ 8) (hb : valN bs < 9223372036854775808) :
    Calls Tryz.prog 14 #[v] w fun e w' => e = .returned (.int .i64 (valN bs : Int)) ∧ w' = w := by
  obtain ⟨ao, cap, rfl, _, _, hc⟩ := hv
  have HC := hide' hc
  obtain ⟨n, hn⟩ : ∃ n, n = bs.length := ⟨_, rfl⟩
  have N1 : Hid (bs.length = n) := hn.symm
  have ln : n ≤ 8 := by omega
  rw [N1.out]
  have HBB := hide' hb
  clear hc hl hn hb
  go_enter Tryz.func14, Tryz.ntmps14
  go_wp2
  go_loopw [3, 4] (fun s i wr => ∃ k : Nat, k ≤ n ∧ i = .int .i64 k ∧ Hid (wr = w) ∧ ∃ v : Nat, Hid (v < 256 ^ k) ∧ s = .int .i64 v ∧ Hid (v = valN (bs.take k))) (fun _ i _ => n - (intOf i).toNat)
  case atStart => exact ⟨0, by omega, rfl, rfl, 0, by unfold Hid; decide, rfl, rfl⟩
  case round =>
    obtain ⟨k, hk, rfl, hw, v, hv, rfl, hV⟩ := hrel
    have hw' := hw.out.symm
    subst hw'
    by_cases hlt : k < n
    · have G1 : Hid (k < bs.length) := by unfold Hid; rw [N1.out]; exact hlt
      obtain ⟨b, off, e, hb, hcell⟩ := HC.out (fun e => by have := G1.out; rw [e] at this; exact absurd this (Nat.not_lt_zero _))
      subst e
      have x1 := hcell k G1.out
      unfold B at x1
      have E : Hid (v * 256 + (bs[k]'G1.out).toNat = valN (bs.take (k + 1))) := by
        unfold Hid; rw [List.take_succ_eq_append_getElem G1.out, valN_snoc, ← hV.out]
      have hyb : v * 256 + (bs[k]'G1.out).toNat < 9223372036854775808 := by rw [E.out]; exact Nat.lt_of_le_of_lt (valN_take bs (k + 1)) HBB.out
      have hcl : ((bs[k]'G1.out).toNat : Int) ≤ 255 := (byte_lt _).2
      have E2 : Hid (v * 256 + (bs[k]'G1.out).toNat < 256 ^ (k + 1)) := by
        unfold Hid; have := hv.out; have := (bs[k]'G1.out).toNat_lt; rw [Nat.pow_succ]; omega
      generalize (bs[k]'G1.out).toNat = c at x1 E hcl E2 hyb
      clear hV hcell hv
      go_wp2
      go_roundw
      case rel => exact ⟨k + 1, by omega, by go_num, (by unfold Hid; first | trivial | rfl), v * 256 + c, E2, by first | rfl | go_num | (congr 1; omega), E⟩
      case measure => simp [intOf]; omega
    · have E : Hid (valN bs = v) := by
        unfold Hid; rw [hV.out, List.take_of_length_le (by rw [N1.out]; omega)]
      go_wp2
      go_ret
      rw [E.out]
      exact ⟨rfl, rfl⟩
theorem Tryz.infoS22 : (Tryz.prog.info? 22).map (fun i => (i.zero, i.size, i.bytes)) = some (some (.slice none 0 0), 1, 24) := by kernel_rfl
/-- a row of slices -/
abbrev RowV (base : Nat) (v : Value) (us : List Value) (w : World) : Prop := w.ownsRow base 22 1 v us.length us
theorem rowV_empty (w : World) : RowV w.heap.size (.slice (some ⟨w.heap.size, 0, none⟩) 0 0) [] (w.alloc (.cells #[] 22)) :=
  World.ownsRow_made w #[] 0 (Nat.le_refl _) (by unfold maxLen; omega) rfl
/-- one slice more -/
theorem app1V {ops : Array Oper} {rest : List Oper} {o : Oper} {a : Act} {Q : Exit → Act → World → Prop} {wr : World} (hgd : o.guard = none) (s x : Operand)
    (ho : o.op = .call { callee := .builtin .append, args := #[s, x], argTypes := #[40, 40] }) (base : Nat) (v : Value) (us : List Value) (hs : a.eval s = v) (hown : RowV base v us wr) (hsz : base ≤ wr.heap.size)
    (ua : Option Addr) (un uc : Nat) (hx : a.eval x = .slice (some ⟨wr.heap.size, 0, none⟩) 1 1) (hlen : us.length ≤ 100)
    (h : ∀ v' w', RowV base v' (us ++ [Value.slice ua un uc]) w' → Below base wr w' → wpList Tryz.prog ops Q rest (a.put o.dst v') w') : wpList Tryz.prog ops Q (o :: rest) a (wr.alloc (.cells #[.slice ua un uc] 22)) := by
  obtain ⟨i0, hi, hz0, hz1, hz2⟩ := info_parts Tryz.infoS22
  refine wpList_append_own _ hgd s x 40 ho base 22 i0 (.slice none 0 0) 1 24 Tryz.underlying40 hi hz0 hz1 hz2 rfl (by decide) v us.length us hs (hown.alloc _) ⟨wr.heap.size, 0, none⟩ 1 1 [.slice ua un uc] hx rfl ?_ ?_ ?_ ?_ ?_ ?_
  · intro j u hj
    match j, hj with
    | 0, hj => simp at hj; subst hj; simp [Addr.add]
  · intro u hu; simp at hu; subst hu; rfl
  · unfold maxLen; omega
  · omega
  · simp; omega
  · intro v' w' h1 h2 _
    refine h v' w' (by show w'.ownsRow base _ 1 v' (us ++ [Value.slice ua un uc]).length _; rw [List.length_append]; exact h1) ?_
    refine Below.grown ((Below.refl _ _).alloc hsz _) h2 (by simp; omega) ?_
    intro k hk
    exact (hown.lt k hk).1
theorem mid_drop (l : List UInt8) (a i j : Nat) (h : i ≤ j) : midN (l.drop a) i j = (l.drop (a + i)).take (a + j - (a + i)) := by
  unfold midN
  rw [List.drop_drop, show a + j - (a + i) = j - i by omega]
theorem secR_drop (l : List UInt8) (a : Nat) (ha : a ≤ l.length) : secR (l.drop a) =
    if l.length - a < 5 then none else if l.length - (a + 5) < valN ((l.drop (a + 1)).take (a + 5 - (a + 1))) then none
    else some ((l.drop (a + 5)).take (a + 5 + valN ((l.drop (a + 1)).take (a + 5 - (a + 1))) - (a + 5)), l.drop (a + 5 + valN ((l.drop (a + 1)).take (a + 5 - (a + 1))))) := by
  unfold secR
  rw [List.length_drop, mid_drop l a 1 5 (by decide)]
  generalize valN ((l.drop (a + 1)).take (a + 5 - (a + 1))) = z
  by_cases h1 : l.length - a < 5
  · rw [if_pos h1, if_pos h1]
  · rw [if_neg h1, if_neg h1]
    by_cases h2 : l.length - a < 5 + z
    · rw [if_pos h2, if_pos (by omega)]
    · rw [if_neg h2, if_neg (by omega), mid_drop l a 5 (5 + z) (by omega), List.drop_drop, show a + (5 + z) = a + 5 + z by omega]
end Go.Proofs.YtenegcoapejbmaaGreatDoor
