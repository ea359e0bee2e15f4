/- The contract of bytes.ContainsAny at a line's two last bytes. -/
import Derived.Test.YtbbaajlabpjnlaaDoorFdJ
import Derived.Deep.WholeRow
import Derived.Lib.Builder
namespace Go.Proofs.YtbbaajlabpjnlaaDoor
open Go.RowKit
/-- what bytes.IndexAny at a line's two last bytes says -/
def IdxB (line : List UInt8) (ao : Option Addr) (cap : Nat) (W : World) : Prop := Calls Tryd.prog 53 #[.slice ao line.length cap, .string ⟨#[13, 10]⟩] W fun e w' => ∃ r : Int, e = .returned (.int .i64 r) ∧ Hid (decide (0 ≤ r) = line.any isEnd) ∧ Below W.heap.size W w'
set_option maxRecDepth 20000 in
set_option maxHeartbeats 1000000 in
theorem idxB0 (ao : Option Addr) (cap : Nat) (W : World) : IdxB [] ao cap W := by
  unfold IdxB
  simp only [List.length_nil]
  go_enter Tryd.func53, Tryd.ntmps53
  go_wp2_with (go_at_call 66; refine (shouldB _ _).mono ?_; rintro e w' ⟨rfl, hw⟩; rw [hw]; clear hw)
  go_rounds 1
  go_ret
  exact ⟨_, rfl, rfl, Below.refl _ _⟩
set_option maxRecDepth 20000 in
set_option maxHeartbeats 1000000 in
theorem idxB1 (c : UInt8) (ao : Option Addr) (cap : Nat) (W : World) (h : HoldsB W (.slice ao 1 cap) [c]) : IdxB [c] ao cap W := by
  unfold IdxB
  simp only [List.length_cons, List.length_nil, Nat.zero_add]
  obtain ⟨ao', cap', e, h0, hcp, hc⟩ := h
  simp only [List.length_cons, List.length_nil, Nat.zero_add, Value.slice.injEq] at e
  obtain ⟨rfl, _, rfl⟩ := e
  obtain ⟨b, off, rfl, hblt, hcell⟩ := hc (by simp)
  have ck : W.cell? ⟨b, off, none⟩ = some (.int .u8 (c.toNat : Int)) := hcell 0 (by simp)
  have hbt := byte_lt c
  clear hc hcell h0
  by_cases ha : c.toNat < 128
  · obtain ⟨r, hr, hr1, hr2⟩ := ibs c W
    have hai : ((128 : Int) ≤ (c.toNat : Int)) = False := by simp; omega
    have hai2 : decide ((128 : Int) ≤ (c.toNat : Int)) = false := by simp; omega
    cases he : isEnd c with
    | true =>
      have hr0 := hr1 he
      have A2 : Hid (([c] : List UInt8).any isEnd = true) := by unfold Hid; simp [he]
      clear hr1 hr2 he ha
      go_enter Tryd.func53, Tryd.ntmps53
      go_wp2_with fail
      go_ret
      exact ⟨_, rfl, by unfold Hid; rw [A2.out]; rfl, Below.refl _ _⟩
    | false =>
      have hr0 := hr2 he
      have A2 : Hid (([c] : List UInt8).any isEnd = false) := by unfold Hid; simp [he]
      clear hr1 hr2 he ha
      go_enter Tryd.func53, Tryd.ntmps53
      go_wp2_with fail
      go_ret
      exact ⟨_, rfl, by unfold Hid; rw [A2.out]; rfl, Below.refl _ _⟩
  · have A2 : Hid (([c] : List UInt8).any isEnd = false) := by unfold Hid; simp [end_big (c := c) (by omega)]
    have hai : (128 : Int) ≤ (c.toNat : Int) := by omega
    have hn0 := next0 W
    have hn1 := next1 W
    have hn2 := next2 W
    clear ha
    go_enter Tryd.func53, Tryd.ntmps53
    go_wp2_with fail
    go_rounds 3
    go_ret
    exact ⟨_, rfl, by unfold Hid; rw [A2.out]; rfl, iter_below W _ _⟩
theorem set_ascii : ∀ (j : Nat) b, (⟨#[13, 10]⟩ : ByteArray).data.toList[j]? = some b → b.toNat < 128 := by
  intro j b h
  match j, h with
  | 0, h => simp at h; subst h; decide
  | 1, h => simp at h; subst h; decide
theorem set_is (c : UInt8) : ([13, 10] : List UInt8).contains c = isEnd c := by
  unfold isEnd
  rw [Bool.eq_iff_iff]
  simp
theorem set_info : (Tryd.prog.info? 80).map (fun i => (i.zero, i.size)) = some (some (.agg (Array.replicate 256 (.bool false))), 256) := by kernel_rfl
theorem makeSet (w : World) : Calls Tryd.prog 67 #[.string ⟨#[13, 10]⟩] w fun e w' => e = .returned (.tuple #[.agg (Lib.setCells [13, 10]), .bool true]) ∧ w' = w.alloc (.cells (Lib.setCells [13, 10]) 80) :=
  Any.bytes_makeASCIISet Tryd.laysV11 (zero_of_info set_info).1 (zero_of_info set_info).2 ⟨#[13, 10]⟩ w (by show 2 < 4294967281; omega) set_ascii
theorem setHas (b : Nat) (x : UInt8) (v : Bool) (w : World) (hc : w.cell? ⟨b, x.toNat, none⟩ = some (.bool v)) : Calls Tryd.prog 68 #[.pointer (some ⟨b, 0, none⟩), .int .u8 x.toNat] w fun e w' => e = .returned (.bool v) ∧ w' = w :=
  Any.bytes_asciiSet_contains Tryd.laysV16 b x v w hc
set_option maxRecDepth 1000000 in
set_option maxHeartbeats 2000000 in
theorem idxB9 (line : List UInt8) (ao : Option Addr) (cap : Nat) (W : World) (h : HoldsB W (.slice ao line.length cap) line) (h8 : 8 < line.length) (hs : line.length < 4294967281) : IdxB line ao cap W := by
  unfold IdxB
  obtain ⟨ao', cap', e, h0, hcp, hc⟩ := h
  simp only [Value.slice.injEq] at e
  obtain ⟨rfl, _, rfl⟩ := e
  obtain ⟨b, off, rfl, hblt, hcell⟩ := hc (fun e => by rw [e] at h8; simp at h8)
  have C := hide' hcell
  clear hc hcell h0
  obtain ⟨n, en⟩ : ∃ n, n = line.length := ⟨_, rfl⟩
  have N : Hid (line.length = n) := en.symm
  rw [N.out] at h8 hs hcp ⊢
  clear en
  have h8' : decide ((8 : Int) < (n : Int)) = true := decide_eq_true (by omega)
  have n1 : ((n : Int) == 1) = false := by simp; omega
  have hM := makeSet W
  have hsc : (storeCells ⟨W.heap.size + 1, 0, none⟩ (Lib.setCells [13, 10]).toList 0).run Tryd.prog ((W.alloc (.cells (Lib.setCells [13, 10]) 80)).alloc (.cells (Array.replicate 256 (.bool false)) 80)) = .ok () ((W.alloc (.cells (Lib.setCells [13, 10]) 80)).alloc (.cells (Lib.setCells [13, 10]) 80)) := by
    have := run_storeCells_new (P := Tryd.prog) (W.alloc (.cells (Lib.setCells [13, 10]) 80)) 80 (Array.replicate 256 (.bool false)) (Lib.setCells [13, 10]) (by rw [Lib.setCells_size]; exact (zero_of_info set_info).2) (by rw [Lib.setCells_size, Array.size_replicate]) (Lib.setCells_one _)
    simpa using this
  have hsz := Lib.setCells_size [13, 10]
  have hcellAt : ∀ x : UInt8, ((W.alloc (.cells (Lib.setCells [13, 10]) 80)).alloc (.cells (Lib.setCells [13, 10]) 80)).cell? ⟨W.heap.size + 1, x.toNat, none⟩ = some (.bool (isEnd x)) := fun x => by
    rw [World.cell?_alloc_at _ _ _ _ (by simp), Lib.setCells_at, set_is]
  have HC := hide' hcellAt
  have BW : Hid (Below W.heap.size W ((W.alloc (.cells (Lib.setCells [13, 10]) 80)).alloc (.cells (Lib.setCells [13, 10]) 80))) := ((Below.refl _ _).alloc (Nat.le_refl _) _).alloc (by simp) _
  clear hcellAt
  have v85 := (zero_of_info set_info).1
  go_enter Tryd.func53, Tryd.ntmps53
  go_wp2_with (first
    | (go_at_call 66; refine (shouldB _ _).mono ?_; rintro e w' ⟨rfl, hw⟩; rw [hw]; clear hw)
    | (go_at_call 67; refine hM.mono ?_; rintro e w' ⟨rfl, hw⟩; rw [hw]; clear hw))
  clear hM hsc h8' n1
  generalize (W.alloc (.cells (Lib.setCells [13, 10]) 80)).alloc (.cells (Lib.setCells [13, 10]) 80) = w1 at HC BW ⊢
  clear hsz v85
  go_loop [62] (fun iv => ∃ i : Nat, i ≤ n ∧ iv = .int .i64 i ∧ Hid ((line.take i).any isEnd = false)) (fun iv => n - (intOf iv).toNat)
  case atStart => exact ⟨0, Nat.zero_le _, rfl, by unfold Hid; simp⟩
  case round =>
    obtain ⟨i, hi, rfl, HA⟩ := hrel
    by_cases hlt : i < n
    · have G : Hid (i < line.length) := by unfold Hid; rw [N.out]; exact hlt
      have ck : w1.cell? ⟨b, off + i, none⟩ = some (.int .u8 ((line[i]'G.out).toNat : Int)) := by
        rw [BW.out.cell (p := ⟨b, off + i, none⟩) hblt]; exact C.out i G.out
      have hbt := byte_lt (line[i]'G.out)
      have cH := setHas (W.heap.size + 1) (line[i]'G.out) _ w1 (HC.out _)
      cases he : isEnd (line[i]'G.out) with
      | true =>
        have A2 := hide' (any_hit line i G.out he)
        rw [he] at cH
        have CH := hide' cH
        clear he cH
        generalize (line[i]'G.out).toNat = cn at ck CH hbt
        go_wp2_with (go_at_call 68; refine CH.out.mono ?_; rintro e w' ⟨rfl, hw⟩; rw [hw]; clear hw)
        go_ret
        exact ⟨_, rfl, by unfold Hid; rw [A2.out]; simp, BW.out⟩
      | false =>
        have A2 := hide' (any_next line i G.out HA.out he)
        rw [he] at cH
        have CH := hide' cH
        clear he cH
        generalize (line[i]'G.out).toNat = cn at ck CH hbt
        go_wp2_with (go_at_call 68; refine CH.out.mono ?_; rintro e w' ⟨rfl, hw⟩; rw [hw]; clear hw)
        go_round
        case rel => exact ⟨i + 1, by omega, by go_num, A2⟩
        case measure => simp [intOf]; omega
    · have E : Hid (line.take i = line) := List.take_of_length_le (by rw [N.out]; omega)
      rw [E.out] at HA
      go_wp2_with fail
      go_ret
      exact ⟨_, rfl, by unfold Hid; rw [HA.out]; simp, BW.out⟩
theorem idxB (line : List UInt8) (ao : Option Addr) (cap : Nat) (W : World) (h : HoldsB W (.slice ao line.length cap) line) (M : MaxV W) (T : TabsV W) (hs : line.length < 4294967281) : IdxB line ao cap W := by
  by_cases h8 : 8 < line.length
  · exact idxB9 line ao cap W h h8 hs
  · by_cases h2 : 2 ≤ line.length
    · exact idxB8 line ao cap W h M T h2 (by omega)
    · cases line with
      | nil => exact idxB0 ao cap W
      | cons c r =>
        cases r with
        | nil => exact idxB1 c ao cap W h
        | cons d r => exact absurd (by simp) h2
set_option maxRecDepth 20000 in
set_option maxHeartbeats 1000000 in
theorem containsAny (line : List UInt8) (ao : Option Addr) (cap : Nat) (W : World) (h : HoldsB W (.slice ao line.length cap) line) (M : MaxV W) (T : TabsV W) (hs : line.length < 4294967281) : CaC line ao cap W := by
  have c := hide' (idxB line ao cap W h M T hs)
  unfold IdxB at c
  unfold CaC
  clear h M T
  generalize line.any isEnd = b at c ⊢
  go_enter Tryd.func36, Tryd.ntmps36
  go_wp2_with fail
  refine c.out.mono ?_
  rintro e w1 ⟨r, rfl, hr, b1⟩
  have B1 := hide' b1
  clear b1 c
  go_wp2_with fail
  go_ret
  rw [← hr.out]
  exact ⟨rfl, B1.out⟩
end Go.Proofs.YtbbaajlabpjnlaaDoor
