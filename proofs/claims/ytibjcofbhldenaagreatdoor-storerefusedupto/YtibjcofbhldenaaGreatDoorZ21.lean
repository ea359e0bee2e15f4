/- slices.Concat of four texts of bytes; the contract of printed. The contracts of printed, goodMinor, CopyRequest, CopyResponse. -/
import Derived.Lib.AppendZeros
import Derived.Test.YtibjcofbhldenaaGreatDoorZ09
namespace Go.Proofs.YtibjcofbhldenaaGreatDoor
open Go.RowKit
set_option maxRecDepth 20000 in
set_option maxHeartbeats 2000000 in
theorem growNil (n : Nat) (hn : n ≤ 1000000000) (w : World) :
    Calls Tryz.prog 202 #[.slice none 0 0, .int .i64 (n : Int)] w fun e w' => ∃ u, e = .returned u ∧ Own w u [] w' := by
  by_cases h0 : n = 0
  · subst h0
    go_enter Tryz.func202, Tryz.ntmps202
    go_wp2_with fail
    go_ret
    exact ⟨_, rfl, own_nil _ _ (Below.refl _ _)⟩
  · obtain ⟨i0, hi, hz0, hz1, hz2⟩ := info_parts Tryz.info5
    have key : ∃ cap w1, (∀ ty, (Builtin.append_ #[57, 3] ty #[.slice none 0 0, .int .i64 (n : Int)]).run Tryz.prog w = .ok (.slice (some ⟨w.heap.size, 0, none⟩) n cap) w1) ∧ Own w (.slice (some ⟨w.heap.size, 0, none⟩) 0 cap) [] w1 ∧ n ≤ cap := by
      refine ⟨_, _, fun ty => Lib.run_append_nil_zeros (P := Tryz.prog) w 57 3 ty 5 i0 (.int .u8 0) .i64 .i64 Tryz.underlying57 Tryz.underlying3 hi hz0 n (by omega) (by rw [hz1]; decide) (by omega) (by rw [hz2]; omega), ⟨⟨rfl, .inr ⟨_, _, _, rfl, Nat.le_refl _, heap_alloc_new w.drew _, Nat.zero_le _, ?_, ?_, by simp⟩⟩, ((Below.refl _ _).drew).alloc (Nat.le_refl _) _⟩, grownCap_ge _ _ _ _⟩
      · exact grownCap_le_maxLen _ _ _ _ (by unfold maxLen; omega)
      · have := grownCap_ge w n 0 5
        have hc : (Value.int .u8 0).cells.size = 1 := rfl
        rw [Array.size_append, size_zeroCells, size_zeroCells, hc]
        omega
    obtain ⟨cap, w1, hr, ho, hcap⟩ := key
    have HO := hide' ho
    have HR := hide' (hr 57)
    clear hr
    have t1 : decide ((0 : Int) < (n : Int)) = true := by simp; omega
    have h' : 0 < n := by omega
    clear ho h0 hi hz0 hz1 hz2
    go_enter Tryz.func202, Tryz.ntmps202
    go_wp2_with (at_builtin; refine Lib.wpList_append_run _ rfl (.tmp 20) _ _ _ rfl _ _ rfl rfl _ w1 HR.out ?_)
    go_ret
    exact ⟨_, rfl, HO.out⟩
def catB (pb : Nat → List UInt8) : Nat → List UInt8
  | 0 => []
  | k + 1 => catB pb k ++ pb k
theorem catB_le (pb : Nat → List UInt8) (n : Nat) : ∀ k, k ≤ n → (catB pb k).length ≤ (catB pb n).length := by
  induction n with
  | zero => intro k h; obtain rfl : k = 0 := by omega
            exact Nat.le_refl _
  | succ n ih =>
    intro k h
    by_cases e : k = n + 1
    · subst e; exact Nat.le_refl _
    · have := ih k (by omega)
      show _ ≤ (catB pb n ++ pb n).length
      rw [List.length_append]; omega
set_option maxRecDepth 20000 in
set_option maxHeartbeats 2000000 in
theorem concat4 (g : Nat) (pv : Nat → Value) (pb : Nat → List UInt8) (w : World) (hc : ∀ i, i < 4 → w.cell? ⟨g, i, none⟩ = some (pv i)) (hg : g < w.heap.size) (hp : ∀ i, i < 4 → HoldsB w (pv i) (pb i)) (hl : (catB pb 4).length ≤ 1000000000) :
    Calls Tryz.prog 181 #[.slice (some ⟨g, 0, none⟩) 4 4] w fun e w' => ∃ u, e = .returned u ∧ Own w u (catB pb 4) w' := by
  have HC := hide' hc
  have HP := hide' hp
  have cG := hide' (growNil (catB pb 4).length hl w)
  have LE := hide' (catB_le pb 4)
  have HLL := hide' hl
  clear hc hp
  go_enter Tryz.func181, Tryz.ntmps181
  go_wp2_with fail
  go_loop [3, 5, 11] (fun sv _ iv => ∃ k : Nat, k ≤ 4 ∧ iv = .int .i64 k ∧ sv = .int .i64 (((catB pb k).length : Nat) : Int)) (fun _ _ iv => 4 - (intOf iv).toNat)
  case atStart => exact ⟨0, by omega, rfl, rfl⟩
  case round =>
    obtain ⟨k, hk, rfl, rfl⟩ := hrel
    by_cases hlt : k < 4
    · have ck := HC.out k hlt
      obtain ⟨ao, cap, e, _⟩ := HP.out k hlt
      rw [e] at ck
      have l1 := LE.out k (by omega)
      have l2 := LE.out (k + 1) (by omega)
      have l3 : (catB pb (k + 1)).length = (catB pb k).length + (pb k).length := by show (catB pb k ++ pb k).length = _; rw [List.length_append]
      have L3 := hide' l3
      generalize hn1 : (catB pb k).length = n1 at l1 l3
      generalize hn2 : (pb k).length = n2 at ck l3
      have s1 : n1 ≤ 1000000000 := by omega
      have s2 : n2 ≤ 1000000000 := by omega
      have E1 := hide' hn1
      have E2' := hide' hn2
      clear l1 l2 l3 hn1 hn2 e
      go_wp2_with fail
      go_round
      case rel => exact ⟨k + 1, by omega, by go_num, by rw [L3.out, E1.out, E2'.out]; go_num⟩
      case measure => simp [intOf]; omega
    · obtain rfl : k = 4 := by omega
      generalize (catB pb 4).length = n4 at cG hl
      go_wp2_with fail
      refine cG.out.mono ?_
      rintro e w1 ⟨u1, rfl, ho1⟩
      have O1 := hide' ho1
      clear ho1
      go_wp2_with fail
      go_loopw [6, 8, 27] (fun ov _ iv wr => ∃ k : Nat, k ≤ 4 ∧ iv = .int .i64 k ∧ Hid (Own w ov (catB pb k) wr)) (fun _ _ iv _ => 4 - (intOf iv).toNat)
      case atStart => exact ⟨0, by omega, rfl, O1⟩
      case round =>
        obtain ⟨k, hk, rfl, hO⟩ := hrel
        by_cases hlt : k < 4
        · have ck : wr.cell? ⟨g, k, none⟩ = some (pv k) := by rw [hO.out.2.cell (p := ⟨g, k, none⟩) hg]; exact HC.out k hlt
          have hb := hide' (holdsB_mono (HP.out k hlt) hO.out.2)
          have l2 := LE.out (k + 1) (by omega)
          have l3 : (catB pb (k + 1)).length = (catB pb k).length + (pb k).length := by show (catB pb k ++ pb k).length = _; rw [List.length_append]
          have bound : Hid ((catB pb k).length + (pb k).length ≤ 140737488355328) := by unfold Hid; have := HLL.out; omega
          clear l2 l3
          go_wp2_with (at_builtin; refine appAllB rfl (.tmp 31) (.tmp 32) rfl w _ _ rfl hO.out _ (pb k) rfl hb.out bound.out ?_; intro v5 w5 ho5)
          go_roundw
          case rel => exact ⟨k + 1, by omega, by go_num, ho5⟩
          case measure => simp [intOf]; omega
        · obtain rfl : k = 4 := by omega
          go_wp2_with fail
          go_ret
          exact ⟨_, rfl, hO.out⟩
end Go.Proofs.YtibjcofbhldenaaGreatDoor
namespace Go.Proofs.YtibjcofbhldenaaGreatDoor
open Go.RowKit
theorem conv_text (s : ByteArray) (w : World) : ∃ (v : Value) (w1 : World), Sem.run Tryz.prog (convert 9 57 (.string s)) w = .ok v w1 ∧ HoldsB w1 v s.data.toList ∧ Below w.heap.size w w1 := by
  have hl : s.data.toList.length = s.size := by simp
  refine ⟨_, _, run_bytes_of_string w 9 57 5 s Tryz.underlying9 Tryz.underlying57 Tryz.underlying5, ?_, ((Below.refl _ _).drew).alloc (Nat.le_refl _) _⟩
  refine ⟨some ⟨w.heap.size, 0, none⟩, grownCap w s.size 0 5, by rw [hl], (fun e => by cases e), by rw [hl]; exact grownCap_ge _ _ _ _, fun _ => ⟨w.heap.size, 0, rfl, by simp, fun j hj => ?_⟩⟩
  have hj' : j < s.size := by omega
  have := cell_of_row (w.drew.alloc (.cells (bytesRow s (grownCap w s.size 0 5)) 5 ((bytesRow s (grownCap w s.size 0 5)).size, (bytesRow s (grownCap w s.size 0 5)).size + 1))) w.heap.size j _ 5 _ (heap_alloc_new w.drew _)
  rw [Nat.zero_add, this, bytesRow_at s _ j hj']
  rfl
theorem two_holds (W : World) : HoldsB (W.alloc (.cells #[.int .u8 13, .int .u8 10] 5 (2, 3))) (.slice (some ⟨W.heap.size, 0, none⟩) 2 2) [13, 10] := by
  refine ⟨_, 2, rfl, (fun e => by cases e), Nat.le_refl _, fun _ => ⟨W.heap.size, 0, rfl, by simp, fun j hj => ?_⟩⟩
  match j, hj with
  | 0, _ => simp [World.cell?_alloc_mark, B]
  | 1, _ => simp [World.cell?_alloc_mark, B]
def quadV (a b c d : Value) : Nat → Value
  | 0 => a
  | 1 => b
  | 2 => c
  | _ => d
def quadB (a b c d : List UInt8) : Nat → List UInt8
  | 0 => a
  | 1 => b
  | 2 => c
  | _ => d
theorem whole_err (l : List UInt8) (fs : FL) (h : (printP fs).2 ≠ 0) : wholeP l fs = ([], (printP fs).2) := by unfold wholeP; rw [if_pos h]
theorem whole_long (l : List UInt8) (fs : FL) (h : (printP fs).2 = 0) (h2 : 8192 < l.length + (printP fs).1.length + 4) : wholeP l fs = ([], 51) := by unfold wholeP; rw [if_neg (by simpa using h), if_pos h2]
theorem whole_good (l : List UInt8) (fs : FL) (h : (printP fs).2 = 0) (h2 : ¬ 8192 < l.length + (printP fs).1.length + 4) : wholeP l fs = (l ++ 13 :: 10 :: ((printP fs).1 ++ [13, 10]), 0) := by unfold wholeP; rw [if_neg (by simpa using h), if_neg h2]
theorem printP_len (fs : FL) : (printP fs).1.length ≤ (printOf fs).length := by
  unfold printP
  split
  · simp
  · split
    · simp
    · exact Nat.le_refl _
set_option maxRecDepth 20000 in
set_option maxHeartbeats 4000000 in
theorem printedTok (s : ByteArray) (v : Value) (fs : FL) (w : World) (hv : HoldsF w v fs) (hfit : Fit fs) (hl : fs.length ≤ 1000000000) (hP : (printOf fs).length ≤ 100000000) (hs : s.size ≤ 100000000) :
    Calls Tryz.prog 153 #[.string s, v] w fun e w' => ∃ u, e = .returned (.tuple #[u, .int .i64 (wholeP s.data.toList fs).2]) ∧ Own w u (wholeP s.data.toList fs).1 w' := by
  have cP := hide' (printTok v fs w hv hfit (by omega) (by omega))
  have hpl := printP_len fs
  have hsl : s.data.toList.length = s.size := by simp
  have f1 := hide' (whole_err s.data.toList fs)
  have f2 := hide' (whole_long s.data.toList fs)
  have f3 := hide' (whole_good s.data.toList fs)
  rw [hsl] at f2 f3
  generalize printP fs = pp at cP hpl f1 f2 f3
  obtain ⟨pb, pe⟩ := pp
  simp only at cP hpl f1 f2 f3
  obtain ⟨ao, cap, b, off, e, _⟩ := holdsF_parts hv
  subst e
  have hpb : pb.length ≤ 100000000 := by omega
  have HSL := hide' hsl
  clear hv hfit hP hpl hsl
  go_enter Tryz.func153, Tryz.ntmps153
  go_wp2_with fail
  refine cP.out.mono ?_
  rintro e w1 ⟨u1, rfl, ho1⟩
  have B1 := hide' ho1.2
  have H1 := hide' (holdsB_own ho1)
  obtain ⟨a1, c1, hu1, _⟩ := holdsB_parts H1.out
  subst hu1
  clear ho1 cP
  by_cases g1 : pe = 0
  · subst g1
    obtain ⟨v2, w2, k2, h2, b2⟩ := conv_text s w1
    obtain ⟨a2, c2, hv2, _⟩ := holdsB_parts h2
    subst hv2
    rw [HSL.out] at k2
    have H2 := hide' h2
    have B2 := hide' (bt' B1.out b2)
    have N2 := hide' b2
    have k3 := mark2 w2
    have b3 := below_alloc' w2 (.cells #[.int .u8 13, .int .u8 10] 5 (2, 3))
    have k4 := mark2 (w2.alloc (.cells #[.int .u8 13, .int .u8 10] 5 (2, 3)))
    have b4 := below_alloc' (w2.alloc (.cells #[.int .u8 13, .int .u8 10] 5 (2, 3))) (.cells #[.int .u8 13, .int .u8 10] 5 (2, 3))
    have h3 := holdsB_mono (two_holds w2) b4
    have h4 := two_holds (w2.alloc (.cells #[.int .u8 13, .int .u8 10] 5 (2, 3)))
    have z3 : (w2.alloc (.cells #[.int .u8 13, .int .u8 10] 5 (2, 3))).heap.size = w2.heap.size + 1 := by simp
    rw [z3] at k4 h4
    have B4 := hide' (bt' (bt' B2.out b3) b4)
    have N4 := hide' (bt' b3 b4)
    obtain ⟨W4, hW4⟩ : ∃ W4, W4 = (w2.alloc (.cells #[.int .u8 13, .int .u8 10] 5 (2, 3))).alloc (.cells #[.int .u8 13, .int .u8 10] 5 (2, 3)) := ⟨_, rfl⟩
    rw [← hW4] at k4 h3 h4 B4 N4
    have H3 := hide' h3
    have H4 := hide' h4
    have HW4 := hide' hW4
    have hz4 : W4.heap.size = w2.heap.size + 2 := by rw [hW4]; simp
    have HZ4 := hide' hz4
    clear h2 h3 h4 b2 b3 b4 hW4 z3 hz4
    go_wp2_with fail
    have bq := below_alloc' W4 (.cells #[.slice a2 s.size c2, .slice (some ⟨w2.heap.size, 0, none⟩) 2 2, .slice a1 pb.length c1, .slice (some ⟨w2.heap.size + 1, 0, none⟩) 2 2] 57)
    have cC := hide' (concat4 W4.heap.size (quadV (.slice a2 s.size c2) (.slice (some ⟨w2.heap.size, 0, none⟩) 2 2) (.slice a1 pb.length c1) (.slice (some ⟨w2.heap.size + 1, 0, none⟩) 2 2)) (quadB s.data.toList [13, 10] pb [13, 10]) (W4.alloc (.cells #[.slice a2 s.size c2, .slice (some ⟨w2.heap.size, 0, none⟩) 2 2, .slice a1 pb.length c1, .slice (some ⟨w2.heap.size + 1, 0, none⟩) 2 2] 57)) (by
      intro i hi
      match i, hi with
      | 0, _ => simp [quadV]
      | 1, _ => simp [quadV]
      | 2, _ => simp [quadV]
      | 3, _ => simp [quadV]) (by simp) (by
      intro i hi
      match i, hi with
      | 0, _ => have := holdsB_mono (holdsB_mono H2.out N4.out) bq; rw [HSL.out] at this; exact this
      | 1, _ => exact holdsB_mono H3.out bq
      | 2, _ => exact holdsB_mono (holdsB_mono (holdsB_mono H1.out N2.out) N4.out) bq
      | 3, _ => exact holdsB_mono H4.out bq) (by
      have := HSL.out
      simp [catB, quadB]
      omega))
    have E4 : Hid (catB (quadB s.data.toList [13, 10] pb [13, 10]) 4 = s.data.toList ++ 13 :: 10 :: (pb ++ [13, 10])) := by unfold Hid; simp [catB, quadB]
    rw [E4.out] at cC
    have BQ := hide' (bt' B4.out bq)
    clear bq
    refine cC.out.mono ?_
    rintro e w5 ⟨u5, rfl, ho5⟩
    have B5 := hide' (bt' BQ.out ho5.2)
    have O5 := hide' (own_base ho5 BQ.out)
    obtain ⟨a5, c5, hu5, _⟩ := holdsB_parts (holdsB_own ho5)
    subst hu5
    clear ho5 cC
    have hlen : (s.data.toList ++ 13 :: 10 :: (pb ++ [13, 10])).length = s.size + pb.length + 4 := by
      have := HSL.out
      simp only [List.length_append, List.length_cons, List.length_nil]
      omega
    rw [hlen] at O5 ⊢
    by_cases g2 : 8192 < s.size + pb.length + 4
    · have R' := hide' (f2.out (by first | rfl | trivial) g2)
      have t2 : decide ((8192 : Int) < ((s.size + pb.length + 4 : Nat) : Int)) = true := decide_eq_true (by omega)
      have hb : s.size + pb.length + 4 ≤ 1000000000 := by omega
      clear hlen
      generalize s.size + pb.length + 4 = M at g2 t2 hb O5 ⊢
      go_wp2_with fail
      go_ret2
      exact ⟨.slice none 0 0, by rw [R'.out]; rfl, by rw [R'.out]; exact own_nil _ _ B5.out⟩
    · have R' := hide' (f3.out (by first | rfl | trivial) g2)
      have t2 : decide ((8192 : Int) < ((s.size + pb.length + 4 : Nat) : Int)) = false := decide_eq_false (by omega)
      have hb : s.size + pb.length + 4 ≤ 1000000000 := by omega
      clear hlen
      generalize s.size + pb.length + 4 = M at g2 t2 hb O5 ⊢
      go_wp2_with fail
      go_ret2
      exact ⟨.slice a5 M c5, by rw [R'.out]; rfl, by rw [R'.out]; exact O5.out⟩
  · have t1 : (pe != 0) = true := by simpa using g1
    have R' := hide' (f1.out g1)
    clear g1
    go_wp2_with fail
    go_ret2
    exact ⟨.slice none 0 0, by rw [R'.out]; rfl, by rw [R'.out]; exact own_nil _ _ B1.out⟩
end Go.Proofs.YtibjcofbhldenaaGreatDoor
