/- slices.Concat of four texts of bytes; the contract of printed. The contracts of printed, goodMinor, CopyRequest, CopyResponse. The bodies of the library's functions that are met here are those that the kit's contracts were proved of: the tables of numbers, checked body by body. What the library's table of powers holds, out of the row's own condition; Itoa. The contracts of PrintRequest and PrintResponse. -/
import Derived.Test.YtbbaajlabpjnlabGreatDoorBf
import Derived.Lib.AppendZeros
import Derived.Test.YtbbaajlabpjnlabGreatDoorHdI
import Derived.Shelf.Strconv.Itoa3
import Derived.Test.YtbbaajlabpjnlabGreatDoorProg
import Derived.Test.YtbbaajlabpjnlabGreatDoorBa
import Derived.Lib.LaidTab
import Derived.Lib.AppendIntMem
import Derived.Lib.ItoaNum
import Derived.MakeChecks
import Derived.Test.YtbbaajlabpjnlabGreatDoorBe
import Derived.Deep.RegionHeld3
namespace Go.Proofs.YtbbaajlabpjnlabGreatDoor
open Go.RowKit
set_option maxRecDepth 20000 in
set_option maxHeartbeats 2000000 in
theorem growNil (n : Nat) (hn : n ≤ 1000000000) (w : World) :
    Calls Tryz.prog 70 #[.slice none 0 0, .int .i64 (n : Int)] w fun e w' => ∃ u, e = .returned u ∧ Own w u [] w' := by
  by_cases h0 : n = 0
  · subst h0
    go_enter Tryz.func70, Tryz.ntmps70
    go_wp2_with fail
    go_ret
    exact ⟨_, rfl, own_nil _ _ (Below.refl _ _)⟩
  · obtain ⟨i0, hi, hz0, hz1, hz2⟩ := info_parts Tryz.info5
    have key : ∃ cap w1, (∀ ty, (Builtin.append_ #[22, 3] ty #[.slice none 0 0, .int .i64 (n : Int)]).run Tryz.prog w = .ok (.slice (some ⟨w.heap.size, 0, none⟩) n cap) w1) ∧ Own w (.slice (some ⟨w.heap.size, 0, none⟩) 0 cap) [] w1 ∧ n ≤ cap := by
      refine ⟨_, _, fun ty => Lib.run_append_nil_zeros (P := Tryz.prog) w 22 3 ty 5 i0 (.int .u8 0) .i64 .i64 Tryz.underlying22 Tryz.underlying3 hi hz0 n (by omega) (by rw [hz1]; decide) (by omega) (by rw [hz2]; omega), ⟨⟨rfl, .inr ⟨_, _, _, rfl, Nat.le_refl _, heap_alloc_new w.drew _, Nat.zero_le _, ?_, ?_, by simp⟩⟩, ((Below.refl _ _).drew).alloc (Nat.le_refl _) _⟩, grownCap_ge _ _ _ _⟩
      · exact grownCap_le_maxLen _ _ _ _ (by unfold maxLen; omega)
      · have := grownCap_ge w n 0 5
        have hc : (Value.int .u8 0).cells.size = 1 := rfl
        rw [Array.size_append, size_zeroCells, size_zeroCells, hc]
        omega
    obtain ⟨cap, w1, hr, ho, hcap⟩ := key
    have HO := hide' ho
    have HR := hide' (hr 22)
    clear hr
    have t1 : decide ((0 : Int) < (n : Int)) = true := by simp; omega
    have h' : 0 < n := by omega
    clear ho h0 hi hz0 hz1 hz2
    go_enter Tryz.func70, Tryz.ntmps70
    go_wp2_with (at_builtin; refine Lib.wpList_append_run _ rfl (.tmp 20) _ _ _ rfl _ _ rfl rfl _ w1 HR.out ?_)
    go_ret
    exact ⟨_, rfl, HO.out⟩
def catB (pb : Nat → List UInt8) : Nat → List UInt8
  | 0 => []
  | k + 1 => catB pb k ++ pb k
theorem catB_le (pb : Nat → List UInt8) (n : Nat) : ∀ k, k ≤ n → (catB pb k).length ≤ (catB pb n).length := by
  induction n with
  | zero => intro k h; obtain rfl : k = 0 := by omega
            exact Nat.le_refl _
  | succ n ih =>
    intro k h
    by_cases e : k = n + 1
    · subst e; exact Nat.le_refl _
    · have := ih k (by omega)
      show _ ≤ (catB pb n ++ pb n).length
      rw [List.length_append]; omega
set_option maxRecDepth 20000 in
set_option maxHeartbeats 2000000 in
theorem concat4 (g : Nat) (pv : Nat → Value) (pb : Nat → List UInt8) (w : World) (hc : ∀ i, i < 4 → w.cell? ⟨g, i, none⟩ = some (pv i)) (hg : g < w.heap.size) (hp : ∀ i, i < 4 → HoldsB w (pv i) (pb i)) (hl : (catB pb 4).length ≤ 1000000000) :
    Calls Tryz.prog 51 #[.slice (some ⟨g, 0, none⟩) 4 4] w fun e w' => ∃ u, e = .returned u ∧ Own w u (catB pb 4) w' := by
  have HC := hide' hc
  have HP := hide' hp
  have cG := hide' (growNil (catB pb 4).length hl w)
  have LE := hide' (catB_le pb 4)
  have HLL := hide' hl
  clear hc hp
  go_enter Tryz.func51, Tryz.ntmps51
  go_wp2_with fail
  go_loop [3, 5, 11] (fun sv _ iv => ∃ k : Nat, k ≤ 4 ∧ iv = .int .i64 k ∧ sv = .int .i64 (((catB pb k).length : Nat) : Int)) (fun _ _ iv => 4 - (intOf iv).toNat)
  case atStart => exact ⟨0, by omega, rfl, rfl⟩
  case round =>
    obtain ⟨k, hk, rfl, rfl⟩ := hrel
    by_cases hlt : k < 4
    · have ck := HC.out k hlt
      obtain ⟨ao, cap, e, _⟩ := HP.out k hlt
      rw [e] at ck
      have l1 := LE.out k (by omega)
      have l2 := LE.out (k + 1) (by omega)
      have l3 : (catB pb (k + 1)).length = (catB pb k).length + (pb k).length := by show (catB pb k ++ pb k).length = _; rw [List.length_append]
      have L3 := hide' l3
      generalize hn1 : (catB pb k).length = n1 at l1 l3
      generalize hn2 : (pb k).length = n2 at ck l3
      have s1 : n1 ≤ 1000000000 := by omega
      have s2 : n2 ≤ 1000000000 := by omega
      have E1 := hide' hn1
      have E2' := hide' hn2
      clear l1 l2 l3 hn1 hn2 e
      go_wp2_with fail
      go_round
      case rel => exact ⟨k + 1, by omega, by go_num, by rw [L3.out, E1.out, E2'.out]; go_num⟩
      case measure => simp [intOf]; omega
    · obtain rfl : k = 4 := by omega
      generalize (catB pb 4).length = n4 at cG hl
      go_wp2_with fail
      refine cG.out.mono ?_
      rintro e w1 ⟨u1, rfl, ho1⟩
      have O1 := hide' ho1
      clear ho1
      go_wp2_with fail
      go_loopw [6, 8, 27] (fun ov _ iv wr => ∃ k : Nat, k ≤ 4 ∧ iv = .int .i64 k ∧ Hid (Own w ov (catB pb k) wr)) (fun _ _ iv _ => 4 - (intOf iv).toNat)
      case atStart => exact ⟨0, by omega, rfl, O1⟩
      case round =>
        obtain ⟨k, hk, rfl, hO⟩ := hrel
        by_cases hlt : k < 4
        · have ck : wr.cell? ⟨g, k, none⟩ = some (pv k) := by rw [hO.out.2.cell (p := ⟨g, k, none⟩) hg]; exact HC.out k hlt
          have hb := hide' (holdsB_mono (HP.out k hlt) hO.out.2)
          have l2 := LE.out (k + 1) (by omega)
          have l3 : (catB pb (k + 1)).length = (catB pb k).length + (pb k).length := by show (catB pb k ++ pb k).length = _; rw [List.length_append]
          have bound : Hid ((catB pb k).length + (pb k).length ≤ 140737488355328) := by unfold Hid; have := HLL.out; omega
          clear l2 l3
          go_wp2_with (at_builtin; refine appAllB rfl (.tmp 31) (.tmp 32) rfl w _ _ rfl hO.out _ (pb k) rfl hb.out bound.out ?_; intro v5 w5 ho5)
          go_roundw
          case rel => exact ⟨k + 1, by omega, by go_num, ho5⟩
          case measure => simp [intOf]; omega
        · obtain rfl : k = 4 := by omega
          go_wp2_with fail
          go_ret
          exact ⟨_, rfl, hO.out⟩
end Go.Proofs.YtbbaajlabpjnlabGreatDoor
namespace Go.Proofs.YtbbaajlabpjnlabGreatDoor
open Go.RowKit
theorem conv_text (s : ByteArray) (w : World) : ∃ (v : Value) (w1 : World), Sem.run Tryz.prog (convert 9 22 (.string s)) w = .ok v w1 ∧ HoldsB w1 v s.data.toList ∧ Below w.heap.size w w1 := by
  have hl : s.data.toList.length = s.size := by simp
  refine ⟨_, _, run_bytes_of_string w 9 22 5 s Tryz.underlying9 Tryz.underlying22 Tryz.underlying5, ?_, ((Below.refl _ _).drew).alloc (Nat.le_refl _) _⟩
  refine ⟨some ⟨w.heap.size, 0, none⟩, grownCap w s.size 0 5, by rw [hl], (fun e => by cases e), by rw [hl]; exact grownCap_ge _ _ _ _, fun _ => ⟨w.heap.size, 0, rfl, by simp, fun j hj => ?_⟩⟩
  have hj' : j < s.size := by omega
  have := cell_of_row (w.drew.alloc (.cells (bytesRow s (grownCap w s.size 0 5)) 5 ((bytesRow s (grownCap w s.size 0 5)).size, (bytesRow s (grownCap w s.size 0 5)).size + 1))) w.heap.size j _ 5 _ (heap_alloc_new w.drew _)
  rw [Nat.zero_add, this, bytesRow_at s _ j hj']
  rfl
theorem two_holds (W : World) : HoldsB (W.alloc (.cells #[.int .u8 13, .int .u8 10] 5 (2, 3))) (.slice (some ⟨W.heap.size, 0, none⟩) 2 2) [13, 10] := by
  refine ⟨_, 2, rfl, (fun e => by cases e), Nat.le_refl _, fun _ => ⟨W.heap.size, 0, rfl, by simp, fun j hj => ?_⟩⟩
  match j, hj with
  | 0, _ => simp [World.cell?_alloc_mark, B]
  | 1, _ => simp [World.cell?_alloc_mark, B]
def quadV (a b c d : Value) : Nat → Value
  | 0 => a
  | 1 => b
  | 2 => c
  | _ => d
def quadB (a b c d : List UInt8) : Nat → List UInt8
  | 0 => a
  | 1 => b
  | 2 => c
  | _ => d
theorem whole_err (l : List UInt8) (fs : FL) (h : (printP fs).2 ≠ 0) : wholeP l fs = ([], (printP fs).2) := by unfold wholeP; rw [if_pos h]
theorem whole_long (l : List UInt8) (fs : FL) (h : (printP fs).2 = 0) (h2 : 8192 < l.length + (printP fs).1.length + 4) : wholeP l fs = ([], 51) := by unfold wholeP; rw [if_neg (by simpa using h), if_pos h2]
theorem whole_good (l : List UInt8) (fs : FL) (h : (printP fs).2 = 0) (h2 : ¬ 8192 < l.length + (printP fs).1.length + 4) : wholeP l fs = (l ++ 13 :: 10 :: ((printP fs).1 ++ [13, 10]), 0) := by unfold wholeP; rw [if_neg (by simpa using h), if_neg h2]
theorem printP_len (fs : FL) : (printP fs).1.length ≤ (printOf fs).length := by
  unfold printP
  split
  · simp
  · split
    · simp
    · exact Nat.le_refl _
set_option maxRecDepth 20000 in
set_option maxHeartbeats 4000000 in
theorem printedTok (s : ByteArray) (v : Value) (fs : FL) (w : World) (hv : HoldsF w v fs) (hfit : Fit fs) (hl : fs.length ≤ 1000000000) (hP : (printOf fs).length ≤ 100000000) (hs : s.size ≤ 100000000) :
    Calls Tryz.prog 29 #[.string s, v] w fun e w' => ∃ u, e = .returned (.tuple #[u, .int .i64 (wholeP s.data.toList fs).2]) ∧ Own w u (wholeP s.data.toList fs).1 w' := by
  have cP := hide' (printTok v fs w hv hfit (by omega) (by omega))
  have hpl := printP_len fs
  have hsl : s.data.toList.length = s.size := by simp
  have f1 := hide' (whole_err s.data.toList fs)
  have f2 := hide' (whole_long s.data.toList fs)
  have f3 := hide' (whole_good s.data.toList fs)
  rw [hsl] at f2 f3
  generalize printP fs = pp at cP hpl f1 f2 f3
  obtain ⟨pb, pe⟩ := pp
  simp only at cP hpl f1 f2 f3
  obtain ⟨ao, cap, b, off, e, _⟩ := holdsF_parts hv
  subst e
  have hpb : pb.length ≤ 100000000 := by omega
  have HSL := hide' hsl
  clear hv hfit hP hpl hsl
  go_enter Tryz.func29, Tryz.ntmps29
  go_wp2_with fail
  refine cP.out.mono ?_
  rintro e w1 ⟨u1, rfl, ho1⟩
  have B1 := hide' ho1.2
  have H1 := hide' (holdsB_own ho1)
  obtain ⟨a1, c1, hu1, _⟩ := holdsB_parts H1.out
  subst hu1
  clear ho1 cP
  by_cases g1 : pe = 0
  · subst g1
    obtain ⟨v2, w2, k2, h2, b2⟩ := conv_text s w1
    obtain ⟨a2, c2, hv2, _⟩ := holdsB_parts h2
    subst hv2
    rw [HSL.out] at k2
    have H2 := hide' h2
    have B2 := hide' (bt' B1.out b2)
    have N2 := hide' b2
    have k3 := mark2 w2
    have b3 := below_alloc' w2 (.cells #[.int .u8 13, .int .u8 10] 5 (2, 3))
    have k4 := mark2 (w2.alloc (.cells #[.int .u8 13, .int .u8 10] 5 (2, 3)))
    have b4 := below_alloc' (w2.alloc (.cells #[.int .u8 13, .int .u8 10] 5 (2, 3))) (.cells #[.int .u8 13, .int .u8 10] 5 (2, 3))
    have h3 := holdsB_mono (two_holds w2) b4
    have h4 := two_holds (w2.alloc (.cells #[.int .u8 13, .int .u8 10] 5 (2, 3)))
    have z3 : (w2.alloc (.cells #[.int .u8 13, .int .u8 10] 5 (2, 3))).heap.size = w2.heap.size + 1 := by simp
    rw [z3] at k4 h4
    have B4 := hide' (bt' (bt' B2.out b3) b4)
    have N4 := hide' (bt' b3 b4)
    obtain ⟨W4, hW4⟩ : ∃ W4, W4 = (w2.alloc (.cells #[.int .u8 13, .int .u8 10] 5 (2, 3))).alloc (.cells #[.int .u8 13, .int .u8 10] 5 (2, 3)) := ⟨_, rfl⟩
    rw [← hW4] at k4 h3 h4 B4 N4
    have H3 := hide' h3
    have H4 := hide' h4
    have HW4 := hide' hW4
    have hz4 : W4.heap.size = w2.heap.size + 2 := by rw [hW4]; simp
    have HZ4 := hide' hz4
    clear h2 h3 h4 b2 b3 b4 hW4 z3 hz4
    go_wp2_with fail
    have bq := below_alloc' W4 (.cells #[.slice a2 s.size c2, .slice (some ⟨w2.heap.size, 0, none⟩) 2 2, .slice a1 pb.length c1, .slice (some ⟨w2.heap.size + 1, 0, none⟩) 2 2] 22)
    have cC := hide' (concat4 W4.heap.size (quadV (.slice a2 s.size c2) (.slice (some ⟨w2.heap.size, 0, none⟩) 2 2) (.slice a1 pb.length c1) (.slice (some ⟨w2.heap.size + 1, 0, none⟩) 2 2)) (quadB s.data.toList [13, 10] pb [13, 10]) (W4.alloc (.cells #[.slice a2 s.size c2, .slice (some ⟨w2.heap.size, 0, none⟩) 2 2, .slice a1 pb.length c1, .slice (some ⟨w2.heap.size + 1, 0, none⟩) 2 2] 22)) (by
      intro i hi
      match i, hi with
      | 0, _ => simp [quadV]
      | 1, _ => simp [quadV]
      | 2, _ => simp [quadV]
      | 3, _ => simp [quadV]) (by simp) (by
      intro i hi
      match i, hi with
      | 0, _ => have := holdsB_mono (holdsB_mono H2.out N4.out) bq; rw [HSL.out] at this; exact this
      | 1, _ => exact holdsB_mono H3.out bq
      | 2, _ => exact holdsB_mono (holdsB_mono (holdsB_mono H1.out N2.out) N4.out) bq
      | 3, _ => exact holdsB_mono H4.out bq) (by
      have := HSL.out
      simp [catB, quadB]
      omega))
    have E4 : Hid (catB (quadB s.data.toList [13, 10] pb [13, 10]) 4 = s.data.toList ++ 13 :: 10 :: (pb ++ [13, 10])) := by unfold Hid; simp [catB, quadB]
    rw [E4.out] at cC
    have BQ := hide' (bt' B4.out bq)
    clear bq
    refine cC.out.mono ?_
    rintro e w5 ⟨u5, rfl, ho5⟩
    have B5 := hide' (bt' BQ.out ho5.2)
    have O5 := hide' (own_base ho5 BQ.out)
    obtain ⟨a5, c5, hu5, _⟩ := holdsB_parts (holdsB_own ho5)
    subst hu5
    clear ho5 cC
    have hlen : (s.data.toList ++ 13 :: 10 :: (pb ++ [13, 10])).length = s.size + pb.length + 4 := by
      have := HSL.out
      simp only [List.length_append, List.length_cons, List.length_nil]
      omega
    rw [hlen] at O5 ⊢
    by_cases g2 : 8192 < s.size + pb.length + 4
    · have R' := hide' (f2.out (by first | rfl | trivial) g2)
      have t2 : decide ((8192 : Int) < ((s.size + pb.length + 4 : Nat) : Int)) = true := decide_eq_true (by omega)
      have hb : s.size + pb.length + 4 ≤ 1000000000 := by omega
      clear hlen
      generalize s.size + pb.length + 4 = M at g2 t2 hb O5 ⊢
      go_wp2_with fail
      go_ret2
      exact ⟨.slice none 0 0, by rw [R'.out]; rfl, by rw [R'.out]; exact own_nil _ _ B5.out⟩
    · have R' := hide' (f3.out (by first | rfl | trivial) g2)
      have t2 : decide ((8192 : Int) < ((s.size + pb.length + 4 : Nat) : Int)) = false := decide_eq_false (by omega)
      have hb : s.size + pb.length + 4 ≤ 1000000000 := by omega
      clear hlen
      generalize s.size + pb.length + 4 = M at g2 t2 hb O5 ⊢
      go_wp2_with fail
      go_ret2
      exact ⟨.slice a5 M c5, by rw [R'.out]; rfl, by rw [R'.out]; exact O5.out⟩
  · have t1 : (pe != 0) = true := by simpa using g1
    have R' := hide' (f1.out g1)
    clear g1
    go_wp2_with fail
    go_ret2
    exact ⟨.slice none 0 0, by rw [R'.out]; rfl, by rw [R'.out]; exact own_nil _ _ B1.out⟩
end Go.Proofs.YtbbaajlabpjnlabGreatDoor
namespace Go.Proofs
open Go.Shelf
def Tryz.laysM171_ren : Go.Shelf.Ren := ⟨fun | 171 => 30 | 243 => 52 | 246 => 71 | 283 => 91 | 284 => 92 | 285 => 93 | 286 => 94 | 129 => 103 | 317 => 102 | 318 => 104 | 319 => 105 | 320 => 106 | 337 => 115 | 338 => 116 | n => n, fun | 3 => 3 | 9 => 9 | 2 => 2 | 4 => 4 | 171 => 99 | 0 => 0 | 53 => 100 | 37 => 22 | 5 => 5 | 173 => 103 | 212 => 112 | 51 => 84 | 20 => 20 | 213 => 113 | 46 => 75 | 232 => 125 | 233 => 126 | n => n, fun | 17 => 1 | 18 => 4 | 19 => 5 | n => n⟩
theorem Tryz.laysM171 : Go.Proofs.LaysM.n171 Tryz.prog Tryz.laysM171_ren := {
  mixed := by kernel_rfl
  f129 := Tryz.func103.trans (congrArg some (by kernel_rfl))
  f171 := Tryz.func30.trans (congrArg some (by kernel_rfl))
  f243 := Tryz.func52.trans (congrArg some (by kernel_rfl))
  f246 := Tryz.func71.trans (congrArg some (by kernel_rfl))
  f283 := Tryz.func91.trans (congrArg some (by kernel_rfl))
  f284 := Tryz.func92.trans (congrArg some (by kernel_rfl))
  f285 := Tryz.func93.trans (congrArg some (by kernel_rfl))
  f286 := Tryz.func94.trans (congrArg some (by kernel_rfl))
  f317 := Tryz.func102.trans (congrArg some (by kernel_rfl))
  f318 := Tryz.func104.trans (congrArg some (by kernel_rfl))
  f319 := Tryz.func105.trans (congrArg some (by kernel_rfl))
  f320 := Tryz.func106.trans (congrArg some (by kernel_rfl))
  f337 := Tryz.func115.trans (congrArg some (by kernel_rfl))
  f338 := Tryz.func116.trans (congrArg some (by kernel_rfl))
  t0 := Tryz.underlying0
  a0 := Tryz.isAgg0
  z0 := Tryz.sizeOf0
  v0 := Tryz.zeroValue0
  t2 := Tryz.underlying2
  a2 := Tryz.isAgg2
  z2 := Tryz.sizeOf2
  v2 := Tryz.zeroValue2
  t3 := Tryz.underlying3
  a3 := Tryz.isAgg3
  z3 := Tryz.sizeOf3
  v3 := Tryz.zeroValue3
  t4 := Tryz.underlying4
  a4 := Tryz.isAgg4
  z4 := Tryz.sizeOf4
  v4 := Tryz.zeroValue4
  t5 := Tryz.underlying5
  a5 := Tryz.isAgg5
  z5 := Tryz.sizeOf5
  v5 := Tryz.zeroValue5
  t9 := Tryz.underlying9
  a9 := Tryz.isAgg9
  z9 := Tryz.sizeOf9
  v9 := Tryz.zeroValue9
  t20 := Tryz.underlying20
  a20 := Tryz.isAgg20
  z20 := Tryz.sizeOf20
  v20 := Tryz.zeroValue20
  t37 := Tryz.underlying22
  a37 := Tryz.isAgg22
  z37 := Tryz.sizeOf22
  v37 := Tryz.zeroValue22
  t46 := Tryz.underlying75
  a46 := Tryz.isAgg75
  z46 := Tryz.sizeOf75
  v46 := Tryz.zeroValue75
  t51 := Tryz.underlying84
  a51 := Tryz.isAgg84
  z51 := Tryz.sizeOf84
  v51 := Tryz.zeroValue84
  t53 := Tryz.underlying100
  a53 := Tryz.isAgg100
  z53 := Tryz.sizeOf100
  v53 := Tryz.zeroValue100
  t171 := Tryz.underlying99
  a171 := Tryz.isAgg99
  z171 := Tryz.sizeOf99
  v171 := Tryz.zeroValue99
  t173 := Tryz.underlying103
  a173 := Tryz.isAgg103
  z173 := Tryz.sizeOf103
  v173 := Tryz.zeroValue103
  t212 := Tryz.underlying112
  a212 := Tryz.isAgg112
  z212 := Tryz.sizeOf112
  v212 := Tryz.zeroValue112
  t213 := Tryz.underlying113
  a213 := Tryz.isAgg113
  z213 := Tryz.sizeOf113
  t232 := Tryz.underlying125
  a232 := Tryz.isAgg125
  z232 := Tryz.sizeOf125
  v232 := Tryz.zeroValue125
  t233 := Tryz.underlying126
  a233 := Tryz.isAgg126
  z233 := Tryz.sizeOf126
  v233 := Tryz.zeroValue126
  g17 := by kernel_rfl
  g18 := by kernel_rfl
  g19 := by kernel_rfl
  i0 := by kernel_rfl
  i2 := by kernel_rfl
  i3 := by kernel_rfl
  i4 := by kernel_rfl
  i5 := by kernel_rfl
  i9 := by kernel_rfl
  i20 := by kernel_rfl
  i37 := by kernel_rfl
  i46 := by kernel_rfl
  i51 := by kernel_rfl
  i53 := by kernel_rfl
  i171 := by kernel_rfl
  i173 := by kernel_rfl
  i212 := by kernel_rfl
  i232 := by kernel_rfl
  i233 := by kernel_rfl
  m17 := by kernel_rfl
  m18 := by kernel_rfl
  m19 := by kernel_rfl }
end Go.Proofs
namespace Go.Proofs.YtbbaajlabpjnlabGreatDoor
open Go.RowKit
def Tab (w : World) : Prop := Lib.TabIs Tryz.prog w "internal/strconv.uint64pow10" .u64 Lib.pow10Tab
theorem tab_below {w w' : World} (h : Tab w) (b : Below w.heap.size w w') : Tab w' := Lib.tabBelow_of_tabIs h w' b
theorem laid_mem {P : Program} {w : World} {n : String} {d : DataW Unit} : ∀ {l : List (String × DataW Unit)} {ps : List MemPlace}, DataW.LaidVars P w l ps → (n, d) ∈ l →
    ∃ (ps' : List MemPlace), DataW.LaidVars P w [(n, d)] ps' := by
  intro l
  induction l with
  | nil => intro ps _ hm; cases hm
  | cons x r ih =>
    intro ps h hm
    obtain ⟨n0, d0⟩ := x
    obtain ⟨g, t, cs, fuel, p, q, e1, e2, e3, e4, hr, rfl⟩ := h
    rcases List.mem_cons.1 hm with hm | hm
    · cases hm
      exact ⟨_, g, t, cs, fuel, p, [], e1, e2, e3, e4, rfl, rfl⟩
    · exact ih hr hm
theorem var_ints {W : World} {l : List (String × DataW Unit)} (h : laidMet Tryz.prog l W) {n : String} {zs : List Int} {k : IntKind} (hm : (n, Lib.tabData k zs) ∈ l) {g : Nat} {t e : TypeId} {c : Nat}
    (hg : Tryz.prog.globalNamed n = some g) (hty : (Tryz.prog.globals[g]?).map (·.type) = some t) (ht : Tryz.prog.underlying t = some (.array c e)) (he : Tryz.prog.underlying e = some (.int k)) (hce : Tryz.prog.cellsOf e = 1) (hct : Tryz.prog.cellsOf t = c) :
    Lib.TabIs Tryz.prog W n k zs := by
  obtain ⟨ps, hl, _⟩ := h
  obtain ⟨ps', g', t', cs, fuel, p, q, hg', ht', hvar, hd, _, _⟩ := laid_mem hl hm
  obtain rfl := Option.some.inj (hg.symm.trans hg')
  obtain rfl := Option.some.inj (hty.symm.trans ht')
  unfold Lib.TabIs
  rw [hvar, ← Lib.cells_of_tab ht he hce hct hd]
theorem tab_of {W : World} {l : List (String × DataW Unit)} (h : laidMet Tryz.prog l W) (h4 : ("internal/strconv.uint64pow10", Lib.tabData .u64 Lib.pow10Tab) ∈ l) : Tab W :=
  var_ints h h4 (g := 1) (t := 112) (e := 100) (c := 20) (by kernel_rfl) (by kernel_rfl) Tryz.underlying112 Tryz.underlying100 (by kernel_rfl) (by kernel_rfl)
theorem itoaTab (p : Int) (h0 : -9223372036854775808 ≤ p) (h1 : p ≤ 9223372036854775807) (w : World) (T : Tab w) :
    Calls Tryz.prog 30 #[.int .i64 p] w fun e w' => e = .returned (.string ⟨(Lib.itoa p).toArray⟩) ∧ Below w.heap.size w w' := by
  refine (Any.strconv_Itoa Tryz.laysM171 p h0 h1 w T).mono ?_
  rintro e w' ⟨rfl, k, os, rfl⟩
  exact ⟨rfl, Lib.below_grow _ w (Nat.le_refl _) k os⟩
end Go.Proofs.YtbbaajlabpjnlabGreatDoor
namespace Go.Proofs.YtbbaajlabpjnlabGreatDoor
open Go.RowKit
theorem itoa_minor (k : Int) (h : goodK k = true) : Lib.itoa k = minD k := by
  unfold goodK at h
  simp at h
  rcases h with rfl | rfl
  · unfold Lib.itoa; rw [if_neg (by decide), Lib.decDigits_one (by decide)]; rfl
  · unfold Lib.itoa; rw [if_neg (by decide), Lib.decDigits_one (by decide)]; rfl
theorem itoa_status (s : Int) (h : goodS s = true) : Lib.itoa s = stD s := by
  unfold goodS at h
  simp at h
  unfold Lib.itoa
  rw [if_neg (by omega), Lib.decDigits, dif_neg (by omega), Lib.decDigits, dif_neg (by omega), Lib.decDigits_one (by omega)]
  unfold stD
  simp only [List.cons_append, List.nil_append, List.cons.injEq, and_true]
  exact congrArg _ (by omega)
set_option maxHeartbeats 400000 in
theorem goodMinorTok (k : Int) (w : World) :
    Calls Tryz.prog 28 #[.int .i64 k] w fun e w' => e = .returned (.bool (goodK k)) ∧ w' = w := by
  by_cases h0 : k = 0
  · subst h0
    go_enter Tryz.func28, Tryz.ntmps28
    go_wp2
    go_ret
    exact ⟨rfl, rfl⟩
  · have t0 : (k == 0) = false := by simpa using h0
    by_cases h1 : k = 1
    · subst h1
      go_enter Tryz.func28, Tryz.ntmps28
      go_wp2
      go_ret
      exact ⟨rfl, rfl⟩
    · have t1 : (k == 1) = false := by simpa using h1
      have H : Hid (goodK k = false) := by unfold Hid goodK; simp; omega
      clear h0 h1
      go_enter Tryz.func28, Tryz.ntmps28
      go_wp2
      go_ret
      rw [H.out]
      exact ⟨rfl, rfl⟩
/-- four cells of a block, in every later world -/
def Four (g : Nat) (W : World) (a b c d : Value) : Prop := W.cell? ⟨g, 0, none⟩ = some a ∧ W.cell? ⟨g, 1, none⟩ = some b ∧ W.cell? ⟨g, 2, none⟩ = some c ∧ W.cell? ⟨g, 3, none⟩ = some d
theorem four_below {g : Nat} {W W' : World} {a b c d : Value} (h : Four g W a b c d) (hg : g < W.heap.size) (hb : Below W.heap.size W W') : Four g W' a b c d := by
  obtain ⟨h0, h1, h2, h3⟩ := h
  exact ⟨by rw [hb.cell (p := ⟨g, 0, none⟩) hg]; exact h0, by rw [hb.cell (p := ⟨g, 1, none⟩) hg]; exact h1, by rw [hb.cell (p := ⟨g, 2, none⟩) hg]; exact h2, by rw [hb.cell (p := ⟨g, 3, none⟩) hg]; exact h3⟩
theorem add_str (x y : ByteArray) (h : x.size + y.size ≤ 1000000000) : ∃ s : ByteArray, (∀ W, (Op.stringOp .add x y).run Tryz.prog W = .ok (.string s) W) ∧ s.data.toList = x.data.toList ++ y.data.toList ∧ s.size = x.size + y.size :=
  ⟨x ++ y, fun W => run_string_add_sum W _ _ (by omega), by simp [ByteArray.data_append], ByteArray.size_append⟩
set_option maxRecDepth 20000 in
set_option maxHeartbeats 8000000 in
theorem printRqTok (m t : List UInt8) (k : Int) (fs : FL) (lv : Value) (w : World) (hv : HoldsF w lv fs) (T : Tab w) (hfit : Fit fs) (hl : fs.length ≤ 2000000) (hP : (printOf fs).length ≤ 10000000) (hm : m.length ≤ 10000000) (ht : t.length ≤ 10000000) (hk : -9223372036854775808 ≤ k ∧ k ≤ 9223372036854775807) :
    Calls Tryz.prog 7 #[.agg #[.string ⟨m.toArray⟩, .string ⟨t.toArray⟩, .int .i64 k, lv]] w fun e w' => ∃ u, e = .returned (.tuple #[u, .int .i64 (prQ ⟨m, t, k, fs⟩).2]) ∧ Own w u (prQ ⟨m, t, k, fs⟩).1 w' := by
  obtain ⟨la, lc, lb, lo, hlv, _⟩ := holdsF_parts hv
  subst hlv
  have b0 := below_alloc' w (.cells #[.string ⟨m.toArray⟩, .string ⟨t.toArray⟩, .int .i64 k, .slice la fs.length lc] 25)
  have hF : Four w.heap.size (w.alloc (.cells #[.string ⟨m.toArray⟩, .string ⟨t.toArray⟩, .int .i64 k, .slice la fs.length lc] 25)) (.string ⟨m.toArray⟩) (.string ⟨t.toArray⟩) (.int .i64 k) (.slice la fs.length lc) := ⟨by simp, by simp, by simp, by simp⟩
  have hg : w.heap.size < (w.alloc (.cells #[.string ⟨m.toArray⟩, .string ⟨t.toArray⟩, .int .i64 k, .slice la fs.length lc] 25)).heap.size := by simp
  have hv0 := holdsF_mono hv b0
  have T0 := tab_below T b0
  have K1 : Hid (∀ W, Calls Tryz.prog 26 #[.string ⟨m.toArray⟩] W fun e w' => e = .returned (.bool (isTok m)) ∧ w' = W) := fun W => tokenTok ⟨m.toArray⟩ W (by rw [size_l]; omega)
  have K2 : Hid (∀ W, Calls Tryz.prog 27 #[.string ⟨t.toArray⟩] W fun e w' => e = .returned (.bool (goodT t)) ∧ w' = W) := fun W => goodTargetTok ⟨t.toArray⟩ W (by rw [size_l]; omega)
  have K3 := hide' (fun W => goodMinorTok k W)
  obtain ⟨W0, hW0⟩ : ∃ W0, W0 = w.alloc (.cells #[.string ⟨m.toArray⟩, .string ⟨t.toArray⟩, .int .i64 k, .slice la fs.length lc] 25) := ⟨_, rfl⟩
  have HW0 := hide' hW0
  rw [← hW0] at b0 hF hg hv0 T0
  have B0 := hide' b0
  have HV0 := hide' hv0
  have F0 := hide' hF
  have HT0 := hide' T0
  have HFIT := hide' hfit
  obtain ⟨g, hgg⟩ : ∃ g, g = w.heap.size := ⟨_, rfl⟩
  have HGG := hide' hgg
  rw [← hgg] at hF hg F0
  obtain ⟨c0, c1, c2, c3⟩ := hF
  have HG := hide' hg
  have HPP := hide' hP
  clear hv hW0 b0 hv0 T0 T hfit hgg hP
  go_enter Tryz.func7, Tryz.ntmps7
  go_wp2_with fail
  rw [← HW0.out, ← HGG.out]
  refine (K1.out _).mono ?_
  rintro e w9 ⟨rfl, ew⟩
  rw [ew]
  clear ew w9
  cases h1 : isTok m with
  | false =>
    have R' : Hid (prQ ⟨m, t, k, fs⟩ = ([], 50)) := by unfold Hid prQ; simp only [h1]; rfl
    clear h1
    go_wp2_with fail
    go_ret2
    exact ⟨.slice none 0 0, by rw [R'.out]; rfl, by rw [R'.out]; exact own_nil _ _ B0.out⟩
  | true =>
    have H1 := hide' h1
    clear h1
    go_wp2_with fail
    refine (K2.out _).mono ?_
    rintro e w9 ⟨rfl, ew⟩
    rw [ew]
    clear ew w9
    cases h2 : goodT t with
    | false =>
      have R' : Hid (prQ ⟨m, t, k, fs⟩ = ([], 50)) := by unfold Hid prQ; simp only [h2, Bool.false_and, Bool.and_false]; rfl
      clear h2
      go_wp2_with fail
      go_ret2
      exact ⟨.slice none 0 0, by rw [R'.out]; rfl, by rw [R'.out]; exact own_nil _ _ B0.out⟩
    | true =>
      have H2 := hide' h2
      clear h2
      go_wp2_with fail
      refine (K3.out _).mono ?_
      rintro e w9 ⟨rfl, ew⟩
      rw [ew]
      clear ew w9
      cases h3 : goodK k with
      | false =>
        have R' : Hid (prQ ⟨m, t, k, fs⟩ = ([], 50)) := by unfold Hid prQ; simp only [h3, Bool.and_false]; rfl
        clear h3
        go_wp2_with fail
        go_ret2
        exact ⟨.slice none 0 0, by rw [R'.out]; rfl, by rw [R'.out]; exact own_nil _ _ B0.out⟩
      | true =>
        have R' : Hid (prQ ⟨m, t, k, fs⟩ = wholeP (lineP ⟨m, t, k, fs⟩) fs) := by unfold Hid prQ; simp only [H1.out, H2.out, h3]; rfl
        have hIk := itoa_minor k h3
        have z1 : (⟨m.toArray⟩ : ByteArray).size = m.length := size_l m
        have z2 : (⟨t.toArray⟩ : ByteArray).size = t.length := size_l t
        have z3 : (⟨#[32]⟩ : ByteArray).size = 1 := rfl
        have z4 : (⟨#[72, 84, 84, 80, 47, 49, 46]⟩ : ByteArray).size = 7 := rfl
        obtain ⟨X1, a1, l1, s1⟩ := add_str ⟨m.toArray⟩ ⟨#[32]⟩ (by omega)
        obtain ⟨X2, a2, l2, s2⟩ := add_str X1 ⟨t.toArray⟩ (by omega)
        obtain ⟨X3, a3, l3, s3⟩ := add_str X2 ⟨#[32]⟩ (by omega)
        obtain ⟨X4, a4, l4, s4⟩ := add_str X3 ⟨#[72, 84, 84, 80, 47, 49, 46]⟩ (by omega)
        obtain ⟨I, hI⟩ : ∃ I : ByteArray, I = ⟨(Lib.itoa k).toArray⟩ := ⟨_, rfl⟩
        have hIl : I.data.toList = minD k := by rw [hI, hIk]
        have hIs : I.size = 1 := by
          have : I.size = I.data.toList.length := by simp
          rw [this, hIl]; unfold minD; split <;> rfl
        obtain ⟨X5, a5, l5, s5⟩ := add_str X4 I (by omega)
        have hX5 : X5.data.toList = lineP ⟨m, t, k, fs⟩ := by
          rw [l5, l4, l3, l2, l1, hIl]
          unfold lineP M7
          simp
        rw [← hX5] at R'
        have kI := hide' (fun W (hb : Below W0.heap.size W0 W) => (itoaTab k hk.1 hk.2 W (tab_below HT0.out hb)).mono (R' := fun e w' => e = .returned (.string I) ∧ Hid (Below W0.heap.size W0 w') ∧ Four g w' (.string ⟨m.toArray⟩) (.string ⟨t.toArray⟩) (.int .i64 k) (.slice la fs.length lc)) (by
          rintro e w' ⟨rfl, b⟩
          exact ⟨by rw [hI], bt' hb b, four_below F0.out HG.out (bt' hb b)⟩))
        have kP := hide' (fun W (hb : Below W0.heap.size W0 W) => (printedTok X5 (.slice la fs.length lc) fs W (holdsF_mono HV0.out hb) HFIT.out (by omega) (by have := HPP.out; omega) (by omega)).mono (R' := fun e w' => ∃ u, e = .returned (.tuple #[u, .int .i64 (wholeP X5.data.toList fs).2]) ∧ Hid (Own w u (wholeP X5.data.toList fs).1 w') ∧ Four g w' (.string ⟨m.toArray⟩) (.string ⟨t.toArray⟩) (.int .i64 k) (.slice la fs.length lc)) (by
          rintro e w' ⟨u, rfl, ho⟩
          exact ⟨u, rfl, own_base ho (bt' B0.out hb), four_below F0.out HG.out (bt' hb ho.2)⟩))
        unfold Four at kI kP
        have q1 : m.length ≤ 10000000 := hm
        clear l1 l2 l3 l4 l5 hX5 hIl hIk hI h3 z1 z2
        generalize wholeP X5.data.toList fs = wp at kP R'
        generalize hM : (⟨m.toArray⟩ : ByteArray) = mm at kI kP c0 a1 s1 ⊢
        generalize hTt : (⟨t.toArray⟩ : ByteArray) = tt at kI kP c1 a2 s2 ⊢
        have n1 : (mm.size : Int) ≤ 10000000 := by rw [← hM, size_l]; omega
        have n2 : (tt.size : Int) ≤ 10000000 := by rw [← hTt, size_l]; omega
        clear hM hTt F0
        go_wp2_with fail
        go_region_held3 (fun w' => w'.cell? ⟨g, 0, none⟩ = some (.string mm) ∧ w'.cell? ⟨g, 1, none⟩ = some (.string tt) ∧ w'.cell? ⟨g, 2, none⟩ = some (.int .i64 k) ∧ w'.cell? ⟨g, 3, none⟩ = some (.slice la fs.length lc)) (go_keep)
          (first
            | (go_at_call 30; refine (kI.out _ ?_).mono ?_; (first | exact (Below.refl _ _).drew | exact Below.refl _ _); rintro e w2 ⟨rfl, O2, k0, k1, k2, k3⟩)
            | (go_at_call 29; refine (kP.out _ O2.out).mono ?_; rintro e w3 ⟨u, rfl, O3, k4, k5, k6, k7⟩))
        all_goals
          go_wp2_with fail
          go_ret2
          exact ⟨u, by rw [R'.out]; rfl, by rw [R'.out]; exact O3.out⟩
end Go.Proofs.YtbbaajlabpjnlabGreatDoor
