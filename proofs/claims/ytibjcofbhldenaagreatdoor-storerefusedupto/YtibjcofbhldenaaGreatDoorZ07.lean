/- The contracts of digit, visible, textByte, every, goodTarget, isVersion, minorOf. The contract of bytes.IndexAny at a line's two last bytes, of two to eight bytes. -/
import Derived.Test.YtibjcofbhldenaaGreatDoorZ06
import Derived.Test.YtibjcofbhldenaaGreatDoorZ01
namespace Go.Proofs.YtibjcofbhldenaaGreatDoor
open Go.RowKit
theorem digTok (c : Int) (h0 : 0 ≤ c) (h1 : c ≤ 255) (w : World) :
    Calls Tryz.prog 242 #[.int .u8 c] w fun e w' => e = .returned (.bool (digI c)) ∧ w' = w := by
  by_cases a1 : 48 ≤ c
  · by_cases a2 : c ≤ 57
    · have H : Hid (digI c = true) := by unfold Hid digI; simp; omega
      go_enter Tryz.func242, Tryz.ntmps242
      go_wp2
      go_ret
      rw [H.out]
      exact ⟨rfl, rfl⟩
    · have b2 : decide (c ≤ 57) = false := by simpa using a2
      have H : Hid (digI c = false) := by unfold Hid digI; simp; omega
      go_enter Tryz.func242, Tryz.ntmps242
      go_wp2
      go_ret
      rw [H.out]
      exact ⟨rfl, rfl⟩
  · have b2 : decide (48 ≤ c) = false := by simpa using a1
    have H : Hid (digI c = false) := by unfold Hid digI; simp; omega
    go_enter Tryz.func242, Tryz.ntmps242
    go_wp2
    go_ret
    rw [H.out]
    exact ⟨rfl, rfl⟩
set_option maxHeartbeats 400000 in
theorem textTok (c : Int) (h0 : 0 ≤ c) (h1 : c ≤ 255) (w : World) :
    Calls Tryz.prog 151 #[.int .u8 c] w fun e w' => e = .returned (.bool (txtI c)) ∧ w' = w := by
  by_cases a1 : c = 9
  · subst a1
    have H : Hid (txtI 9 = true) := rfl
    go_enter Tryz.func151, Tryz.ntmps151
    go_wp2
    go_ret
    rw [H.out]
    exact ⟨rfl, rfl⟩
  · by_cases a2 : 32 ≤ c
    · by_cases a3 : c = 127
      · subst a3
        have H : Hid (txtI 127 = false) := rfl
        go_enter Tryz.func151, Tryz.ntmps151
        go_wp2
        go_ret
        rw [H.out]
        exact ⟨rfl, rfl⟩
      · have b1 : (c == 9) = false := by simpa using a1
        have b2 : (c != 127) = true := by simpa using a3
        have H : Hid (txtI c = true) := by unfold Hid txtI; simp; omega
        go_enter Tryz.func151, Tryz.ntmps151
        go_wp2
        go_ret
        rw [H.out]
        exact ⟨rfl, rfl⟩
    · have b1 : (c == 9) = false := by simpa using a1
      have b2 : decide (32 ≤ c) = false := by simpa using a2
      have H : Hid (txtI c = false) := by unfold Hid txtI; simp; omega
      go_enter Tryz.func151, Tryz.ntmps151
      go_wp2
      go_ret
      rw [H.out]
      exact ⟨rfl, rfl⟩
theorem ev_step (g : UInt8 → Bool) (s : ByteArray) (k : Nat) (h : k < s.size) (hc : g s[k] = true) (ha : (s.data.toList.take k).all g = true) : (s.data.toList.take (k + 1)).all g = true := by
  rw [take_snoc s k h, List.all_append, ha]; simp [hc]
theorem ev_bad (g : UInt8 → Bool) (s : ByteArray) (k : Nat) (h : k < s.size) (hc : g s[k] = false) : s.data.toList.all g = false := by
  rw [List.all_eq_false]
  exact ⟨s[k], by rw [show s[k] = s.data.toList[k]'(by simpa using h) from rfl]; exact List.getElem_mem _, by simp [hc]⟩
theorem ev_end (g : UInt8 → Bool) (s : ByteArray) (k : Nat) (h : s.size ≤ k) (ha : (s.data.toList.take k).all g = true) : s.data.toList.all g = true := by
  rw [take_all s k h] at ha; exact ha
set_option maxHeartbeats 1000000 in
theorem everyTxt (s : ByteArray) (w : World) (hs : s.size ≤ 140737488351232) :
    Calls Tryz.prog 150 #[.string s, .func (.func 151) #[] #[]] w fun e w' => e = .returned (.bool (s.data.toList.all txt)) ∧ w' = w := by
  obtain ⟨r, hr⟩ : ∃ r, r = s.data.toList.all txt := ⟨_, rfl⟩
  rw [← hr]
  have HR := hide' hr
  clear hr
  go_enter Tryz.func150, Tryz.ntmps150
  go_wp2_with fail
  go_loop [8] (fun i => ∃ k : Nat, k ≤ s.size ∧ i = .int .i64 k ∧ Hid ((s.data.toList.take k).all txt = true)) (fun i => s.size - (intOf i).toNat)
  case atStart => exact ⟨0, by omega, rfl, by unfold Hid; simp⟩
  case round =>
    obtain ⟨k, hk, rfl, ha⟩ := hrel
    by_cases hlt : k < s.size
    · have hb := byte_lt s[k]
      cases ht : txtI (s[k].toNat : Int) with
      | true =>
        have A := hide' (ev_step txt s k hlt ht ha.out)
        go_wp2_with (go_at_call 151; refine (textTok _ (by omega) (by omega) _).mono ?_; rintro e w' ⟨rfl, rfl⟩)
        go_round
        case rel => exact ⟨k + 1, by omega, by go_num, A⟩
        case measure => simp [intOf]; omega
      | false =>
        have F := hide' (ev_bad txt s k hlt ht)
        go_wp2_with (go_at_call 151; refine (textTok _ (by omega) (by omega) _).mono ?_; rintro e w' ⟨rfl, rfl⟩)
        go_ret
        rw [HR.out, F.out]
        exact ⟨rfl, rfl⟩
    · have F := hide' (ev_end txt s k (by omega) ha.out)
      go_wp2_with fail
      go_ret
      rw [HR.out, F.out]
      exact ⟨rfl, rfl⟩
set_option maxHeartbeats 1000000 in
theorem everyDig (s : ByteArray) (w : World) (hs : s.size ≤ 140737488351232) :
    Calls Tryz.prog 150 #[.string s, .func (.func 242) #[] #[]] w fun e w' => e = .returned (.bool (s.data.toList.all dig)) ∧ w' = w := by
  obtain ⟨r, hr⟩ : ∃ r, r = s.data.toList.all dig := ⟨_, rfl⟩
  rw [← hr]
  have HR := hide' hr
  clear hr
  go_enter Tryz.func150, Tryz.ntmps150
  go_wp2_with fail
  go_loop [8] (fun i => ∃ k : Nat, k ≤ s.size ∧ i = .int .i64 k ∧ Hid ((s.data.toList.take k).all dig = true)) (fun i => s.size - (intOf i).toNat)
  case atStart => exact ⟨0, by omega, rfl, by unfold Hid; simp⟩
  case round =>
    obtain ⟨k, hk, rfl, ha⟩ := hrel
    by_cases hlt : k < s.size
    · have hb := byte_lt s[k]
      cases ht : digI (s[k].toNat : Int) with
      | true =>
        have A := hide' (ev_step dig s k hlt ht ha.out)
        go_wp2_with (go_at_call 242; refine (digTok _ (by omega) (by omega) _).mono ?_; rintro e w' ⟨rfl, rfl⟩)
        go_round
        case rel => exact ⟨k + 1, by omega, by go_num, A⟩
        case measure => simp [intOf]; omega
      | false =>
        have F := hide' (ev_bad dig s k hlt ht)
        go_wp2_with (go_at_call 242; refine (digTok _ (by omega) (by omega) _).mono ?_; rintro e w' ⟨rfl, rfl⟩)
        go_ret
        rw [HR.out, F.out]
        exact ⟨rfl, rfl⟩
    · have F := hide' (ev_end dig s k (by omega) ha.out)
      go_wp2_with fail
      go_ret
      rw [HR.out, F.out]
      exact ⟨rfl, rfl⟩
theorem ba_ne (s : ByteArray) (l : List UInt8) (h : ¬ s.data.toList = l) : (s.toList == l) = false ∧ (s.toList == (⟨l.toArray⟩ : ByteArray).toList) = false := by
  rw [Lib.toList_data, Lib.toList_data]; exact ⟨by simpa using h, by simpa using h⟩
theorem ba_mk {s : ByteArray} {l : List UInt8} (h : s.data.toList = l) : s = ⟨l.toArray⟩ := by cases s; simp at h; simp [← h]
set_option maxHeartbeats 400000 in
theorem minorTok (s : ByteArray) (w : World) :
    Calls Tryz.prog 243 #[.string s] w fun e w' => e = .returned (.tuple #[.int .i64 (minOf s.data.toList).1, .int .i64 (minOf s.data.toList).2]) ∧ w' = w := by
  by_cases h0 : s.data.toList = V10
  · obtain rfl := ba_mk h0
    have R : Hid (minOf (⟨V10.toArray⟩ : ByteArray).data.toList = (0, 0)) := by unfold Hid; decide
    rw [R.out]
    unfold V10
    clear h0 R
    go_enter Tryz.func243, Tryz.ntmps243
    go_wp2
    go_ret2
    exact ⟨rfl, rfl⟩
  · have n0 := ba_ne s V10 h0
    unfold V10 at n0
    obtain ⟨n1, n2⟩ := n0
    by_cases h1 : s.data.toList = V11
    · obtain rfl := ba_mk h1
      have R : Hid (minOf (⟨V11.toArray⟩ : ByteArray).data.toList = (1, 0)) := by unfold Hid; decide
      rw [R.out]
      unfold V11
      clear h0 h1 R n1 n2
      go_enter Tryz.func243, Tryz.ntmps243
      go_wp2
      go_ret2
      exact ⟨rfl, rfl⟩
    · have n3 := ba_ne s V11 h1
      unfold V11 at n3
      obtain ⟨n3, n4⟩ := n3
      have R : Hid (minOf s.data.toList = (0, 52)) := by unfold Hid minOf; rw [if_neg h0, if_neg h1]
      rw [R.out]
      clear h0 h1 R
      go_enter Tryz.func243, Tryz.ntmps243
      go_wp2
      go_ret2
      exact ⟨rfl, rfl⟩
end Go.Proofs.YtibjcofbhldenaaGreatDoor
namespace Go.Proofs.YtibjcofbhldenaaGreatDoor
open Go.RowKit
set_option maxHeartbeats 400000 in
theorem shouldB (n : Int) (w : World) :
    Calls Tryz.prog 278 #[.int .i64 n] w fun e w' => e = .returned (.bool (decide (8 < n))) ∧ w' = w := by
  go_enter Tryz.func278, Tryz.ntmps278
  go_wp2
  go_ret
  exact ⟨rfl, rfl⟩
theorem end_big {c : UInt8} (h : 128 ≤ c.toNat) : isEnd c = false := by
  unfold isEnd
  simp
  constructor
  · rintro rfl; exact absurd h (by decide)
  · rintro rfl; exact absurd h (by decide)
theorem any_more (l : List UInt8) (i : Nat) (K : Nat) (hk : i + K ≤ l.length) (ha : (l.take i).any isEnd = false) (hb : ∀ j (h : i + j < l.length), j < K → 128 ≤ (l[i + j]).toNat) : (l.take (i + K)).any isEnd = false := by
  induction K with
  | zero => exact ha
  | succ K ih =>
    have h1 := ih (by omega) (fun j h hj => hb j h (by omega))
    rw [show i + (K + 1) = (i + K) + 1 by omega, List.take_succ_eq_append_getElem (by omega), List.any_append, h1]
    simp [end_big (hb K (by omega) (by omega))]
theorem any_next (l : List UInt8) (i : Nat) (hi : i < l.length) (ha : (l.take i).any isEnd = false) (hc : isEnd l[i] = false) : (l.take (i + 1)).any isEnd = false := by
  rw [List.take_succ_eq_append_getElem hi, List.any_append, ha]
  simp [hc]
theorem any_hit (l : List UInt8) (i : Nat) (hi : i < l.length) (hc : isEnd l[i] = true) : l.any isEnd = true := List.any_eq_true.2 ⟨l[i], List.getElem_mem hi, hc⟩
theorem from_at (b off n cap i : Nat) (hi : i < n) (hc : n ≤ cap) (w : World) : Sem.run Tryz.prog (Instr.slice 57 (.slice (some ⟨b, off, none⟩) n cap) (some (.int .i64 i)) none none) w = .ok (.slice (some ⟨b, off + i, none⟩) (n - i) (cap - i)) w := by
  have he : Tryz.prog.elem 57 = 5 := by kernel_rfl
  have h := run_slice_l (P := Tryz.prog) w 57 (some ⟨b, off, none⟩) n cap (by rw [he]; exact Tryz.underlying57) .i64 i (by omega) (by omega)
  rw [he, Tryz.sizeOf5] at h
  simp only [Result.andThen, Int.toNat_natCast, sliced] at h
  rw [h]
  have : ¬ cap = i := by omega
  simp [Addr.add, this]
theorem iter_below (w : World) (s : ByteArray) (pos : Nat) : Below w.heap.size w (w.iter s pos) := (Below.refl _ _).alloc (Nat.le_refl _) _
theorem next0 (w : World) (ty : TypeId) : (Instr.next (.pointer (some ⟨w.heap.size, 0, none⟩)) true ty).run Tryz.prog (w.iter ⟨#[13, 10]⟩ 0) = .ok (.tuple #[.bool true, .int .i64 0, .int .i32 13]) (w.iter ⟨#[13, 10]⟩ 1) := run_next_ascii w ⟨#[13, 10]⟩ 0 ty (by decide) (by decide)
theorem next1 (w : World) (ty : TypeId) : (Instr.next (.pointer (some ⟨w.heap.size, 0, none⟩)) true ty).run Tryz.prog (w.iter ⟨#[13, 10]⟩ 1) = .ok (.tuple #[.bool true, .int .i64 1, .int .i32 10]) (w.iter ⟨#[13, 10]⟩ 2) := run_next_ascii w ⟨#[13, 10]⟩ 1 ty (by decide) (by decide)
theorem next2 (w : World) (ty : TypeId) : (Instr.next (.pointer (some ⟨w.heap.size, 0, none⟩)) true ty).run Tryz.prog (w.iter ⟨#[13, 10]⟩ 2) = .ok (.tuple #[.bool false]) (w.iter ⟨#[13, 10]⟩ 2) := run_next_end w ⟨#[13, 10]⟩ 2 ty (by decide)
set_option maxRecDepth 20000 in
set_option maxHeartbeats 1000000 in
theorem idxB8 (line : List UInt8) (ao : Option Addr) (cap : Nat) (W : World) (h : HoldsB W (.slice ao line.length cap) line) (M : MaxV W) (T : TabsV W) (h2 : 2 ≤ line.length) (h8 : line.length ≤ 8) :
    Calls Tryz.prog 263 #[.slice ao line.length cap, .string ⟨#[13, 10]⟩] W fun e w' => ∃ r : Int, e = .returned (.int .i64 r) ∧ Hid (decide (0 ≤ r) = line.any isEnd) ∧ Below W.heap.size W w' := by
  obtain ⟨ao', cap', e, h0, hcp, hc⟩ := h
  simp only [Value.slice.injEq] at e
  obtain ⟨rfl, _, rfl⟩ := e
  obtain ⟨b, off, rfl, hblt, hcell⟩ := hc (fun e => by rw [e] at h2; simp at h2)
  have C := hide' hcell
  have MV := hide' M
  have TV := hide' T
  clear hc hcell M T h0
  obtain ⟨n, en⟩ : ∃ n, n = line.length := ⟨_, rfl⟩
  have N : Hid (line.length = n) := en.symm
  rw [N.out] at h2 h8 hcp ⊢
  clear en
  have h8' : decide ((8 : Int) < (n : Int)) = false := decide_eq_false (by omega)
  have n1 : ((n : Int) == 1) = false := by simp; omega
  go_enter Tryz.func263, Tryz.ntmps263
  go_wp2_with (go_at_call 278; refine (shouldB _ _).mono ?_; rintro e w' ⟨rfl, hw⟩; rw [hw]; clear hw)
  clear h8' n1
  go_loopw [12] (fun iv wr => ∃ i : Nat, i ≤ n ∧ iv = .int .i64 i ∧ Hid ((line.take i).any isEnd = false) ∧ Hid (Below W.heap.size W wr)) (fun iv _ => n - (intOf iv).toNat)
  case atStart => exact ⟨0, Nat.zero_le _, rfl, by unfold Hid; simp, Below.refl _ _⟩
  case round =>
    obtain ⟨i, hi, rfl, HA, HB⟩ := hrel
    by_cases hlt : i < n
    · have G : Hid (i < line.length) := by unfold Hid; rw [N.out]; exact hlt
      have ck : wr.cell? ⟨b, off + i, none⟩ = some (.int .u8 ((line[i]'G.out).toNat : Int)) := by
        rw [HB.out.cell (p := ⟨b, off + i, none⟩) hblt]; exact C.out i G.out
      have hbt := byte_lt (line[i]'G.out)
      by_cases ha : (line[i]'G.out).toNat < 128
      · obtain ⟨r, hr, hr1, hr2⟩ := ibs (line[i]'G.out) wr
        have hai : ((line[i]'G.out).toNat : Int) < 128 := by omega
        cases he : isEnd (line[i]'G.out) with
        | true =>
          have A2 := hide' (any_hit line i G.out he)
          have hr0 := hr1 he
          clear hr1 hr2 he ha
          generalize (line[i]'G.out).toNat = cn at ck hr hai hbt
          go_wp2_with fail
          go_ret
          exact ⟨_, rfl, by unfold Hid; rw [A2.out]; simp, HB.out⟩
        | false =>
          have A2 := hide' (any_next line i G.out HA.out he)
          have hr0 := hr2 he
          clear hr1 hr2 he ha
          generalize (line[i]'G.out).toNat = cn at ck hr hai hbt
          go_wp2_with fail
          go_roundw
          case rel => exact ⟨i + 1, by omega, by go_num, A2, HB⟩
          case measure => simp [intOf]; omega
      · have hd0 : 0 < (line.drop i).length := by rw [List.length_drop]; have := G.out; omega
        have hge : 128 ≤ ((line.drop i)[0]'hd0).toNat := by simp; omega
        obtain ⟨R, K, hdec, hK1, hKn, hK4, hR1, hR2, hbig, hkind⟩ := dec_spec (line.drop i) hd0 hge
        have hKn' : i + K ≤ n := by rw [List.length_drop, N.out] at hKn; omega
        have A2 := hide' (any_more line i K (by rw [N.out]; exact hKn') HA.out (fun j hj hjk => by
          have := hbig j (by rw [List.length_drop]; omega) hjk
          simpa using this))
        have cD := Any7.utf8_DecodeRune Tryz.lays7_32 ⟨(line.drop i).toArray⟩ b (off + i) (cap - i) wr (tabsV_below TV.out HB.out) (fun j hj => by
          rw [size_l, List.length_drop] at hj
          have := C.out (i + j) (by omega)
          rw [Nat.add_assoc, HB.out.cell (p := ⟨b, off + (i + j), none⟩) hblt, this]
          have e1 : ((⟨(line.drop i).toArray⟩ : ByteArray).get! j) = line[i + j]'(by omega) := by
            show ((line.drop i).toArray)[j]! = _
            rw [getElem!_pos _ j (by simp; omega)]
            simp
          rw [e1]; rfl)
        rw [hdec, size_l, List.length_drop, N.out] at cD
        have CD := hide' cD
        have hsl := from_at b off n cap i hlt hcp wr
        have hai : ((128 : Int) ≤ ((line[i]'G.out).toNat : Int)) := by omega
        clear hdec hbig cD ha hge hd0 hKn
        generalize (line[i]'G.out).toNat = cn at ck hai hbt
        obtain ⟨m, hm⟩ := maxV_below MV.out HB.out
        go_wp2_with fail
        refine CD.out.mono ?_
        rintro e w2 ⟨rfl, b2⟩
        have B2 := hide' (bt' HB.out b2)
        have hm2 : w2.cell? ⟨1, 0, none⟩ = some (.int .i64 m) := by rw [b2.cell (p := ⟨1, 0, none⟩) (cell_ltF hm)]; exact hm
        clear b2 CD hsl ck hm
        have hn0 := next0 w2
        have hn1 := next1 w2
        have hn2 := next2 w2
        rcases hkind with rfl | ⟨hv, hK2, hES⟩
        · clear hR1 hR2 hm2
          go_wp2_with fail
          go_rounds 3
          go_roundw
          case rel => exact ⟨i + K, by omega, by go_num, A2, bt' B2.out (iter_below w2 _ _)⟩
          case measure => simp [intOf]; omega
        · obtain ⟨f1, f2, f3⟩ := encode_facts R hv (by omega)
          have fne := enc_ne' _ f1 f3
          obtain ⟨E, hE⟩ : ∃ E, Utf8.encode (R : Int) = E := ⟨_, rfl⟩
          rw [hE] at f1 f2 fne hES
          clear f3 hv
          have r13 : ((R : Int) == 13) = false := by simp; omega
          have r10 : ((R : Int) == 10) = false := by simp; omega
          by_cases hRe : R = 65533
          · subst hRe
            clear hE r13 r10
            go_wp2_with fail
            go_rounds 3
            go_roundw
            case rel => exact ⟨i + K, by omega, by go_num, A2, bt' B2.out (iter_below w2 _ _)⟩
            case measure => simp [intOf]; omega
          · have hRn : ((R : Int) != 65533) = true := by simp; omega
            by_cases hk2 : K = 2
            · have k2 : ((2 : Int) == (K : Int)) = true := by simp; omega
              have e1 : ((⟨#[13, 10]⟩ : ByteArray).toList == E.toList) = false := by
                rw [Lib.toList_data, Lib.toList_data]; simp; exact fun e => fne e.symm
              have e2 : (([13, 10] : List UInt8) == E.toList) = false := by
                rw [Lib.toList_data]; simp; exact fun e => fne e.symm
              clear hk2 hRe
              go_wp2_with fail
              go_roundw
              case rel => exact ⟨i + K, by omega, by go_num, A2, B2⟩
              case measure => simp [intOf]; omega
            · have k2 : ((2 : Int) == (K : Int)) = false := by simp; omega
              clear hk2 hRe
              by_cases hmk : (K : Int) ≤ m
              · have hi1 := iss E w2 m hm2 f1 fne (by omega)
                go_wp2_with fail
                go_roundw
                case rel => exact ⟨i + K, by omega, by go_num, A2, B2⟩
                case measure => simp [intOf]; omega
              · have hm3 : m < (K : Int) := by omega
                have hm4 : decide ((K : Int) ≤ m) = false := decide_eq_false hmk
                clear hmk hE f1 f2 fne hES
                go_wp2_with fail
                go_rounds 3
                go_roundw
                case rel => exact ⟨i + K, by omega, by go_num, A2, bt' B2.out (iter_below w2 _ _)⟩
                case measure => simp [intOf]; omega
    · have E : Hid (line.take i = line) := List.take_of_length_le (by rw [N.out]; omega)
      rw [E.out] at HA
      go_wp2_with fail
      go_ret
      exact ⟨_, rfl, by unfold Hid; rw [HA.out]; simp, HB.out⟩
end Go.Proofs.YtibjcofbhldenaaGreatDoor
