/- The contract of bytes.IndexAny at a line's two last bytes, of two to eight bytes. -/
import Derived.Test.YtbbaajlabpjnlaaDoorFdI
namespace Go.Proofs.YtbbaajlabpjnlaaDoor
open Go.RowKit
set_option maxHeartbeats 400000 in
theorem shouldB (n : Int) (w : World) :
    Calls Tryd.prog 66 #[.int .i64 n] w fun e w' => e = .returned (.bool (decide (8 < n))) ∧ w' = w := by
  go_enter Tryd.func66, Tryd.ntmps66
  go_wp2
  go_ret
  exact ⟨rfl, rfl⟩
theorem end_big {c : UInt8} (h : 128 ≤ c.toNat) : isEnd c = false := by
  unfold isEnd
  simp
  constructor
  · rintro rfl; exact absurd h (by decide)
  · rintro rfl; exact absurd h (by decide)
theorem any_more (l : List UInt8) (i : Nat) (K : Nat) (hk : i + K ≤ l.length) (ha : (l.take i).any isEnd = false) (hb : ∀ j (h : i + j < l.length), j < K → 128 ≤ (l[i + j]).toNat) : (l.take (i + K)).any isEnd = false := by
  induction K with
  | zero => exact ha
  | succ K ih =>
    have h1 := ih (by omega) (fun j h hj => hb j h (by omega))
    rw [show i + (K + 1) = (i + K) + 1 by omega, List.take_succ_eq_append_getElem (by omega), List.any_append, h1]
    simp [end_big (hb K (by omega) (by omega))]
theorem any_next (l : List UInt8) (i : Nat) (hi : i < l.length) (ha : (l.take i).any isEnd = false) (hc : isEnd l[i] = false) : (l.take (i + 1)).any isEnd = false := by
  rw [List.take_succ_eq_append_getElem hi, List.any_append, ha]
  simp [hc]
theorem any_hit (l : List UInt8) (i : Nat) (hi : i < l.length) (hc : isEnd l[i] = true) : l.any isEnd = true := List.any_eq_true.2 ⟨l[i], List.getElem_mem hi, hc⟩
theorem from_at (b off n cap i : Nat) (hi : i < n) (hc : n ≤ cap) (w : World) : Sem.run Tryd.prog (Instr.slice 22 (.slice (some ⟨b, off, none⟩) n cap) (some (.int .i64 i)) none none) w = .ok (.slice (some ⟨b, off + i, none⟩) (n - i) (cap - i)) w := by
  have he : Tryd.prog.elem 22 = 5 := by kernel_rfl
  have h := run_slice_l (P := Tryd.prog) w 22 (some ⟨b, off, none⟩) n cap (by rw [he]; exact Tryd.underlying22) .i64 i (by omega) (by omega)
  rw [he, Tryd.sizeOf5] at h
  simp only [Result.andThen, Int.toNat_natCast, sliced] at h
  rw [h]
  have : ¬ cap = i := by omega
  simp [Addr.add, this]
theorem iter_below (w : World) (s : ByteArray) (pos : Nat) : Below w.heap.size w (w.iter s pos) := (Below.refl _ _).alloc (Nat.le_refl _) _
theorem next0 (w : World) (ty : TypeId) : (Instr.next (.pointer (some ⟨w.heap.size, 0, none⟩)) true ty).run Tryd.prog (w.iter ⟨#[13, 10]⟩ 0) = .ok (.tuple #[.bool true, .int .i64 0, .int .i32 13]) (w.iter ⟨#[13, 10]⟩ 1) := run_next_ascii w ⟨#[13, 10]⟩ 0 ty (by decide) (by decide)
theorem next1 (w : World) (ty : TypeId) : (Instr.next (.pointer (some ⟨w.heap.size, 0, none⟩)) true ty).run Tryd.prog (w.iter ⟨#[13, 10]⟩ 1) = .ok (.tuple #[.bool true, .int .i64 1, .int .i32 10]) (w.iter ⟨#[13, 10]⟩ 2) := run_next_ascii w ⟨#[13, 10]⟩ 1 ty (by decide) (by decide)
theorem next2 (w : World) (ty : TypeId) : (Instr.next (.pointer (some ⟨w.heap.size, 0, none⟩)) true ty).run Tryd.prog (w.iter ⟨#[13, 10]⟩ 2) = .ok (.tuple #[.bool false]) (w.iter ⟨#[13, 10]⟩ 2) := run_next_end w ⟨#[13, 10]⟩ 2 ty (by decide)
set_option maxRecDepth 20000 in
set_option maxHeartbeats 1000000 in
theorem idxB8 (line : List UInt8) (ao : Option Addr) (cap : Nat) (W : World) (h : HoldsB W (.slice ao line.length cap) line) (M : MaxV W) (T : TabsV W) (h2 : 2 ≤ line.length) (h8 : line.length ≤ 8) :
    Calls Tryd.prog 53 #[.slice ao line.length cap, .string ⟨#[13, 10]⟩] W fun e w' => ∃ r : Int, e = .returned (.int .i64 r) ∧ Hid (decide (0 ≤ r) = line.any isEnd) ∧ Below W.heap.size W w' := by
  obtain ⟨ao', cap', e, h0, hcp, hc⟩ := h
  simp only [Value.slice.injEq] at e
  obtain ⟨rfl, _, rfl⟩ := e
  obtain ⟨b, off, rfl, hblt, hcell⟩ := hc (fun e => by rw [e] at h2; simp at h2)
  have C := hide' hcell
  have MV := hide' M
  have TV := hide' T
  clear hc hcell M T h0
  obtain ⟨n, en⟩ : ∃ n, n = line.length := ⟨_, rfl⟩
  have N : Hid (line.length = n) := en.symm
  rw [N.out] at h2 h8 hcp ⊢
  clear en
  have h8' : decide ((8 : Int) < (n : Int)) = false := decide_eq_false (by omega)
  have n1 : ((n : Int) == 1) = false := by simp; omega
  go_enter Tryd.func53, Tryd.ntmps53
  go_wp2_with (go_at_call 66; refine (shouldB _ _).mono ?_; rintro e w' ⟨rfl, hw⟩; rw [hw]; clear hw)
  clear h8' n1
  go_loopw [12] (fun iv wr => ∃ i : Nat, i ≤ n ∧ iv = .int .i64 i ∧ Hid ((line.take i).any isEnd = false) ∧ Hid (Below W.heap.size W wr)) (fun iv _ => n - (intOf iv).toNat)
  case atStart => exact ⟨0, Nat.zero_le _, rfl, by unfold Hid; simp, Below.refl _ _⟩
  case round =>
    obtain ⟨i, hi, rfl, HA, HB⟩ := hrel
    by_cases hlt : i < n
    · have G : Hid (i < line.length) := by unfold Hid; rw [N.out]; exact hlt
      have ck : wr.cell? ⟨b, off + i, none⟩ = some (.int .u8 ((line[i]'G.out).toNat : Int)) := by
        rw [HB.out.cell (p := ⟨b, off + i, none⟩) hblt]; exact C.out i G.out
      have hbt := byte_lt (line[i]'G.out)
      by_cases ha : (line[i]'G.out).toNat < 128
      · obtain ⟨r, hr, hr1, hr2⟩ := ibs (line[i]'G.out) wr
        have hai : ((line[i]'G.out).toNat : Int) < 128 := by omega
        cases he : isEnd (line[i]'G.out) with
        | true =>
          have A2 := hide' (any_hit line i G.out he)
          have hr0 := hr1 he
          clear hr1 hr2 he ha
          generalize (line[i]'G.out).toNat = cn at ck hr hai hbt
          go_wp2_with fail
          go_ret
          exact ⟨_, rfl, by unfold Hid; rw [A2.out]; simp, HB.out⟩
        | false =>
          have A2 := hide' (any_next line i G.out HA.out he)
          have hr0 := hr2 he
          clear hr1 hr2 he ha
          generalize (line[i]'G.out).toNat = cn at ck hr hai hbt
          go_wp2_with fail
          go_roundw
          case rel => exact ⟨i + 1, by omega, by go_num, A2, HB⟩
          case measure => simp [intOf]; omega
      · have hd0 : 0 < (line.drop i).length := by rw [List.length_drop]; have := G.out; omega
        have hge : 128 ≤ ((line.drop i)[0]'hd0).toNat := by simp; omega
        obtain ⟨R, K, hdec, hK1, hKn, hK4, hR1, hR2, hbig, hkind⟩ := dec_spec (line.drop i) hd0 hge
        have hKn' : i + K ≤ n := by rw [List.length_drop, N.out] at hKn; omega
        have A2 := hide' (any_more line i K (by rw [N.out]; exact hKn') HA.out (fun j hj hjk => by
          have := hbig j (by rw [List.length_drop]; omega) hjk
          simpa using this))
        have cD := Any7.utf8_DecodeRune Tryd.lays7_32 ⟨(line.drop i).toArray⟩ b (off + i) (cap - i) wr (tabsV_below TV.out HB.out) (fun j hj => by
          rw [size_l, List.length_drop] at hj
          have := C.out (i + j) (by omega)
          rw [Nat.add_assoc, HB.out.cell (p := ⟨b, off + (i + j), none⟩) hblt, this]
          have e1 : ((⟨(line.drop i).toArray⟩ : ByteArray).get! j) = line[i + j]'(by omega) := by
            show ((line.drop i).toArray)[j]! = _
            rw [getElem!_pos _ j (by simp; omega)]
            simp
          rw [e1]; rfl)
        rw [hdec, size_l, List.length_drop, N.out] at cD
        have CD := hide' cD
        have hsl := from_at b off n cap i hlt hcp wr
        have hai : ((128 : Int) ≤ ((line[i]'G.out).toNat : Int)) := by omega
        clear hdec hbig cD ha hge hd0 hKn
        generalize (line[i]'G.out).toNat = cn at ck hai hbt
        obtain ⟨m, hm⟩ := maxV_below MV.out HB.out
        go_wp2_with fail
        refine CD.out.mono ?_
        rintro e w2 ⟨rfl, b2⟩
        have B2 := hide' (bt' HB.out b2)
        have hm2 : w2.cell? ⟨0, 0, none⟩ = some (.int .i64 m) := by rw [b2.cell (p := ⟨0, 0, none⟩) (cell_lt hm)]; exact hm
        clear b2 CD hsl ck hm
        have hn0 := next0 w2
        have hn1 := next1 w2
        have hn2 := next2 w2
        rcases hkind with rfl | ⟨hv, hK2, hES⟩
        · clear hR1 hR2 hm2
          go_wp2_with fail
          go_rounds 3
          go_roundw
          case rel => exact ⟨i + K, by omega, by go_num, A2, bt' B2.out (iter_below w2 _ _)⟩
          case measure => simp [intOf]; omega
        · obtain ⟨f1, f2, f3⟩ := encode_facts R hv (by omega)
          have fne := enc_ne' _ f1 f3
          obtain ⟨E, hE⟩ : ∃ E, Utf8.encode (R : Int) = E := ⟨_, rfl⟩
          rw [hE] at f1 f2 fne hES
          clear f3 hv
          have r13 : ((R : Int) == 13) = false := by simp; omega
          have r10 : ((R : Int) == 10) = false := by simp; omega
          by_cases hRe : R = 65533
          · subst hRe
            clear hE r13 r10
            go_wp2_with fail
            go_rounds 3
            go_roundw
            case rel => exact ⟨i + K, by omega, by go_num, A2, bt' B2.out (iter_below w2 _ _)⟩
            case measure => simp [intOf]; omega
          · have hRn : ((R : Int) != 65533) = true := by simp; omega
            by_cases hk2 : K = 2
            · have k2 : ((2 : Int) == (K : Int)) = true := by simp; omega
              have e1 : ((⟨#[13, 10]⟩ : ByteArray).toList == E.toList) = false := by
                rw [Lib.toList_data, Lib.toList_data]; simp; exact fun e => fne e.symm
              have e2 : (([13, 10] : List UInt8) == E.toList) = false := by
                rw [Lib.toList_data]; simp; exact fun e => fne e.symm
              clear hk2 hRe
              go_wp2_with fail
              go_roundw
              case rel => exact ⟨i + K, by omega, by go_num, A2, B2⟩
              case measure => simp [intOf]; omega
            · have k2 : ((2 : Int) == (K : Int)) = false := by simp; omega
              clear hk2 hRe
              by_cases hmk : (K : Int) ≤ m
              · have hi1 := iss E w2 m hm2 f1 fne (by omega)
                go_wp2_with fail
                go_roundw
                case rel => exact ⟨i + K, by omega, by go_num, A2, B2⟩
                case measure => simp [intOf]; omega
              · have hm3 : m < (K : Int) := by omega
                have hm4 : decide ((K : Int) ≤ m) = false := decide_eq_false hmk
                clear hmk hE f1 f2 fne hES
                go_wp2_with fail
                go_rounds 3
                go_roundw
                case rel => exact ⟨i + K, by omega, by go_num, A2, bt' B2.out (iter_below w2 _ _)⟩
                case measure => simp [intOf]; omega
    · have E : Hid (line.take i = line) := List.take_of_length_le (by rw [N.out]; omega)
      rw [E.out] at HA
      go_wp2_with fail
      go_ret
      exact ⟨_, rfl, by unfold Hid; rw [HA.out]; simp, HB.out⟩
end Go.Proofs.YtbbaajlabpjnlaaDoor
