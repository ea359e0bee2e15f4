/- The contracts of isVersion and leadingEnds. -/
import Derived.Test.YtbbaajlabpjnlaaDoorHdD
namespace Go.Proofs.YtbbaajlabpjnlaaDoor
open Go.RowKit
theorem three_of (l : List UInt8) (h : l.length = 3) : ∃ a b c, l = [a, b, c] := by
  match l, h with
  | [a, b, c], _ => exact ⟨a, b, c, rfl⟩
theorem pre5 (l : List UInt8) (h : P5.isPrefixOf l = true) : l = P5 ++ l.drop 5 := by
  rw [List.isPrefixOf_iff_prefix] at h
  obtain ⟨t, rfl⟩ := h
  rfl
theorem isVer_three (l : List UInt8) (h : P5.isPrefixOf l = true) (a b c : UInt8) (e : l.drop 5 = [a, b, c]) : isVer l = (digI (a.toNat : Int) && (decide ((b.toNat : Int) = 46) && digI (c.toNat : Int))) := by
  have hl := pre5 l h
  rw [e] at hl
  subst hl
  have hb : decide (b = 46) = decide ((b.toNat : Int) = 46) := by
    by_cases h : b = 46
    · subst h; rfl
    · rw [decide_eq_false h, decide_eq_false]
      intro h2
      exact h (UInt8.toNat_inj.1 (by show b.toNat = 46; omega))
  show (true && (true && (dig a && (decide (b = 46) && dig c)))) = _
  rw [hb]; rfl
theorem isVer_long (l : List UInt8) (h : P5.isPrefixOf l = true) (e : ¬ (l.drop 5).length = 3) : isVer l = false := by
  have hl := congrArg List.length (pre5 l h)
  rw [List.length_append, show P5.length = 5 from rfl] at hl
  unfold isVer
  rw [decide_eq_false (by omega : ¬ l.length = 8)]
  simp
theorem isVer_not (l : List UInt8) (h : P5.isPrefixOf l = false) : isVer l = false := by unfold isVer; rw [h]; rfl
set_option maxRecDepth 20000 in
set_option maxHeartbeats 1000000 in
theorem isVersionTok (s : ByteArray) (w : World) :
    Calls Tryd.prog 34 #[.string s] w fun e w' => e = .returned (.bool (isVer s.data.toList)) ∧ w' = w := by
  have c := Any.strings_CutPrefix Tryd.lays103 s ⟨#[72, 84, 84, 80, 47]⟩ w
  rw [show (⟨#[72, 84, 84, 80, 47]⟩ : ByteArray).data.toList = P5 from rfl] at c
  unfold Lib.trimPrefix Lib.hasPrefix at c
  cases hp : P5.isPrefixOf s.data.toList with
  | false =>
    have R := hide' (isVer_not _ hp)
    rw [R.out]
    rw [hp, if_neg (by simp)] at c
    have C := hide' c
    clear c hp R
    go_enter Tryd.func34, Tryd.ntmps34
    go_wp2_with fail
    refine C.out.mono ?_
    rintro e w1 ⟨rfl, rfl⟩
    go_wp2_with fail
    go_ret
    exact ⟨rfl, rfl⟩
  | true =>
    rw [hp, if_pos rfl, show P5.length = 5 from rfl] at c
    have hdl : (s.data.toList.drop 5).length ≤ s.size := by rw [List.length_drop]; simp
    by_cases h3 : (s.data.toList.drop 5).length = 3
    · obtain ⟨x, y, z, e⟩ := three_of _ h3
      have R := hide' (isVer_three _ hp x y z e)
      rw [R.out]
      rw [e] at c
      have C := hide' c
      clear c hp R h3 e hdl
      have b0 := byte_lt x
      have b1 := byte_lt y
      have b2 := byte_lt z
      cases d0 : digI (x.toNat : Int) with
      | false =>
        have d0' : digI (((⟨#[x, y, z]⟩ : ByteArray)[0]'(by show 0 < 3; decide)).toNat : Int) = false := d0
        go_enter Tryd.func34, Tryd.ntmps34
        go_wp2_with fail
        refine C.out.mono ?_
        rintro e w1 ⟨rfl, rfl⟩
        go_wp2_with (go_at_call 52; refine (digTok _ (byte_lt _).1 (byte_lt _).2 _).mono ?_; rintro e w' ⟨rfl, rfl⟩)
        go_ret
        exact ⟨rfl, rfl⟩
      | true =>
        by_cases hy : (y.toNat : Int) = 46
        · rw [decide_eq_true hy, Bool.true_and, Bool.true_and]
          have hy2 : y = 46 := UInt8.toNat_inj.1 (by show y.toNat = 46; omega)
          subst hy2
          clear hy
          have d0' : digI (((⟨#[x, 46, z]⟩ : ByteArray)[0]'(by show 0 < 3; decide)).toNat : Int) = true := d0
          cases d2 : digI (z.toNat : Int) with
          | true =>
            have d2' : digI (((⟨#[x, 46, z]⟩ : ByteArray)[2]'(by show 2 < 3; decide)).toNat : Int) = true := d2
            go_enter Tryd.func34, Tryd.ntmps34
            go_wp2_with fail
            refine C.out.mono ?_
            rintro e w1 ⟨rfl, rfl⟩
            go_wp2_with (go_at_call 52; refine (digTok _ (byte_lt _).1 (byte_lt _).2 _).mono ?_; rintro e w' ⟨rfl, rfl⟩)
            go_ret
            exact ⟨rfl, rfl⟩
          | false =>
            have d2' : digI (((⟨#[x, 46, z]⟩ : ByteArray)[2]'(by show 2 < 3; decide)).toNat : Int) = false := d2
            go_enter Tryd.func34, Tryd.ntmps34
            go_wp2_with fail
            refine C.out.mono ?_
            rintro e w1 ⟨rfl, rfl⟩
            go_wp2_with (go_at_call 52; refine (digTok _ (byte_lt _).1 (byte_lt _).2 _).mono ?_; rintro e w' ⟨rfl, rfl⟩)
            go_ret
            exact ⟨rfl, rfl⟩
        · rw [decide_eq_false hy, Bool.false_and, Bool.and_false]
          have hy2 : ((y.toNat : Int) == 46) = false := by simpa using hy
          have hy3 : (y.toNat == 46) = false := by simp; omega
          have d0' : digI (((⟨#[x, y, z]⟩ : ByteArray)[0]'(by show 0 < 3; decide)).toNat : Int) = true := d0
          have y1 : (((((⟨#[x, y, z]⟩ : ByteArray)[1]'(by show 1 < 3; decide)).toNat : Int)) == 46) = false := hy2
          have y2 : ((((⟨#[x, y, z]⟩ : ByteArray)[1]'(by show 1 < 3; decide)).toNat) == 46) = false := hy3
          clear hy
          go_enter Tryd.func34, Tryd.ntmps34
          go_wp2_with fail
          refine C.out.mono ?_
          rintro e w1 ⟨rfl, rfl⟩
          go_wp2_with (go_at_call 52; refine (digTok _ (byte_lt _).1 (byte_lt _).2 _).mono ?_; rintro e w' ⟨rfl, rfl⟩)
          go_ret
          exact ⟨rfl, rfl⟩
    · have R := hide' (isVer_long _ hp h3)
      rw [R.out]
      generalize s.data.toList.drop 5 = t at c h3 hdl
      have hz : ((((⟨t.toArray⟩ : ByteArray).size : Nat) : Int) == 3) = false := by rw [size_l]; simp; omega
      have hz2 : (((t.length : Nat) : Int) == 3) = false := by simp; omega
      have C := hide' c
      clear c hp R h3
      go_enter Tryd.func34, Tryd.ntmps34
      go_wp2_with fail
      refine C.out.mono ?_
      rintro e w1 ⟨rfl, rfl⟩
      go_wp2_with fail
      go_ret
      exact ⟨rfl, rfl⟩
theorem from_run (ao : Option Addr) (n cap i : Nat) (hi : i ≤ n) (_hc : n ≤ cap) (w : World) : Sem.run Tryd.prog (Instr.slice 22 (.slice ao n cap) (some (.int .i64 i)) none none) w = .ok (Lib.fromV ao n cap i) w := by
  have he : Tryd.prog.elem 22 = 5 := by kernel_rfl
  have h := run_slice_l (P := Tryd.prog) w 22 ao n cap (by rw [he]; exact Tryd.underlying22) .i64 i (by omega) (by omega)
  rw [he, Tryd.sizeOf5] at h
  simp only [Result.andThen, Int.toNat_natCast, sliced] at h
  rw [h]
  unfold Lib.fromV
  by_cases hz : cap = i
  · simp [hz]
  · simp [hz]
theorem two_in (W : World) : Lib.BytesIn (W.alloc (.cells #[.int .u8 13, .int .u8 10] 5 (2, 3))) (some ⟨W.heap.size, 0, none⟩) 2 [13, 10] := fun _ => ⟨W.heap.size, 0, rfl, fun i hi => by
    match i, hi with
    | 0, _ => simp [World.cell?_alloc_mark]
    | 1, _ => simp [World.cell?_alloc_mark]⟩
theorem hasPair (ao : Option Addr) (cap : Nat) (bs : List UInt8) (W : World) (hv : HoldsB W (.slice ao bs.length cap) bs) :
    Calls Tryd.prog 30 #[.slice ao bs.length cap, .slice (some ⟨W.heap.size, 0, none⟩) 2 2] (W.alloc (.cells #[.int .u8 13, .int .u8 10] 5 (2, 3))) fun e w' => e = .returned (.bool (pairB bs)) ∧ Below W.heap.size W w' := by
  have bA := below_alloc' W (.cells #[.int .u8 13, .int .u8 10] 5 (2, 3))
  have h1 := in_of_holdsB (holdsB_mono hv bA)
  obtain ⟨ao', cap', e, h0, hcp, _⟩ := hv
  simp only [Value.slice.injEq] at e
  obtain ⟨rfl, _, rfl⟩ := e
  refine (Any.bytes_HasPrefix_all Tryd.blays116 ao (some ⟨W.heap.size, 0, none⟩) bs.length cap 2 2 (bs.map fun b => (b.toNat : Int)) [13, 10] _ (by simp) rfl hcp h1 (two_in W)).mono ?_
  rintro e w' ⟨rfl, rfl⟩
  rw [bytesOf_map', show Lib.bytesOf [13, 10] = [13, 10] from rfl]
  exact ⟨rfl, bA⟩
set_option maxRecDepth 20000 in
set_option maxHeartbeats 1000000 in
theorem leadTok (v : Value) (bs : List UInt8) (w : World) (hv : HoldsB w v bs) (hs : bs.length < 4294967281) :
    Calls Tryd.prog 14 #[v] w fun e w' => e = .returned (.int .i64 ((leadOf bs : Nat) : Int)) ∧ Below w.heap.size w w' := by
  have HV := hide' hv
  obtain ⟨ao, cap, rfl, h0, hcp, _⟩ := hv
  obtain ⟨n, hn⟩ : ∃ n, n = bs.length := ⟨_, rfl⟩
  have HN := hide' hn
  rw [← hn] at hcp hs ⊢
  obtain ⟨r, hr⟩ : ∃ r, r = leadOf bs := ⟨_, rfl⟩
  have HR := hide' hr
  rw [← hr]
  clear hr hn
  go_enter Tryd.func14, Tryd.ntmps14
  go_wp2_with fail
  go_loopw [3] (fun i wr => ∃ k : Nat, k ≤ n ∧ i = .int .i64 k ∧ Hid (r = k + leadOf (bs.drop k)) ∧ Hid (Below w.heap.size w wr)) (fun i _ => n - (intOf i).toNat)
  case atStart => exact ⟨0, by omega, rfl, by unfold Hid; rw [HR.out]; simp, Below.refl _ _⟩
  case round =>
    obtain ⟨k, hk, rfl, HK, HB⟩ := hrel
    have sl := fun W => from_run ao n cap k hk hcp W
    have HS := holdsB_suf (holdsB_mono HV.out HB.out) k (by rw [← HN.out]; exact hk)
    rw [← HN.out] at HS
    obtain ⟨a2, c2, e2, _⟩ := HS
    rw [e2] at sl
    have HS' := holdsB_suf (holdsB_mono HV.out HB.out) k (by rw [← HN.out]; exact hk)
    rw [← HN.out, e2] at HS'
    have cP := hide' (hasPair a2 c2 (bs.drop k) wr HS')
    have kc := mark2 wr
    have hdl : (bs.drop k).length = n - k := by rw [List.length_drop, HN.out]
    rw [hdl] at sl cP
    clear e2 HS' 
    cases hp : pairB (bs.drop k) with
    | true =>
      have L := lead_yes _ hp
      obtain ⟨t, ht⟩ := (pair_iff _).1 hp
      have hlt : k + 2 ≤ n := by
        have := congrArg List.length ht
        rw [hdl] at this
        simp at this
        omega
      have HK2 : Hid (r = (k + 2) + leadOf (bs.drop (k + 2))) := by
        unfold Hid; rw [HK.out, L, List.drop_drop]; omega
      rw [hp] at cP
      clear ht L hp hdl
      go_wp2_with fail
      refine cP.out.mono ?_
      clear kc
      rintro e w1 ⟨rfl, b1⟩
      have B1 := hide' (bt' HB.out b1)
      clear b1
      go_wp2_with fail
      go_roundw
      case rel => exact ⟨k + 2, hlt, by go_num, HK2, B1⟩
      case measure => simp [intOf]; omega
    | false =>
      have L := lead_no _ hp
      have HK2 : Hid (r = k) := by unfold Hid; rw [HK.out, L]; rfl
      rw [hp] at cP
      clear L hp hdl
      go_wp2_with fail
      refine cP.out.mono ?_
      clear kc
      rintro e w1 ⟨rfl, b1⟩
      have B1 := hide' (bt' HB.out b1)
      clear b1
      go_wp2_with fail
      go_ret
      rw [HK2.out]
      exact ⟨rfl, B1.out⟩
end Go.Proofs.YtbbaajlabpjnlaaDoor
