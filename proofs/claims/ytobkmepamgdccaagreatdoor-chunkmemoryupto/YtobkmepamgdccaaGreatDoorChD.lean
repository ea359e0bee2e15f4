/- The contracts of the document's hexed and Encode. -/
import Derived.Test.YtobkmepamgdccaaGreatDoorChZ
import Derived.Test.YtobkmepamgdccaaGreatDoorFdPs
import Derived.Test.YtobkmepamgdccaaGreatDoorOwnM
namespace Go.Proofs.YtobkmepamgdccaaGreatDoor
open Go.RowKit
theorem dg16 (a : Fin 16) : ((⟨#[48, 49, 50, 51, 52, 53, 54, 55, 56, 57, 97, 98, 99, 100, 101, 102]⟩ : ByteArray).extract a.val (a.val + 1)).data.toList = [hexB a.val] := by
  revert a; decide +kernel
theorem cut_mid7 (s : ByteArray) (a b : Nat) (x y : Int) (hx : x = a) (hy : y = b) (h1 : a ≤ b) (h2 : b ≤ s.size) (w : World) :
    Sem.run Tryz.prog (Instr.slice 9 (.string s) (some (.int .i64 x)) (some (.int .i64 y)) none) w = .ok (.string (s.extract a b)) w := by
  subst hx hy
  rw [run_slice_string_if w 9 s .i64 .i64 a b Tryz.underlying9]
  simp [h1, h2]
theorem hex_cut (a : Nat) (x y : Int) (hx : x = a) (hy : y = ((a + 1 : Nat) : Int)) (h : a < 16) (w : World) :
    Sem.run Tryz.prog (Instr.slice 9 (.string ⟨#[48, 49, 50, 51, 52, 53, 54, 55, 56, 57, 97, 98, 99, 100, 101, 102]⟩) (some (.int .i64 x)) (some (.int .i64 y)) none) w = .ok (.string ((⟨#[48, 49, 50, 51, 52, 53, 54, 55, 56, 57, 97, 98, 99, 100, 101, 102]⟩ : ByteArray).extract a (a + 1))) w :=
  cut_mid7 _ a (a + 1) x y hx hy (by omega) (by show a + 1 ≤ 16; omega) w
theorem hex_more {f k : Nat} (hk : 0 < k) (hf : k < 16 ^ f) : ∃ f', f = f' + 1 ∧ k / 16 < 16 ^ f' ∧ hexL f k = hexL f' (k / 16) ++ [hexB (k % 16)] := by
  cases f with
  | zero => simp at hf; omega
  | succ f =>
    refine ⟨f, rfl, ?_, ?_⟩
    · rw [Nat.pow_succ] at hf; omega
    · rw [hexL, if_neg (by omega)]
set_option maxRecDepth 20000 in
set_option maxHeartbeats 2000000 in
theorem hexedRef (v : Nat) (hv : v ≤ 65536) (w : World) :
    Calls Tryz.prog 27 #[.int .i64 (v : Int)] w fun e w' => e = .returned (.string ⟨(hexOf v).toArray⟩) ∧ w' = w := by
  obtain ⟨D, hD⟩ : ∃ D, D = hexOf v := ⟨_, rfl⟩
  have HD := hide' hD
  rw [← hD]
  have f8 : v < 16 ^ 8 := Nat.lt_of_le_of_lt hv (by decide)
  have F8 := hide' f8
  clear hD f8
  go_enter Tryz.func27, Tryz.ntmps27
  go_wp2_with fail
  go_loop [0, 4] (fun vv ov => ∃ (k f : Nat) (t : ByteArray), vv = .int .i64 (k : Int) ∧ ov = .string t ∧ k ≤ 65536 ∧ t.size + f = 8 ∧ Hid (k < 16 ^ f ∧ D = hexL f k ++ t.data.toList)) (fun vv _ => (intOf vv).toNat)
  case atStart => exact ⟨v, 8, ⟨#[]⟩, rfl, rfl, hv, rfl, ⟨F8.out, by rw [HD.out]; simp [hexOf]⟩⟩
  case round =>
    obtain ⟨k, f, t, rfl, rfl, hk, htf, HE⟩ := hrel
    obtain ⟨ef, eD⟩ := HE.out
    by_cases h0 : k = 0
    · have RE : Hid ((⟨D.toArray⟩ : ByteArray) = t) := by
        unfold Hid
        rw [eD, h0, hexL_zero, List.nil_append]
      have h0' : (k : Int) = 0 := by omega
      have t0 : decide ((0 : Int) < (k : Int)) = false := decide_eq_false (by omega)
      clear ef eD HE
      go_wp2_with fail
      go_ret
      rw [RE.out]
      exact ⟨rfl, rfl⟩
    · have h0' : (0 : Int) < (k : Int) := by omega
      obtain ⟨f', rfl, hf2, hx⟩ := hex_more (by omega) ef
      have sl := fun W => hex_cut (k % 16) ((k : Int) % 16) ((k : Int) % 16 + 1) (by omega) (by omega) (Nat.mod_lt _ (by decide)) W
      have d16 := dg16 ⟨k % 16, Nat.mod_lt _ (by decide)⟩
      simp only at d16
      have HE2 : Hid (k / 16 < 16 ^ f' ∧ D = hexL f' (k / 16) ++ ((⟨#[48, 49, 50, 51, 52, 53, 54, 55, 56, 57, 97, 98, 99, 100, 101, 102]⟩ : ByteArray).extract (k % 16) (k % 16 + 1) ++ t).data.toList) := by
        refine ⟨hf2, ?_⟩
        rw [eD, hx, ByteArray.data_append, Array.toList_append, d16]
        simp
      have es : ((⟨#[48, 49, 50, 51, 52, 53, 54, 55, 56, 57, 97, 98, 99, 100, 101, 102]⟩ : ByteArray).extract (k % 16) (k % 16 + 1)).size = 1 := by
        have h9 := congrArg List.length d16
        rw [Array.length_toList, List.length_singleton] at h9
        exact h9
      generalize (⟨#[48, 49, 50, 51, 52, 53, 54, 55, 56, 57, 97, 98, 99, 100, 101, 102]⟩ : ByteArray).extract (k % 16) (k % 16 + 1) = x at sl HE2 es d16
      have ez : (x ++ t).size = 1 + t.size := by rw [ByteArray.size_append, es]
      have r0 : 0 ≤ (k : Int) % 16 := by omega
      have r1 : (k : Int) % 16 ≤ 15 := by omega
      have EZ := hide' ez
      clear ef eD HE hx hf2 d16 h0 ez
      go_wp2_with fail
      go_round
      case rel => exact ⟨k / 16, f', x ++ t, by go_num, rfl, by omega, by rw [EZ.out]; omega, HE2⟩
      case measure => simp [intOf]; omega
theorem lit2 (W : World) (x y : UInt8) : HoldsB (W.alloc (.cells #[.int .u8 (x.toNat : Int), .int .u8 (y.toNat : Int)] 5)) (.slice (some ⟨W.heap.size, 0, none⟩) 2 2) [x, y] :=
  ⟨_, 2, rfl, (fun e => by cases e), Nat.le_refl _, fun _ => ⟨W.heap.size, 0, rfl, by simp, fun j hj => by
    match j, hj with
    | 0, _ => simp [B]
    | 1, _ => simp [B]⟩⟩
theorem lit3m (W : World) : HoldsB (W.alloc (.cells #[.int .u8 48, .int .u8 13, .int .u8 10] 5 (3, 4))) (.slice (some ⟨W.heap.size, 0, none⟩) 3 3) [48, 13, 10] :=
  ⟨_, 3, rfl, (fun e => by cases e), Nat.le_refl _, fun _ => ⟨W.heap.size, 0, rfl, by simp, fun j hj => by
    match j, hj with
    | 0, _ => simp [World.cell?_alloc_mark, B]
    | 1, _ => simp [World.cell?_alloc_mark, B]
    | 2, _ => simp [World.cell?_alloc_mark, B]⟩⟩
theorem mark3 (W : World) : Sem.run Tryz.prog (convert 22 22 (.slice (some ⟨W.heap.size, 0, none⟩) 3 3)) (W.alloc (.cells #[.int .u8 48, .int .u8 13, .int .u8 10] 5)) = .ok (.slice (some ⟨W.heap.size, 0, none⟩) 3 3) (W.alloc (.cells #[.int .u8 48, .int .u8 13, .int .u8 10] 5 (3, 4))) :=
  Lib.run_convert_bytes_const W 22 5 #[.int .u8 48, .int .u8 13, .int .u8 10] 3 3 Tryz.underlying22 Tryz.underlying5
theorem own_new {w0 w : World} {v : Value} {bs : List UInt8} (h : Own w0 v bs w) (r : Obj) : Own w0 v bs (w.alloc r) := ⟨h.1.alloc r, h.2.alloc h.2.size r⟩
set_option maxRecDepth 20000 in
set_option maxHeartbeats 8000000 in
theorem encRef (v tv : Value) (d : List UInt8) (s : Int) (fs : FL) (w : World) (hv : HoldsB w v d) (ht : HoldsF w tv fs) (hd : d.length ≤ 1000000000) (hfit : Fit fs) (hl : fs.length ≤ 140737488351232) (hP : (printOf fs).length ≤ 8000000) :
    Calls Tryz.prog 17 #[v, .int .i64 s, tv] w fun e w' => ∃ u, e = .returned (.tuple #[u, .int .i64 (encOf d s fs).2]) ∧ Own w u (encOf d s fs).1 w' := by
  have HV := hide' hv
  obtain ⟨ao, cap, rfl, h0, hcp, _⟩ := hv
  obtain ⟨n, hn⟩ : ∃ n, n = d.length := ⟨_, rfl⟩
  have NN : Hid (d.length = n) := hn.symm
  rw [← hn] at hd hcp HV ⊢
  have CP := hide' (printRef tv fs w ht hfit hl hP)
  have lp1 : (printP fs).1.length ≤ 8000000 := by
    unfold printP
    split
    · simp
    · split
      · simp
      · exact hP
  have htv : ∃ ta tc, tv = .slice ta fs.length tc := by
    obtain ⟨ta, tc, _, _, e, _⟩ := holdsF_parts ht
    exact ⟨ta, tc, e⟩
  obtain ⟨ta, tc, rfl⟩ := htv
  obtain ⟨R, hR⟩ : ∃ R, R = encOf d s fs := ⟨_, rfl⟩
  have HR := hide' hR
  rw [← hR]
  clear hR hn ht hfit hP h0
  by_cases h1 : s < 1 ∨ 65536 < s
  · have RE := hide' (HR.out.trans (enc_bad1 d s fs h1))
    have key : s < 1 ∨ (¬ s < 1 ∧ 65536 < s) := by omega
    clear h1
    rcases key with k | ⟨k1, k2⟩
    · go_enter Tryz.func17, Tryz.ntmps17
      go_wp2_with fail
      go_ret2
      rw [RE.out]
      exact ⟨.slice none 0 0, rfl, own_nil _ _ (Below.refl _ _)⟩
    · have k1' : decide (s < 1) = false := decide_eq_false k1
      clear k1
      go_enter Tryz.func17, Tryz.ntmps17
      go_wp2_with fail
      go_ret2
      rw [RE.out]
      exact ⟨.slice none 0 0, rfl, own_nil _ _ (Below.refl _ _)⟩
  · have s1 : 1 ≤ s := by omega
    have s2 : s ≤ 65536 := by omega
    by_cases h2 : 65536 < n
    · have RE := hide' (HR.out.trans (enc_bad2 d s fs h1 (by rw [NN.out]; exact h2)))
      have h2' : (65536 : Int) < (n : Int) := by omega
      clear h1 h2
      go_enter Tryz.func17, Tryz.ntmps17
      go_wp2_with fail
      go_ret2
      rw [RE.out]
      exact ⟨.slice none 0 0, rfl, own_nil _ _ (Below.refl _ _)⟩
    · have h2' : (n : Int) ≤ 65536 := by omega
      have R3 := hide' (fun h => HR.out.trans (enc_bad3 d s fs h1 (by rw [NN.out]; exact h2) h))
      have R4 := hide' (fun h h4 => HR.out.trans (enc_bad4 d s fs h1 (by rw [NN.out]; exact h2) h h4))
      have R5 := hide' (fun h h4 => HR.out.trans (enc_good d s fs h1 (by rw [NN.out]; exact h2) h h4))
      generalize printP fs = PP at CP lp1 R3 R4 R5
      obtain ⟨pr, pe⟩ := PP
      simp only at CP lp1 R3 R4 R5
      clear h1 h2
      go_enter Tryz.func17, Tryz.ntmps17
      go_wp2_with fail
      refine CP.out.mono ?_
      rintro e w2 ⟨pv, rfl, ho⟩
      have B2 := hide' ho.2
      have HP2 := hide' (holdsB_own ho)
      have HV2 := hide' (holdsB_mono HV.out ho.2)
      obtain ⟨pa, pc, hpv⟩ := row_slice ho.1
      subst hpv
      clear ho CP
      by_cases g1 : pe = 0
      · subst g1
        by_cases g2 : 8192 < pr.length + 2
        · have RE := hide' (R4.out rfl g2)
          have t2 : decide ((8192 : Int) < (pr.length : Int) + 2) = true := decide_eq_true (by omega)
          have G2 := hide' g2
          clear R3 R4 R5 g2
          go_wp2_with fail
          go_ret2
          rw [RE.out]
          exact ⟨.slice none 0 0, rfl, own_nil _ _ B2.out⟩
        · have RE := hide' (R5.out rfl g2)
          have t2 : decide ((8192 : Int) < (pr.length : Int) + 2) = false := decide_eq_false (by omega)
          obtain ⟨S, hS⟩ : ∃ S : Nat, s = (S : Int) := ⟨s.toNat, by omega⟩
          subst hS
          have hS0 : 0 < S := by omega
          have hS1 : S ≤ 65536 := by omega
          have EL := enc_len (d.length + 1) d S hS0 (by rw [NN.out]; omega)
          have LF : Hid (Left (encC (d.length + 1) d S) [] (d.drop 0) S) := ⟨d.length + 1, by rw [List.drop_zero]; omega, by rw [List.drop_zero]; rfl⟩
          rw [Int.toNat_natCast] at RE
          have prl : pr.length ≤ 8192 := by omega
          generalize encC (d.length + 1) d S = EE at RE EL LF
          rw [NN.out] at EL
          have G2 := hide' g2
          clear R3 R4 R5 g2
          go_wp2_with fail
          go_loopw [10, 11] (fun cv iv wr => ∃ (k : Nat) (out : List UInt8), iv = .int .i64 (k : Int) ∧ k ≤ 131072 ∧ Hid (Own w2 cv out wr) ∧ Hid (Left EE out (d.drop k) S)) (fun _ iv _ => 131072 - (intOf iv).toNat)
          case atStart => exact ⟨0, [], rfl, by omega, own_empty w2, LF⟩
          case round =>
            obtain ⟨k, out, rfl, hk, OW, LQ⟩ := hrel
            have ll := left_len LQ.out
            obtain ⟨ca, cc, hcv⟩ := row_slice OW.out.1
            subst hcv
            have OL : Hid (out.length ≤ 851968) := by unfold Hid; omega
            clear ll
            by_cases hkn : k < n
            · have hkn' : (k : Int) < (n : Int) := by omega
              have DL : Hid ((d.drop k).length = n - k) := by unfold Hid; rw [List.length_drop, NN.out]
              obtain ⟨m, hm⟩ : ∃ m, m = min S (n - k) := ⟨_, rfl⟩
              have hm0 : 0 < m := by omega
              have hm1 : m ≤ 65536 := by omega
              have LN := hide' (left_next (n := m) LQ.out (by rw [DL.out]; omega) hS0 (by rw [DL.out]; exact hm))
              have LS : Hid (Left EE (out ++ hexOf ((d.drop k).take m).length ++ [13, 10] ++ (d.drop k).take m ++ [13, 10]) (d.drop (k + S)) S) := by
                have e := (take_min (d.drop k) S m (by rw [DL.out]; exact hm)).2
                have h5 := LN.out
                rw [← e, List.drop_drop] at h5
                exact h5
              have tl : ((d.drop k).take m).length = m := by rw [List.length_take, DL.out]; omega
              have TL := hide' tl
              have hx8 := (hexOf_facts m hm1).2.1
              have CX := hide' (hexedRef m hm1)
              obtain ⟨bb, off, hao, hblt⟩ : ∃ bb off, ao = some ⟨bb, off, none⟩ ∧ True := by
                obtain ⟨ao', cap', e, _, _, hc⟩ := HV2.out
                simp only [Value.slice.injEq] at e
                obtain ⟨rfl, _, rfl⟩ := e
                obtain ⟨bb, off, e, _⟩ := hc (fun e => by have := NN.out; rw [e] at this; simp at this; omega)
                exact ⟨bb, off, e, trivial⟩
              subst hao
              have hq : HoldsB w2 (.slice (some ⟨bb, off + k, none⟩) m (cap - k)) ((d.drop k).take m) := by
                have e2 : Lib.fromV (some ⟨bb, off, none⟩) n cap k = .slice (some ⟨bb, off + k, none⟩) (n - k) (cap - k) := by
                  unfold Lib.fromV
                  rw [if_neg (by omega)]
                  by_cases hk0 : k = 0
                  · subst hk0; simp [Addr.add]
                  · simp [Addr.add, hk0]
                have hv2 := HV2.out
                rw [← NN.out] at hv2
                have HS' := holdsB_suf (i := k) hv2 (by rw [NN.out]; omega)
                rw [NN.out, e2, ← DL.out] at HS'
                exact holdsB_pre HS' m (by rw [DL.out]; omega)
              have HQ := hide' hq
              have s4 := fun W (y : Int) (hy : y = ((k + m : Nat) : Int)) => cutp_at bb off n cap k y (k + m) hy (by omega) (by omega) (by omega) hcp W
              rw [show k + m - k = m by omega] at s4
              rw [tl] at LS
              generalize (d.drop k).take m = qs at LS HQ TL
              generalize hexOf m = hx at CX LS hx8
              have zh : (⟨hx.toArray⟩ : ByteArray).size ≤ 8 := by rw [size_l]; exact hx8
              have ed : ((⟨hx.toArray⟩ : ByteArray) ++ (⟨#[13, 10]⟩ : ByteArray)).data.toList = hx ++ [13, 10] := by simp [ByteArray.data_append]
              have key : (n < k + S ∧ m = n - k) ∨ (k + S ≤ n ∧ m = S) := by omega
              obtain ⟨xv, xw, hcv, hM⟩ := ownM_conv ((⟨hx.toArray⟩ : ByteArray) ++ (⟨#[13, 10]⟩ : ByteArray)) wr
              rw [ed] at hM
              have HX := hide' (ownM_holds hM)
              have bX : Below wr.heap.size wr xw := by obtain ⟨_, _, _, _, _, _, _, _, b⟩ := hM; exact b
              have OX := hide' (own_mono OW.out bX)
              obtain ⟨xa, xc, hxv⟩ : ∃ xa xc, xv = .slice xa (hx ++ [13, 10]).length xc := by obtain ⟨_, _, e, _⟩ := hM; exact ⟨_, _, e⟩
              rw [List.length_append] at hxv
              subst hxv
              have HL2 : Hid ((out ++ (hx ++ [13, 10])).length ≤ 851978) := by unfold Hid; rw [List.length_append, List.length_append]; have h5 := OL.out; simp; omega
              have HL3 : Hid ((out ++ (hx ++ [13, 10]) ++ qs).length ≤ 917514) := by unfold Hid; rw [List.length_append]; have h5 := HL2.out; have h6 := TL.out; omega
              have LT : Hid (Left EE (out ++ (hx ++ [13, 10]) ++ qs ++ [13, 10]) (d.drop (k + S)) S) := by
                have h5 := LS.out
                unfold Hid
                rw [← List.append_assoc out hx [13, 10]]
                exact h5
              have XL : Hid ((hx ++ [13, 10]).length ≤ 10) := by unfold Hid; rw [List.length_append, show ([13, 10] : List UInt8).length = 2 from rfl]; omega
              clear hM bX tl hq ed hx8 LN LQ LS hblt
              generalize (⟨hx.toArray⟩ : ByteArray) = ht at CX zh hcv
              have HM := hide' hm
              clear hm
              have hsum : (k : Int) + (S : Int) ≤ 196608 := by omega
              rcases key with ⟨q1, q2⟩ | ⟨q1, q2⟩
              · have q1' : (n : Int) < (k : Int) + (S : Int) := by omega
                have q2' : (n : Int) - (k : Int) = (m : Int) := by omega
                have s5 := fun W => s4 W (n : Int) (by omega)
                clear s4 q2
                go_wp2_with fail
                refine (CX.out _).mono ?_
                rintro e w9 ⟨rfl, ew⟩
                rw [ew]
                clear ew w9
                go_wp2_with (first
                  | (at_builtin; refine appAllB rfl (.tmp 51) (.tmp 57) rfl w2 _ out rfl OX.out _ (hx ++ [13, 10]) rfl HX.out (by have h5 := OL.out; have h6 := XL.out; omega) ?_; intro v3 w3 ho3; have O3 := hide' ho3; have HQ3 := hide' (holdsB_mono HQ.out ho3.2); clear ho3)
                  | (at_builtin; refine appAllB rfl (.tmp 59) (.tmp 63) rfl w2 _ (out ++ (hx ++ [13, 10])) rfl O3.out _ qs rfl HQ3.out (by have h5 := HL2.out; have h6 := TL.out; omega) ?_; intro v4 w4 ho4; have O4 := hide' (own_new ho4 (.cells #[.int .u8 13, .int .u8 10] 5)); have HN4 := hide' (lit2 w4 13 10); clear ho4)
                  | (at_builtin; refine appAllB rfl (.tmp 65) (.tmp 66) rfl w2 _ (out ++ (hx ++ [13, 10]) ++ qs) rfl O4.out _ [13, 10] rfl HN4.out (by have h5 := HL3.out; rw [show ([13, 10] : List UInt8).length = 2 from rfl]; omega) ?_; intro v5 w5 ho5; have O5 := hide' ho5; clear ho5))
                go_roundw
                case rel => exact ⟨k + S, _, by go_num, by omega, O5, LT⟩
                case measure => simp [intOf]; omega
              · have q1' : (k : Int) + (S : Int) ≤ (n : Int) := by omega
                have q2' : (k : Int) + (S : Int) - (k : Int) = (m : Int) := by omega
                have q3' : (S : Int) = (m : Int) := by omega
                have s5 := fun W => s4 W ((k : Int) + (S : Int)) (by omega)
                have s6 := fun W => s4 W ((k : Int) + (m : Int)) (by omega)
                clear s4
                subst q2
                clear q3' s6
                go_wp2_with fail
                refine (CX.out _).mono ?_
                rintro e w9 ⟨rfl, ew⟩
                rw [ew]
                clear ew w9
                go_wp2_with (first
                  | (at_builtin; refine appAllB rfl (.tmp 51) (.tmp 57) rfl w2 _ out rfl OX.out _ (hx ++ [13, 10]) rfl HX.out (by have h5 := OL.out; have h6 := XL.out; omega) ?_; intro v3 w3 ho3; have O3 := hide' ho3; have HQ3 := hide' (holdsB_mono HQ.out ho3.2); clear ho3)
                  | (at_builtin; refine appAllB rfl (.tmp 59) (.tmp 63) rfl w2 _ (out ++ (hx ++ [13, 10])) rfl O3.out _ qs rfl HQ3.out (by have h5 := HL2.out; have h6 := TL.out; omega) ?_; intro v4 w4 ho4; have O4 := hide' (own_new ho4 (.cells #[.int .u8 13, .int .u8 10] 5)); have HN4 := hide' (lit2 w4 13 10); clear ho4)
                  | (at_builtin; refine appAllB rfl (.tmp 65) (.tmp 66) rfl w2 _ (out ++ (hx ++ [13, 10]) ++ qs) rfl O4.out _ [13, 10] rfl HN4.out (by have h5 := HL3.out; rw [show ([13, 10] : List UInt8).length = 2 from rfl]; omega) ?_; intro v5 w5 ho5; have O5 := hide' ho5; clear ho5))
                go_roundw
                case rel => exact ⟨k + m, _, by go_num, by omega, O5, LT⟩
                case measure => simp [intOf]; omega
            · have e0 := left_done LQ.out (by rw [List.length_drop, NN.out]; omega)
              rw [e0, last_parts] at RE
              have hkn' : (n : Int) ≤ (k : Int) := by omega
              have kc := mark3 wr
              have O2 := hide' (own_new OW.out (.cells #[.int .u8 48, .int .u8 13, .int .u8 10] 5 (3, 4)))
              have H2 := hide' (lit3m wr)
              have L2 : Hid ((out ++ [48, 13, 10]).length ≤ 851971) := by unfold Hid; rw [List.length_append, show ([48, 13, 10] : List UInt8).length = 3 from rfl]; have h5 := OL.out; omega
              have L3 : Hid ((out ++ [48, 13, 10] ++ pr).length ≤ 8851971) := by unfold Hid; rw [List.length_append]; have h5 := L2.out; omega
              clear e0
              go_wp2_with (first
                | (at_builtin; refine appAllB rfl (.tmp 68) (.tmp 70) rfl w2 _ out rfl O2.out _ [48, 13, 10] rfl H2.out (by have h5 := OL.out; rw [show ([48, 13, 10] : List UInt8).length = 3 from rfl]; omega) ?_; intro v3 w3 ho3; have O3 := hide' ho3; have HP4 := hide' (holdsB_mono HP2.out ho3.2); clear ho3)
                | (at_builtin; refine appAllB rfl (.tmp 72) (.tmp 73) rfl w2 _ (out ++ [48, 13, 10]) rfl O3.out _ pr rfl HP4.out (by have h5 := L2.out; omega) ?_; intro v4 w4 ho4; have O4 := hide' (own_new ho4 (.cells #[.int .u8 13, .int .u8 10] 5)); have HN4 := hide' (lit2 w4 13 10); clear ho4)
                | (at_builtin; refine appAllB rfl (.tmp 75) (.tmp 76) rfl w2 _ (out ++ [48, 13, 10] ++ pr) rfl O4.out _ [13, 10] rfl HN4.out (by have h5 := L3.out; rw [show ([13, 10] : List UInt8).length = 2 from rfl]; omega) ?_; intro v5 w5 ho5))
              go_ret2
              rw [RE.out]
              exact ⟨v5, rfl, own_base ho5 B2.out⟩
      · have t1 : (pe != 0) = true := by simpa using g1
        have RE := hide' (R3.out g1)
        clear R3 R4 R5 g1
        go_wp2_with fail
        go_ret2
        rw [RE.out]
        exact ⟨.slice none 0 0, rfl, own_nil _ _ B2.out⟩
end Go.Proofs.YtobkmepamgdccaaGreatDoor
