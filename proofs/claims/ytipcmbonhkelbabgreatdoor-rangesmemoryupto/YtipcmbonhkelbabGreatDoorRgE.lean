/- The contract of the document's Apply where more spans are had. -/
import Derived.Test.YtipcmbonhkelbabGreatDoorXm
import Derived.Test.YtipcmbonhkelbabGreatDoorRgQ
import Derived.Test.YtipcmbonhkelbabGreatDoorXo
import Derived.Deep.RegionHeld3
import Derived.Deep.Cut
namespace Go.Proofs.YtipcmbonhkelbabGreatDoor
open Go.RowKit
set_option maxHeartbeats 8000000 in
set_option maxRecDepth 20000 in
theorem appRE (s k : Int) (zr : List UInt8) (av lv v : Value) (ask fs : FL) (body : List UInt8) (D : List UInt8 → Int) (w : World) (ha : HoldsF w av ask) (hv : HoldsF w lv fs) (hB : HoldsB w v body) (hb : bulkF ask + bulkF fs + body.length ≤ 1048576) (hD : DtQ (getJ fs lmN) (D (getJ fs lmN)))
    (ps : List (Int × Int)) (h2 : 2 ≤ ps.length) (h8 : ps.length ≤ 8) (hin : ∀ p ∈ ps, 0 ≤ p.1 ∧ p.1 ≤ p.2 ∧ p.2 < body.length) (h200 : s = 200) (hh : hasA ask raN = true) (hd : rgHeld D ask fs = true) (hp : rngP (getJ ask raN) body.length = (0, ps)) :
    Calls Tryz.prog 8 #[av, .agg #[.int .i64 s, .string ⟨zr.toArray⟩, .int .i64 k, lv], v] w fun e w' => ∃ u bv, e = .returned (.tuple #[.agg #[.int .i64 206, .string ⟨parR.toArray⟩, .int .i64 k, u], bv]) ∧ OwnF w u (withoutOf fs [clH, crH, ctN] ++ [(ctU, mulL ++ markOf body)]) w' ∧ HoldsB w' bv (manyB fs body ps) ∧ Below w.heap.size w w' := by
  have g0 := getJ_len ask raN
  have fl := bulkF_len fs
  have FT := hide' (show Fit fs from fun f hf => by have := bulkF_mem fs f hf; omega)
  have cC := hide' (fun W (h : Below w.heap.size w W) => copyRs s k zr fs lv W (holdsF_mono hv h) (by omega))
  have cG := fun W (h : Below w.heap.size w W) => getRef av ask raN W (holdsF_mono ha h) (by omega) (by decide)
  simp only [getJ_eq] at cG
  rw [show decide (0 < (valsOf ask raN).length) = hasA ask raN from rfl, hh] at cG
  replace cG := hide' cG
  have cP := fun W => parseRG ⟨(getJ ask raN).toArray⟩ (body.length : Int) W (by rw [size_l]; omega) (by omega) (by omega)
  rw [show (⟨(getJ ask raN).toArray⟩ : ByteArray).data.toList = getJ ask raN by simp, hp] at cP
  dsimp only at cP
  replace cP := hide' cP
  have cH := hide' (fun W (h : Below w.heap.size w W) => holdsRG s k zr av lv ask fs D W (holdsF_mono ha h) (holdsF_mono hv h) (by omega) hD)
  rw [hd] at cH
  have HV := hide' hv
  have HB := hide' hB
  have cW := hide' (fun W (h : Below w.heap.size w W) => (show Calls Tryz.prog 26 #[lv, .slice (some ⟨W.heap.size, 0, none⟩) 3 3] (W.alloc (.cells #[S clH, S crH, S ctN] 9)) fun e w' => ∃ u, e = .returned u ∧ OwnF (W.alloc (.cells #[S clH, S crH, S ctN] 9)) u (withoutOf fs [clH, crH, ctN]) w' from
    withoutRef lv _ fs [clH, crH, ctN] _ (holdsF_mono hv (bt' h (below_alloc' W (.cells #[S clH, S crH, S ctN] 9)))) (holds_litC W clH crH ctN) FT.out (by decide) (by omega) (by decide)))
  have wl : (withoutOf fs [clH, crH, ctN]).length ≤ 1048576 := by have := without_len fs [clH, crH, ctN]; omega
  have cK := fun W (h : Below w.heap.size w W) => getRef lv fs ctN W (holdsF_mono hv h) (by omega) (by decide)
  simp only [getJ_eq] at cK
  rw [show decide (0 < (valsOf fs ctN).length) = hasA fs ctN from rfl] at cK
  replace cK := hide' cK
  have gl := getJ_len fs ctN
  have gl2 : (getJ fs ctN).length ≤ 2097152 := by omega
  have ml := mark_len body (by omega)
  obtain ⟨ms1, ms2, ms3⟩ := markN_spec body (by omega)
  have mN : markN body ≤ 20971540 := by omega
  have PLEN := hide' (fun p (hp : p ∈ ps) => part_len fs body p (by omega) (hin p hp).1 (hin p hp).2.1 (hin p hp).2.2)
  have PN := hide' (part_next fs body ps)
  have PB := hide' (fun p => (show partB fs body p = [13, 10, 45, 45] ++ markOf body ++ [13, 10] ++ (if hasA fs ctN = true then [67, 111, 110, 116, 101, 110, 116, 45, 84, 121, 112, 101, 58, 32] ++ getJ fs ctN ++ [13, 10] else []) ++ ([67, 111, 110, 116, 101, 110, 116, 45, 82, 97, 110, 103, 101, 58, 32] ++ placeL p.1 p.2 body.length ++ [13, 10, 13, 10]) ++ spanB body p from rfl))
  have MK : Hid (markOf body = condL ++ Lib.decDigits (markN body)) := rfl
  have hbl : body.length ≤ 1048576 := by omega
  obtain ⟨la, lc, _, _, el, -⟩ := holdsF_parts hv
  obtain ⟨aa, ac, _, _, ea, -⟩ := holdsF_parts ha
  obtain ⟨ba, bc, eb, _⟩ := id hB
  subst el ea eb h200
  clear hv ha hB hb hD g0 fl hh hd hp
  generalize getJ ask raN = je at cG cP
  generalize ask.length = m at cG cH ⊢
  obtain ⟨n, hn⟩ : ∃ n, n = fs.length := ⟨_, rfl⟩
  have N := hide' hn.symm
  rw [N.out] at cC cH HV ⊢
  unfold manyB
  generalize partB fs body = pf at PLEN PN PB ⊢
  generalize hasA fs ctN = ty at cK PB
  generalize getJ fs ctN = kj at cK PB gl2
  generalize withoutOf fs [clH, crH, ctN] = fw at cW wl ⊢
  generalize markOf body = mk at PB ml MK ⊢
  generalize markN body = M at ms1 ms2 ms3 mN MK
  clear gl
  unfold S clH crH ctN at cW
  unfold ctN at cK
  rw [N.out] at cW cK
  obtain ⟨bl, hbln⟩ : ∃ bl, bl = body.length := ⟨_, rfl⟩
  have BL := hide' hbln.symm
  have HIN := hide' hin
  rw [BL.out] at cP hbl HIN PB HB ⊢
  clear hbln hin ms1
  have S2 := hide' ms2
  have S3 := hide' ms3
  clear ms2 ms3
  obtain ⟨pl, hpl⟩ : ∃ pl, pl = ps.length := ⟨_, rfl⟩
  have PL := hide' hpl.symm
  rw [PL.out] at h2 h8
  clear hpl
  generalize (⟨zr.toArray⟩ : ByteArray) = R at cC cH ⊢
  clear hn
  have Q0 := quad_lit w (.int .i64 200) (.string R) (.int .i64 k) (.slice la n lc) 24
  have b0 := below_alloc' w (.cells #[.int .i64 200, .string R, .int .i64 k, .slice la n lc] 24)
  have b1 := below_alloc' (w.alloc (.cells #[.int .i64 200, .string R, .int .i64 k, .slice la n lc] 24)) (.cells #[.int .i64 0, .string ⟨#[]⟩, .int .i64 0, .slice none 0 0] 24)
  have Q1 := quad_below Q0 b1
  have B1 := hide' (bt' b0 b1)
  clear Q0 b0 b1
  obtain ⟨i0, i1, i2, i3, f0, f1, f2, f3, iz⟩ := Q1
  go_enter Tryz.func8, Tryz.ntmps8
  go_wp2_with fail
  refine (cC.out _ B1.out).mono ?_
  rintro e w2 ⟨u, rfl, ho⟩
  have RS := hide' (rst_make (R := R) 24 ho)
  obtain ⟨ua, uc, _, _, eu, -⟩ := holdsF_parts (holdsF_own ho)
  rw [N.out] at eu
  subst eu
  clear ho cC B1 i0 i1 i2 i3 f0 f1 f2 f3 iz
  go_wp2_with fail
  refine (cG.out _ RS.out.bel).mono ?_
  rintro e w3 ⟨rfl, b3⟩
  have R3 := hide' (rst_below RS.out b3)
  clear b3 RS cG
  obtain ⟨z, hz⟩ : ∃ z, z = w2.heap.size := ⟨_, rfl⟩
  rw [← hz] at R3 ⊢
  clear hz
  go_wp2_with fail
  refine (cP.out _).mono ?_
  rintro e w4 ⟨u4, rfl, ho⟩
  have R4 := hide' (rs4_of (rst_below R3.out ho.2))
  obtain ⟨b, off, xc, ex, hxc, hbg, hx⟩ := xat_ownL ho (List.ne_nil_of_length_pos (by rw [PL.out]; omega))
  rw [PL.out] at ex hxc
  have X4 := hide' hx
  have hq1 := R3.out.q1.2.2.2.2.2.2.2.2
  have nb1 : b ≠ w.heap.size + 1 := by omega
  have lb4 : b < w4.heap.size := hx.1
  rw [ex]
  clear R3 ho cP ex hx hbg hq1
  obtain ⟨i0, i1, i2, i3⟩ := quad_blk R4.out.q0
  go_wp2_with fail
  refine (cH.out _ R4.out.bel).mono ?_
  rintro e w5 ⟨rfl, b5⟩
  have R5 := hide' (rs4_below R4.out b5)
  have X5 := hide' (xat_below X4.out b5)
  have lb5 : b < w5.heap.size := Nat.lt_of_lt_of_le lb4 b5.size
  clear b5 cH R4 X4 lb4 i0 i1 i2 i3
  have R6 := hide' (rs4_new R5.out (.int .i64 206) (.string ⟨#[80, 97, 114, 116, 105, 97, 108, 32, 67, 111, 110, 116, 101, 110, 116]⟩) (.int .i64 k) (.slice none 0 0) 24)
  have X6 := hide' (xat_below X5.out (below_alloc' w5 (.cells #[.int .i64 206, .string ⟨#[80, 97, 114, 116, 105, 97, 108, 32, 67, 111, 110, 116, 101, 110, 116]⟩, .int .i64 k, .slice none 0 0] 24)))
  obtain ⟨i0, i1, i2, i3⟩ := quad_blk R6.out.q0
  obtain ⟨j0, j1, j2, j3⟩ := quad_blk R5.out.q0
  have xp : ((pl : Int) == 1) = false := by rw [beq_eq_false_iff_ne]; omega
  go_wp2_with fail
  obtain ⟨y, hy⟩ : ∃ y, y = w5.heap.size := ⟨_, rfl⟩
  obtain ⟨W6, hW6⟩ : ∃ W6, W6 = w5.alloc (.cells #[.int .i64 206, .string ⟨#[80, 97, 114, 116, 105, 97, 108, 32, 67, 111, 110, 116, 101, 110, 116]⟩, .int .i64 k, .slice none 0 0] 24) := ⟨_, rfl⟩
  rw [← hy, ← hW6] at R6
  rw [← hW6] at X6
  rw [← hy, ← hW6]
  have lby : b < y := by rw [hy]; exact lb5
  clear hy hW6 R5 X5 lb5 j0 j1 j2 j3 i0 i1 i2 i3 xp
  have SH := hide' (fun (g : Nat) (hg : g ≤ 20971540) W => (show Calls Tryz.prog 28 #[.int .i64 (g : Int)] W fun e w' => e = .returned (.string ⟨(Lib.decDigits g).toArray⟩) ∧ Below W.heap.size W w' from by
    have h := showInt (g : Int) (by omega) (by omega) W
    rw [dec_itoa] at h
    exact h))
  have OC := hide' (fun (T : ByteArray) (l : List UInt8) (e : T.data.toList = l) (ht : T.size ≤ 1000) W (h : Below W6.heap.size W6 W) => (show Calls Tryz.prog 30 #[.string T, .slice ba bl bc] W fun e w' => e = .returned (.bool (stIn l body)) ∧ Below W.heap.size W w' from by
    have h9 := occursRG T (.slice ba bl bc) body W (holdsB_mono HB.out (bt' R6.out.bel h)) (by omega) (by rw [BL.out]; omega)
    rw [e] at h9
    exact h9))
  go_loopw [16] (fun i wr => ∃ g : Nat, g ≤ M ∧ i = .int .i64 g ∧ Hid (Below W6.heap.size W6 wr)) (fun i _ => M - (intOf i).toNat)
  case atStart => exact ⟨0, Nat.zero_le _, rfl, Below.refl _ _⟩
  case round =>
    obtain ⟨g, hg, rfl, B⟩ := hrel
    have dl := dec20 g (by omega)
    obtain ⟨A, eA⟩ : ∃ A : ByteArray, A = ⟨(Lib.decDigits g).toArray⟩ := ⟨_, rfl⟩
    have lA : A.size ≤ 20 := by rw [eA, size_l]; exact dl
    have cA := SH.out g (by omega) wr
    rw [← eA] at cA
    obtain ⟨T, eT⟩ : ∃ T : ByteArray, T = (⟨#[45, 45, 99, 111, 110, 100, 117, 105, 116, 45]⟩ : ByteArray) ++ A := ⟨_, rfl⟩
    have p1 : ∀ W, (Op.stringOp .add ⟨#[45, 45, 99, 111, 110, 100, 117, 105, 116, 45]⟩ A).run Tryz.prog W = .ok (.string T) W := fun W => by
      rw [addL (by have : (⟨#[45, 45, 99, 111, 110, 100, 117, 105, 116, 45]⟩ : ByteArray).size = 10 := rfl; omega), eT]
    have tz : T.size ≤ 1000 := by
      rw [eT, ByteArray.size_append]
      have : (⟨#[45, 45, 99, 111, 110, 100, 117, 105, 116, 45]⟩ : ByteArray).size = 10 := rfl
      omega
    have cO := hide' (OC.out T (markB g) (by rw [eT, eA]; simp; rfl) tz)
    have cA' := hide' cA
    have sT : g < M → stIn (markB g) body = true := fun h => S3.out g h
    have sF : ¬ g < M → stIn (markB g) body = false := fun h => by
      obtain rfl : g = M := by omega
      exact S2.out
    generalize stIn (markB g) body = so at cO sT sF
    clear cA eA eT dl lA tz
    go_wp2_with fail
    refine cA'.out.mono ?_
    rintro e w9 ⟨rfl, b9⟩
    have B9 := hide' (bt' B.out b9)
    clear b9 B cA'
    go_wp2_with fail
    refine (cO.out _ B9.out).mono ?_
    rintro e wA ⟨rfl, bA⟩
    have BA := hide' (bt' B9.out bA)
    clear bA B9 cO p1
    by_cases hlt : g < M
    · obtain rfl := sT hlt
      clear sT sF
      go_wp2_with fail
      go_roundw
      case rel => exact ⟨g + 1, by omega, by go_num, BA⟩
      case measure => simp [intOf]; omega
    · obtain rfl := sF hlt
      clear sT sF OC
      obtain rfl : g = M := by omega
      have dl := dec20 g (by omega)
      obtain ⟨A, eA⟩ : ∃ A : ByteArray, A = ⟨(Lib.decDigits g).toArray⟩ := ⟨_, rfl⟩
      have lA : A.size ≤ 20 := by rw [eA, size_l]; exact dl
      have cA := SH.out g (by omega) wA
      rw [← eA] at cA
      have cA' := hide' cA
      obtain ⟨K, eK⟩ : ∃ K : ByteArray, K = (⟨#[99, 111, 110, 100, 117, 105, 116, 45]⟩ : ByteArray) ++ A := ⟨_, rfl⟩
      have y8 : (⟨#[99, 111, 110, 100, 117, 105, 116, 45]⟩ : ByteArray).size = 8 := rfl
      have p1 : ∀ W, (Op.stringOp .add ⟨#[99, 111, 110, 100, 117, 105, 116, 45]⟩ A).run Tryz.prog W = .ok (.string K) W := fun W => by
        rw [addL (by omega), eK]
      have KL : Hid (K.data.toList = mk) := by
        unfold Hid
        rw [MK.out, eK, eA]
        simp
        rfl
      have kz : K.size ≤ 28 := by rw [eK, ByteArray.size_append]; omega
      clear cA eA eK dl lA y8 MK S2 S3 SH
      go_wp2_with fail
      refine cA'.out.mono ?_
      rintro e wB ⟨rfl, bB⟩
      have BB := hide' (bt' BA.out bB)
      clear bB BA cA'
      have RB := hide' (rs4_below R6.out BB.out)
      have XB := hide' (xat_below X6.out BB.out)
      clear R6 X6 BB
      obtain ⟨i0, i1, i2, i3⟩ := quad_blk RB.out.q0
      go_wp2_with fail
      refine (cK.out _ RB.out.bel).mono ?_
      rintro e wC ⟨rfl, bC⟩
      have RC := hide' (rs4_below RB.out bC)
      have XC := hide' (xat_below XB.out bC)
      clear bC RB XB cK i0 i1 i2 i3 p1
      have OE := hide' (own_empty wC)
      obtain ⟨J, eJ⟩ : ∃ J : ByteArray, J = ⟨kj.toArray⟩ := ⟨_, rfl⟩
      have jz : J.size ≤ 2097152 := by rw [eJ, size_l]; exact gl2
      have JL : J.data.toList = kj := by rw [eJ]
      rw [← eJ]
      clear eJ gl2
      have z4 : (⟨#[13, 10, 45, 45]⟩ : ByteArray).size = 4 := rfl
      have z2 : (⟨#[13, 10]⟩ : ByteArray).size = 2 := rfl
      have z4b : (⟨#[45, 45, 13, 10]⟩ : ByteArray).size = 4 := rfl
      have z4c : (⟨#[13, 10, 13, 10]⟩ : ByteArray).size = 4 := rfl
      have z14 : (⟨#[67, 111, 110, 116, 101, 110, 116, 45, 84, 121, 112, 101, 58, 32]⟩ : ByteArray).size = 14 := rfl
      have z15 : (⟨#[67, 111, 110, 116, 101, 110, 116, 45, 82, 97, 110, 103, 101, 58, 32]⟩ : ByteArray).size = 15 := rfl
      have z31 : (⟨#[109, 117, 108, 116, 105, 112, 97, 114, 116, 47, 98, 121, 116, 101, 114, 97, 110, 103, 101, 115, 59, 32, 98, 111, 117, 110, 100, 97, 114, 121, 61]⟩ : ByteArray).size = 31 := rfl
      obtain ⟨T1, eT1⟩ : ∃ T : ByteArray, T = (⟨#[13, 10, 45, 45]⟩ : ByteArray) ++ K := ⟨_, rfl⟩
      have t1z : T1.size ≤ 32 := by rw [eT1, ByteArray.size_append]; omega
      have a1 : ∀ W, (Op.stringOp .add ⟨#[13, 10, 45, 45]⟩ K).run Tryz.prog W = .ok (.string T1) W := fun W => by rw [addL (by omega), eT1]
      obtain ⟨X1, eX1⟩ : ∃ T : ByteArray, T = T1 ++ (⟨#[13, 10]⟩ : ByteArray) := ⟨_, rfl⟩
      have a2 : ∀ W, (Op.stringOp .add T1 ⟨#[13, 10]⟩).run Tryz.prog W = .ok (.string X1) W := fun W => by rw [addL (by omega), eX1]
      have L1 := hide' (show X1.data.toList = [13, 10, 45, 45] ++ mk ++ [13, 10] from by rw [eX1, eT1, ← KL.out]; simp)
      obtain ⟨X4, eX4⟩ : ∃ T : ByteArray, T = T1 ++ (⟨#[45, 45, 13, 10]⟩ : ByteArray) := ⟨_, rfl⟩
      have a4 : ∀ W, (Op.stringOp .add T1 ⟨#[45, 45, 13, 10]⟩).run Tryz.prog W = .ok (.string X4) W := fun W => by rw [addL (by omega), eX4]
      have L4 := hide' (show X4.data.toList = [13, 10, 45, 45] ++ mk ++ [45, 45, 13, 10] from by rw [eX4, eT1, ← KL.out]; simp)
      obtain ⟨T2, eT2⟩ : ∃ T : ByteArray, T = (⟨#[67, 111, 110, 116, 101, 110, 116, 45, 84, 121, 112, 101, 58, 32]⟩ : ByteArray) ++ J := ⟨_, rfl⟩
      have t2z : T2.size ≤ 2097166 := by rw [eT2, ByteArray.size_append]; omega
      have b1 : ∀ W, (Op.stringOp .add ⟨#[67, 111, 110, 116, 101, 110, 116, 45, 84, 121, 112, 101, 58, 32]⟩ J).run Tryz.prog W = .ok (.string T2) W := fun W => by rw [addL (by omega), eT2]
      obtain ⟨X2, eX2⟩ : ∃ T : ByteArray, T = T2 ++ (⟨#[13, 10]⟩ : ByteArray) := ⟨_, rfl⟩
      have b2 : ∀ W, (Op.stringOp .add T2 ⟨#[13, 10]⟩).run Tryz.prog W = .ok (.string X2) W := fun W => by rw [addL (by omega), eX2]
      have L2 := hide' (show X2.data.toList = [67, 111, 110, 116, 101, 110, 116, 45, 84, 121, 112, 101, 58, 32] ++ kj ++ [13, 10] from by rw [eX2, eT2, ← JL]; simp)
      obtain ⟨X5, eX5⟩ : ∃ T : ByteArray, T = (⟨#[109, 117, 108, 116, 105, 112, 97, 114, 116, 47, 98, 121, 116, 101, 114, 97, 110, 103, 101, 115, 59, 32, 98, 111, 117, 110, 100, 97, 114, 121, 61]⟩ : ByteArray) ++ K := ⟨_, rfl⟩
      have a5 : ∀ W, (Op.stringOp .add ⟨#[109, 117, 108, 116, 105, 112, 97, 114, 116, 47, 98, 121, 116, 101, 114, 97, 110, 103, 101, 115, 59, 32, 98, 111, 117, 110, 100, 97, 114, 121, 61]⟩ K).run Tryz.prog W = .ok (.string X5) W := fun W => by rw [addL (by omega), eX5]
      have L5 := hide' (show X5 = ⟨(mulL ++ mk).toArray⟩ from by
        rw [← KL.out, ← ba_eta X5, eX5]
        congr 2)
      have l1z : Hid (([13, 10, 45, 45] ++ mk ++ [13, 10] : List UInt8).length ≤ 100) := by unfold Hid; simp only [List.length_append, List.length_cons, List.length_nil]; omega
      have l4z : Hid (([13, 10, 45, 45] ++ mk ++ [45, 45, 13, 10] : List UInt8).length ≤ 100) := by unfold Hid; simp only [List.length_append, List.length_cons, List.length_nil]; omega
      have l2z : Hid (([67, 111, 110, 116, 101, 110, 116, 45, 84, 121, 112, 101, 58, 32] ++ kj ++ [13, 10] : List UInt8).length ≤ 3000000) := by
        unfold Hid
        have h : kj.length ≤ 2097152 := by rw [← JL]; simpa using jz
        simp only [List.length_append, List.length_cons, List.length_nil]
        omega
      generalize ([13, 10, 45, 45] ++ mk ++ [13, 10] : List UInt8) = l1 at L1 l1z PB
      obtain ⟨l4, hl4⟩ : ∃ l : List UInt8, l = [13, 10, 45, 45] ++ mk ++ [45, 45, 13, 10] := ⟨_, rfl⟩
      have EL4 := hide' hl4
      rw [← hl4] at L4 l4z
      clear hl4
      generalize ([67, 111, 110, 116, 101, 110, 116, 45, 84, 121, 112, 101, 58, 32] ++ kj ++ [13, 10] : List UInt8) = l2 at L2 l2z PB
      clear eT1 eX1 eX4 eT2 eX2 eX5 JL jz kz t1z t2z z4 z2 z4b z14 z31 KL
      go_wp2_with fail
      have BC := hide' (below_alloc' wC (.cells #[] 5))
      go_loopw [20, 21] (fun v i wr => ∃ q : Nat, q ≤ pl ∧ i = .int .i64 q ∧ Hid (Own wC v ((ps.take q).flatMap pf) wr)) (fun _ i _ => pl - (intOf i).toNat)
      case atStart => exact ⟨0, Nat.zero_le _, rfl, OE⟩
      case round =>
        clear OE BC
        obtain ⟨q, hq, rfl, HO⟩ := hrel
        by_cases hqt : q < pl
        · have G : Hid (q < ps.length) := by unfold Hid; rw [PL.out]; exact hqt
          obtain ⟨pa, pc, ep, hac, hcb⟩ : ∃ pa pc : Nat, ps[q]'G.out = ((pa : Int), (pc : Int)) ∧ pa ≤ pc ∧ pc < bl := by
            have h := HIN.out _ (List.getElem_mem G.out)
            refine ⟨(ps[q]'G.out).1.toNat, (ps[q]'G.out).2.toNat, ?_, by omega, by omega⟩
            exact Prod.ext (by show _ = _; omega) (by show _ = _; omega)
          have PNQ := hide' (PN.out q G.out)
          have XR := hide' (xat_below XC.out HO.out.2)
          obtain ⟨c0, c1⟩ := XR.out.2 q G.out
          rw [ep] at c0 c1 PNQ
          dsimp only at c0 c1
          have PBQ := hide' (PB.out ((pa : Int), (pc : Int)))
          have LQ : Hid (((ps.take q).flatMap pf).length ≤ 40000000) := by
            have h := flat_len8 pf 5000000 (ps.take q) (fun x hx => PLEN.out x (List.mem_of_mem_take hx))
            rw [List.length_take, PL.out, Nat.min_eq_left (by omega)] at h
            unfold Hid
            have : q * 5000000 ≤ 8 * 5000000 := Nat.mul_le_mul_right _ (by omega)
            omega
          have kl := place_len (pa : Int) (pc : Int) (bl : Int) (by omega) (by omega) (by omega) (by omega) (by omega) (by omega)
          have cL := placeRG (pa : Int) (pc : Int) (bl : Int) (by omega) (by omega) (by omega) (by omega) (by omega) (by omega)
          obtain ⟨PX, ePX⟩ : ∃ T : ByteArray, T = ⟨(placeL (pa : Int) (pc : Int) (bl : Int)).toArray⟩ := ⟨_, rfl⟩
          have pxz : PX.size ≤ 68 := by rw [ePX, size_l]; exact kl
          have PXL : PX.data.toList = placeL (pa : Int) (pc : Int) (bl : Int) := by rw [ePX]
          rw [← ePX] at cL
          replace cL := hide' cL
          obtain ⟨T3, eT3⟩ : ∃ T : ByteArray, T = (⟨#[67, 111, 110, 116, 101, 110, 116, 45, 82, 97, 110, 103, 101, 58, 32]⟩ : ByteArray) ++ PX := ⟨_, rfl⟩
          have t3z : T3.size ≤ 83 := by rw [eT3, ByteArray.size_append]; omega
          have d1 : ∀ W, (Op.stringOp .add ⟨#[67, 111, 110, 116, 101, 110, 116, 45, 82, 97, 110, 103, 101, 58, 32]⟩ PX).run Tryz.prog W = .ok (.string T3) W := fun W => by rw [addL (by omega), eT3]
          obtain ⟨X3, eX3⟩ : ∃ T : ByteArray, T = T3 ++ (⟨#[13, 10, 13, 10]⟩ : ByteArray) := ⟨_, rfl⟩
          have d2 : ∀ W, (Op.stringOp .add T3 ⟨#[13, 10, 13, 10]⟩).run Tryz.prog W = .ok (.string X3) W := fun W => by rw [addL (by omega), eX3]
          have L3 := hide' (show X3.data.toList = [67, 111, 110, 116, 101, 110, 116, 45, 82, 97, 110, 103, 101, 58, 32] ++ placeL (pa : Int) (pc : Int) (bl : Int) ++ [13, 10, 13, 10] from by rw [eX3, eT3, ← PXL]; simp)
          have l3z : Hid (([67, 111, 110, 116, 101, 110, 116, 45, 82, 97, 110, 103, 101, 58, 32] ++ placeL (pa : Int) (pc : Int) (bl : Int) ++ [13, 10, 13, 10] : List UInt8).length ≤ 100) := by unfold Hid; simp only [List.length_append, List.length_cons, List.length_nil]; omega
          generalize ([67, 111, 110, 116, 101, 110, 116, 45, 82, 97, 110, 103, 101, 58, 32] ++ placeL (pa : Int) (pc : Int) (bl : Int) ++ [13, 10, 13, 10] : List UInt8) = l3 at L3 l3z PBQ
          obtain ⟨pv, hsl, hpv⟩ := midB HB.out pa (pc + 1) (by omega) (by rw [BL.out]; omega)
          rw [show ((pc + 1 : Nat) : Int) = (pc : Int) + 1 by omega] at hsl
          have SPB : spanB body ((pa : Int), (pc : Int)) = (body.drop pa).take (pc + 1 - pa) := by
            unfold spanB
            simp only [Int.toNat_natCast]
            rw [show ((pc : Int) + 1 - (pa : Int)).toNat = pc + 1 - pa by omega]
          rw [SPB] at PBQ
          have l5z : Hid (((body.drop pa).take (pc + 1 - pa)).length ≤ 1048576) := by unfold Hid; rw [List.length_take, List.length_drop]; omega
          have l5n : (body.drop pa).take (pc + 1 - pa) ≠ [] := by
            apply List.ne_nil_of_length_pos
            rw [List.length_take, List.length_drop, BL.out]
            omega
          generalize (body.drop pa).take (pc + 1 - pa) = l5 at hpv PBQ l5z l5n
          obtain ⟨pao, pcap, epv, _, _, hpc⟩ := hpv
          obtain ⟨bb, oo, eao, hbb, hcb5⟩ := hpc l5n
          subst eao
          subst epv
          have CB5 := hide' (fun W (h : Below w.heap.size w W) j (hj : j < l5.length) => (show W.cell? ⟨bb, oo + j, none⟩ = some (B l5[j]) from by rw [h.cell (p := ⟨bb, oo + j, none⟩) hbb]; exact hcb5 j hj))
          have SPC := hide' (fun W (h : Below wC.heap.size wC W) => (show W.cell? ⟨b, off + q * 2, none⟩ = some (.int .i64 (pa : Int)) ∧ W.cell? ⟨b, off + q * 2 + 1, none⟩ = some (.int .i64 (pc : Int)) from by
            have h := (xat_below XC.out h).2 q G.out
            rw [ep] at h
            exact h))
          have hw1 : IntKind.i64.wrap ((pc : Int) + 1) = (pc : Int) + 1 := by rw [IntKind.wrap_i64]; omega
          clear ePX pxz PXL eT3 t3z eX3 kl ep hpc hcb5 SPB l5n c0 c1 XR G hbb
          obtain ⟨cv1, wv1, hcv1, hce1, hbv1⟩ := convR X1 _ wr L1.out
          have CE1 := hide' hce1
          have O1 := hide' (own_mono HO.out hbv1)
          clear hce1 hbv1
          cases ty with
          | true =>
            go_wp2_with (first
              | (at_builtin; refine appCv rfl (.tmp 127) (.tmp 131) rfl wC _ _ rfl O1.out _ _ _ rfl CE1.out (by have := LQ.out; have := l1z.out; omega) ?_; intro v2 w2 ho2; have O2 := hide' ho2; obtain ⟨cv2, wv2, hcv2, hce2, hbv2⟩ := convR X2 _ w2 L2.out; have CE2 := hide' hce2; have O3 := hide' (own_mono O2.out hbv2); clear ho2 hce2 hbv2)
              | (at_builtin; refine appCv rfl (.tmp 134) (.tmp 138) rfl wC _ _ rfl O3.out _ _ _ rfl CE2.out (by have := LQ.out; have := l1z.out; have := l2z.out; rw [List.length_append]; omega) ?_; intro v4 w4 ho4; have O4 := hide' ho4; obtain ⟨e0, e1⟩ := SPC.out _ ho4.2; clear ho4))
            refine (cL.out _).mono ?_
            rintro e w5 ⟨rfl, b5⟩
            obtain ⟨cv3, wv3, hcv3, hce3, hbv3⟩ := convR X3 _ w5 L3.out
            have CE3 := hide' hce3
            have O6 := hide' (own_mono (own_mono O4.out b5) hbv3)
            clear b5 hce3 hbv3 e0 e1 cL
            go_wp2_with (at_builtin; refine appCv rfl (.tmp 140) (.tmp 150) rfl wC _ _ rfl O6.out _ _ _ rfl CE3.out (by have := LQ.out; have := l1z.out; have := l2z.out; have := l3z.out; simp only [List.length_append]; omega) ?_; intro v7 w7 ho7; have O7 := hide' ho7; obtain ⟨m0, m1⟩ := SPC.out _ ho7.2; clear ho7)
            have B7 := hide' (bt' RC.out.bel O7.out.2)
            have ne7 := hide' O7.out.1.lt
            go_region_law
              ((refine step_appR (by rfl) (.tmp 152) (.tmp 165) (by rfl) wC _ _ (by first | rfl | simp [Act.eval, Act.put]) (own_drewR O7.out) l5 bb oo _ (by first | rfl | simp [Act.eval, Act.put]) (CB5.out _ B7.out.drew) (by have := LQ.out; have := l1z.out; have := l2z.out; have := l3z.out; have := l5z.out; simp only [List.length_append]; omega) ?_; intro v8 w8 ho8; have O8 := hide' ho8; clear ho8))
            all_goals
              go_wp2_with fail
              go_roundw
              case rel => exact ⟨q + 1, by omega, by go_num, by unfold Hid; rw [PNQ.out, PBQ.out]; simpa using O8.out⟩
              case measure => simp [intOf]; omega
          | false =>
            go_wp2_with (at_builtin; refine appCv rfl (.tmp 127) (.tmp 131) rfl wC _ _ rfl O1.out _ _ _ rfl CE1.out (by have := LQ.out; have := l1z.out; omega) ?_; intro v4 w4 ho4; have O4 := hide' ho4; obtain ⟨e0, e1⟩ := SPC.out _ ho4.2; clear ho4)
            refine (cL.out _).mono ?_
            rintro e w5 ⟨rfl, b5⟩
            obtain ⟨cv3, wv3, hcv3, hce3, hbv3⟩ := convR X3 _ w5 L3.out
            have CE3 := hide' hce3
            have O6 := hide' (own_mono (own_mono O4.out b5) hbv3)
            clear b5 hce3 hbv3 e0 e1 cL
            go_wp2_with (at_builtin; refine appCv rfl (.tmp 140) (.tmp 150) rfl wC _ _ rfl O6.out _ _ _ rfl CE3.out (by have := LQ.out; have := l1z.out; have := l2z.out; have := l3z.out; simp only [List.length_append]; omega) ?_; intro v7 w7 ho7; have O7 := hide' ho7; obtain ⟨m0, m1⟩ := SPC.out _ ho7.2; clear ho7)
            have B7 := hide' (bt' RC.out.bel O7.out.2)
            have ne7 := hide' O7.out.1.lt
            go_region_law
              ((refine step_appR (by rfl) (.tmp 152) (.tmp 165) (by rfl) wC _ _ (by first | rfl | simp [Act.eval, Act.put]) (own_drewR O7.out) l5 bb oo _ (by first | rfl | simp [Act.eval, Act.put]) (CB5.out _ B7.out.drew) (by have := LQ.out; have := l1z.out; have := l2z.out; have := l3z.out; have := l5z.out; simp only [List.length_append]; omega) ?_; intro v8 w8 ho8; have O8 := hide' ho8; clear ho8))
            all_goals
              go_wp2_with fail
              go_roundw
              case rel => exact ⟨q + 1, by omega, by go_num, by unfold Hid; rw [PNQ.out, PBQ.out]; simpa using O8.out⟩
              case measure => simp [intOf]; omega
        · obtain rfl : q = pl := by omega
          have F : Hid (ps.take q = ps) := List.take_of_length_le (by rw [PL.out]; omega)
          rw [F.out] at HO
          have LQ : Hid ((ps.flatMap pf).length ≤ 40000000) := by
            have h := flat_len8 pf 5000000 ps (fun x hx => PLEN.out x hx)
            rw [PL.out] at h
            unfold Hid
            have : q * 5000000 ≤ 8 * 5000000 := Nat.mul_le_mul_right _ (by omega)
            omega
          have fzl : (fw ++ [(ctU, mulL ++ mk)]).length ≤ 1048577 := by simp; omega
          obtain ⟨fz, hfz⟩ : ∃ fz, fz = fw ++ [(ctU, mulL ++ mk)] := ⟨_, rfl⟩
          have FZ := hide' hfz.symm
          rw [FZ.out] at fzl
          obtain ⟨fb, hfb⟩ : ∃ fb, fb = ps.flatMap pf ++ l4 := ⟨_, rfl⟩
          have FB := hide' hfb.symm
          obtain ⟨cv4, wv4, hcv4, hce4, hbv4⟩ := convR X4 _ wr L4.out
          have CE4 := hide' hce4
          have O1 := hide' (own_mono HO.out hbv4)
          have ycl : y < wC.heap.size := RC.out.qy.2.2.2.2.2.2.2.2
          have hq1 : w.heap.size + 2 ≤ wC.heap.size := by have := RC.out.far; omega
          clear hce4 hbv4 hfz hfb PN PB PLEN XC HIN F a2 b1 b2 L1 L2 l1z l2z hq h2 h8 hqt
          go_wp2_with (at_builtin; refine appCv rfl (.tmp 167) (.tmp 171) rfl wC _ _ rfl O1.out _ _ _ rfl CE4.out (by have := LQ.out; have := l4z.out; omega) ?_; intro v2 w2 ho2; rw [FB.out] at ho2; have O2 := hide' ho2; have R2 := hide' (rs4_below RC.out ho2.2); obtain ⟨i0, i1, i2, i3⟩ := quad_blk R2.out.q0; clear ho2)
          refine (cW.out w2 R2.out.bel).mono ?_
          rintro e w3 ⟨u3, rfl, ho⟩
          have ho := ownF_base ho (below_alloc' w2 _)
          have HF := hide' ho
          clear ho i0 i1 i2 i3 cW O1
          go_upto_region 31 with (at_builtin; refine appF rfl (.tmp 177) (.tmp 181) rfl w2 _ fw rfl HF.out (ctU, mulL ++ mk) rfl L5.out rfl rfl (by omega) ?_; intro v4 w4 ho4; rw [FZ.out] at ho4; obtain ⟨fa, fc, _, _, ef, -⟩ := holdsF_parts (holdsF_own ho4); subst ef; have OF := hide' ho4; have R4 := hide' (rs4_below R2.out ho4.2); have O4 := hide' (own_mono O2.out ho4.2); obtain ⟨g0, g1, g2, g3, h0, h1, h2, h3, h4⟩ := R4.out.qy; clear ho4)
          have yw2 : y < w2.heap.size := R2.out.qy.2.2.2.2.2.2.2.2
          have RA := hide' (rs4_set3 R4.out (.slice fa fz.length fc))
          have OA := hide' (row_base (row_poke (o := 3) (x := .slice fa fz.length fc) OF.out.1 yw2) (base' := w.heap.size + 2) (by have := R2.out.far; omega))
          have OB := hide' (row_base (row_poke (o := 3) (x := .slice fa fz.length fc) O4.out.1 ycl) (base' := w.heap.size + 2) hq1)
          clear g0 g1 g2 g3 h0 h1 h2 h3 h4 OF R4 O4 R2 O2 HF RC HO L5 a5 a4 a1 L4 l4z
          generalize w4.setCell ⟨y, 3, none⟩ (.slice fa fz.length fc) = w9 at RA OA OB ⊢
          obtain ⟨U, hU⟩ : ∃ U, U = (⟨#[80, 97, 114, 116, 105, 97, 108, 32, 67, 111, 110, 116, 101, 110, 116]⟩ : ByteArray) := ⟨_, rfl⟩
          rw [← hU] at RA ⊢
          have HU := hide' hU
          clear hU
          have ne1 : w.heap.size + 1 ≠ y := Nat.ne_of_lt RA.out.far
          have ne2 : y ≠ w.heap.size + 1 := fun e => ne1 e.symm
          obtain ⟨j0, j1, j2, j3⟩ := quad_blk RA.out.qy
          obtain ⟨p0, p1, p2, p3, g0, g1, g2, g3, -⟩ := RA.out.q1
          go_wp2_with fail
          have RZ := rs4_put RA.out (.int .i64 206) (.string U) (.int .i64 k) (.slice fa fz.length fc)
          obtain ⟨q0', q1', q2', q3'⟩ := quad_blk RZ.q1
          have qF := row_put (v0 := .int .i64 206) (v1 := .string U) (v2 := .int .i64 k) (v3 := .slice fa fz.length fc) OA.out (b := w.heap.size + 1) (by omega)
          replace qF := row_base qF (base' := w.heap.size) (by omega)
          have qB := row_put (v0 := .int .i64 206) (v1 := .string U) (v2 := .int .i64 k) (v3 := .slice fa fz.length fc) OB.out (b := w.heap.size + 1) (by omega)
          replace qB := holdsB_row qB
          unfold put4 at qF qB
          have ee : fb = ps.flatMap pf ++ 13 :: 10 :: 45 :: 45 :: (mk ++ [45, 45, 13, 10]) := by rw [← FB.out, EL4.out]; simp
          exact bodyPost_ret (v := .tuple #[.agg #[.int .i64 206, .string U, .int .i64 k, .slice fa fz.length fc], v2]) (by simp [results, Tryz.results8, go_sem, q0', q1', q2', q3']) rfl ⟨_, _, by rw [HU.out]; rfl, by rw [FZ.out]; exact ⟨qF, RZ.bel⟩, by rw [ee] at qB; exact qB, RZ.bel⟩
end Go.Proofs.YtipcmbonhkelbabGreatDoor
