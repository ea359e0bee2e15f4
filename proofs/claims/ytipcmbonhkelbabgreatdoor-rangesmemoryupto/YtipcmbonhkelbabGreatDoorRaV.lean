/- The contract of moreParts (ranges). -/
import Derived.Test.YtipcmbonhkelbabGreatDoorXn
import Derived.Test.YtipcmbonhkelbabGreatDoorRaO
import Derived.Test.YtipcmbonhkelbabGreatDoorRgQ
import Derived.Deep.DeepCutAuto
namespace Go.Proofs.YtipcmbonhkelbabGreatDoor
open Go.RowKit
theorem take_flat (fs : FL) (body : List UInt8) (ps : XL) (k : Nat) (m : Nat) (hm : ∀ p ∈ ps, (partB fs body p).length ≤ m) : ((ps.take k).flatMap (partB fs body)).length ≤ ps.length * m := by
  have h := flat_len8 (partB fs body) m (ps.take k) (fun x hx => hm x (List.mem_of_mem_take hx))
  have h2 : (ps.take k).length ≤ ps.length := by rw [List.length_take]; omega
  exact Nat.le_trans h (Nat.mul_le_mul_right m h2)
set_option maxRecDepth 20000 in
set_option maxHeartbeats 8000000 in
theorem moreG (s k : Int) (R : ByteArray) (lv v xv : Value) (fs : FL) (body : List UInt8) (ps : XL) (w : World) (hv : HoldsF w lv fs) (hB : HoldsB w v body) (hx : HoldsX w xv ps) (hps : ∀ p ∈ ps, 0 ≤ p.1 ∧ p.1 ≤ p.2 ∧ p.2 < (body.length : Int)) (hl8 : ps.length ≤ 8) (hb : bulkF fs ≤ 8000000) (hbl : body.length ≤ 8000000) (M : MaxVD w) (T : Tab w) :
    Calls Tryz.prog 22 #[.agg #[.int .i64 s, .string R, .int .i64 k, lv], v, xv] w fun e w' => ∃ u bv, e = .returned (.tuple #[.agg #[.int .i64 206, .string parB, .int .i64 k, u], bv]) ∧ OwnF w u (withoutOf fs [clH, crH, ctN] ++ [(ctU, mulL ++ markOf body)]) w' ∧ Own w bv (manyB fs body ps) w' := by
  have fl := bulkF_len fs
  have FT := hide' (show Fit fs from fun f hf => by have := bulkF_mem fs f hf; omega)
  have cB := hide' (fun W (h : Below w.heap.size w W) => boundaryG v body W (holdsB_mono hB h) hbl (M.below h) (tab_below T h))
  have cG := fun W (h : Below w.heap.size w W) => getTokB lv fs ctU W (holdsF_mono hv h) (by omega) (by decide)
  have eg := vals_low2 fs (show lows ctU = lows ctN by decide)
  simp only [eg, getJ_eq] at cG
  rw [show decide (0 < (valsOf fs ctN).length) = hasA fs ctN from rfl] at cG
  replace cG := hide' cG
  have TT := hide' T
  have ml := mark_len2 body hbl
  have jl := getJ_len fs ctN
  have tl := tyL_len fs
  have cL := hide' (fun (p : Int × Int) W (h : Below w.heap.size w W) (hp : 0 ≤ p.1 ∧ p.1 ≤ p.2 ∧ p.2 < (body.length : Int)) => placeG p.1 p.2 (body.length : Int) (by omega) (by omega) (by omega) (by omega) (by omega) (by omega) W (tab_below TT.out h))
  have e1 := without_low fs (show [CLb, crU].map lows = [clH, crH].map lows by decide)
  have cW := hide' (fun vn W (h : Below w.heap.size w W) (hn : Holds W vn [CLb, crU]) => withoutTok lv vn fs [CLb, crU] W (holdsF_mono hv h) hn FT.out (by decide) (by omega) (by decide))
  rw [e1] at cW
  have wl := without_len fs [clH, crH]
  have FW := hide' (fit_without FT.out [clH, crH])
  have cU := hide' (fun u W (h : HoldsF W u (withoutOf fs [clH, crH])) => putTok u _ ctU (mulL ++ markOf body) W h FW.out (by decide) (by rw [List.length_append, show mulL.length = 31 from rfl]; omega) (by omega))
  rw [put_ct] at cU
  rw [manyB_is]
  obtain ⟨la, lc, _, _, el, -⟩ := holdsF_parts hv
  subst el
  have HB := hide' hB
  obtain ⟨ba, bc, eb, -⟩ := id hB
  subst eb
  obtain ⟨xa, xc, ex, _, _, hxc⟩ := hx
  subst ex
  have XC := hide' hxc
  have HP := hide' hps
  have PL := hide' (fun (p : Int × Int) (hp : p ∈ ps) => partB_len2 fs body p hbl hb (hps p hp))
  have TF := hide' (fun k => take_flat fs body ps k 30000000 PL.out)
  have H2 := hide' (fun (p : Int × Int) (hp : p ∈ ps) => h2L_len body p hbl (hps p hp))
  have H1 : (h1L fs body).length ≤ 16000100 := by have := h1L_len fs body hbl; omega
  have H3 := h3L_len body hbl
  -- the texts
  have a1 := fun W => addLL [13, 10, 45, 45] (markOf body) W (by simp only [List.length_cons, List.length_nil]; omega)
  have a2 := fun W => addLL ([13, 10, 45, 45] ++ markOf body) [13, 10] W (by simp only [List.length_append, List.length_cons, List.length_nil]; omega)
  have a3 := fun W => addLL ([13, 10, 45, 45] ++ markOf body ++ [13, 10]) (tyL fs) W (by simp only [List.length_append, List.length_cons, List.length_nil]; omega)
  have a4 := fun W => addLL ([13, 10, 45, 45] ++ markOf body) [45, 45] W (by simp only [List.length_append, List.length_cons, List.length_nil]; omega)
  have a5 := fun W => addLL ([13, 10, 45, 45] ++ markOf body ++ [45, 45]) [13, 10] W (by simp only [List.length_append, List.length_cons, List.length_nil]; omega)
  have a6 := fun W => addLL mulL (markOf body) W (by rw [show mulL.length = 31 from rfl]; omega)
  have a7 := fun W => addLL [67, 111, 110, 116, 101, 110, 116, 45, 84, 121, 112, 101, 58, 32] (getJ fs ctN) W (by simp only [List.length_cons, List.length_nil]; omega)
  have a8 := fun W => addLL ([67, 111, 110, 116, 101, 110, 116, 45, 84, 121, 112, 101, 58, 32] ++ getJ fs ctN) [13, 10] W (by simp only [List.length_append, List.length_cons, List.length_nil]; omega)
  have b1 := hide' (fun (p : Int × Int) (hp : p ∈ ps) => (show (∀ W, (Op.stringOp .add ⟨#[67, 111, 110, 116, 101, 110, 116, 45, 82, 97, 110, 103, 101, 58, 32]⟩ ⟨(placeL p.1 p.2 (body.length : Int)).toArray⟩).run Tryz.prog W = .ok (.string ⟨([67, 111, 110, 116, 101, 110, 116, 45, 82, 97, 110, 103, 101, 58, 32] ++ placeL p.1 p.2 (body.length : Int)).toArray⟩) W) ∧ (∀ W, (Op.stringOp .add ⟨([67, 111, 110, 116, 101, 110, 116, 45, 82, 97, 110, 103, 101, 58, 32] ++ placeL p.1 p.2 (body.length : Int)).toArray⟩ ⟨#[13, 10]⟩).run Tryz.prog W = .ok (.string ⟨([67, 111, 110, 116, 101, 110, 116, 45, 82, 97, 110, 103, 101, 58, 32] ++ placeL p.1 p.2 (body.length : Int) ++ [13, 10]).toArray⟩) W) ∧ (∀ W, (Op.stringOp .add ⟨([67, 111, 110, 116, 101, 110, 116, 45, 82, 97, 110, 103, 101, 58, 32] ++ placeL p.1 p.2 (body.length : Int) ++ [13, 10]).toArray⟩ ⟨#[13, 10]⟩).run Tryz.prog W = .ok (.string ⟨(h2L body p).toArray⟩) W) from by
    have := place_len p.1 p.2 body.length (by have := hps p hp; omega) (by have := hps p hp; omega) (by have := hps p hp; omega) (by have := hps p hp; omega) (by omega) (by omega)
    exact ⟨fun W => addLL [67, 111, 110, 116, 101, 110, 116, 45, 82, 97, 110, 103, 101, 58, 32] (placeL p.1 p.2 (body.length : Int)) W (by simp only [List.length_cons, List.length_nil]; omega), fun W => addLL ([67, 111, 110, 116, 101, 110, 116, 45, 82, 97, 110, 103, 101, 58, 32] ++ placeL p.1 p.2 (body.length : Int)) [13, 10] W (by simp only [List.length_append, List.length_cons, List.length_nil]; omega), fun W => addLL ([67, 111, 110, 116, 101, 110, 116, 45, 82, 97, 110, 103, 101, 58, 32] ++ placeL p.1 p.2 (body.length : Int) ++ [13, 10]) [13, 10] W (by simp only [List.length_append, List.length_cons, List.length_nil]; omega)⟩))
  rw [show [13, 10, 45, 45] ++ markOf body ++ [13, 10] ++ tyL fs = h1L fs body from rfl] at a3
  rw [show [13, 10, 45, 45] ++ markOf body ++ [45, 45] ++ [13, 10] = h3L body from rfl] at a5
  have NX := hide' (fun k h => part_next fs body ps k h)
  have PB' := hide' (fun (p : Int × Int) => partB_is fs body p)
  have TY1 := hide' (show hasA fs ctN = true → tyL fs = [67, 111, 110, 116, 101, 110, 116, 45, 84, 121, 112, 101, 58, 32] ++ getJ fs ctN ++ [13, 10] from fun h => if_pos h)
  have TY0 := hide' (show hasA fs ctN = false → tyL fs = [] from fun h => if_neg (by rw [h]; decide))
  unfold mulL at a6
  unfold parB
  clear hv hB hxc hps hb T M e1 eg fl wl jl tl ml
  generalize hasA fs ctN = typ at cG TY1 TY0
  generalize h1L fs body = h1 at a3 PB' H1
  generalize h3L body = h3 at a5 H3 ⊢
  obtain ⟨TL, hTL⟩ : ∃ TL : ByteArray, TL = ⟨(tyL fs).toArray⟩ := ⟨_, rfl⟩
  rw [← hTL] at a3
  have KT := hide' hTL
  obtain ⟨A1, e1⟩ : ∃ A1 : ByteArray, A1 = ⟨([13, 10, 45, 45] ++ markOf body).toArray⟩ := ⟨_, rfl⟩
  obtain ⟨A2, e2⟩ : ∃ A2 : ByteArray, A2 = ⟨([13, 10, 45, 45] ++ markOf body ++ [13, 10]).toArray⟩ := ⟨_, rfl⟩
  obtain ⟨A3, e3⟩ : ∃ A3 : ByteArray, A3 = ⟨h1.toArray⟩ := ⟨_, rfl⟩
  obtain ⟨A4, e4⟩ : ∃ A4 : ByteArray, A4 = ⟨([13, 10, 45, 45] ++ markOf body ++ [45, 45]).toArray⟩ := ⟨_, rfl⟩
  obtain ⟨A5, e5⟩ : ∃ A5 : ByteArray, A5 = ⟨h3.toArray⟩ := ⟨_, rfl⟩
  obtain ⟨A6, e6⟩ : ∃ A6 : ByteArray, A6 = ⟨(mulL ++ markOf body).toArray⟩ := ⟨_, rfl⟩
  obtain ⟨A7, e7⟩ : ∃ A7 : ByteArray, A7 = ⟨([67, 111, 110, 116, 101, 110, 116, 45, 84, 121, 112, 101, 58, 32] ++ getJ fs ctN).toArray⟩ := ⟨_, rfl⟩
  obtain ⟨A8, e8⟩ : ∃ A8 : ByteArray, A8 = ⟨([67, 111, 110, 116, 101, 110, 116, 45, 84, 121, 112, 101, 58, 32] ++ getJ fs ctN ++ [13, 10]).toArray⟩ := ⟨_, rfl⟩
  obtain ⟨MB, eM⟩ : ∃ MB : ByteArray, MB = ⟨(markOf body).toArray⟩ := ⟨_, rfl⟩
  obtain ⟨JB, eJ⟩ : ∃ JB : ByteArray, JB = ⟨(getJ fs ctN).toArray⟩ := ⟨_, rfl⟩
  unfold mulL at e6
  rw [← eM] at a1 a6 cB
  rw [← eJ] at a7 cG
  rw [← e1] at a1 a2 a4
  rw [← e2] at a2 a3
  rw [← e3] at a3
  rw [← e4] at a4 a5
  rw [← e5] at a5
  rw [← e6] at a6
  unfold mulL at cU
  rw [← e6] at cU
  rw [← e7] at a7 a8
  rw [← e8] at a8
  rw [show (⟨([13, 10, 45, 45] : List UInt8).toArray⟩ : ByteArray) = ⟨#[13, 10, 45, 45]⟩ from rfl] at a1
  rw [show (⟨([13, 10] : List UInt8).toArray⟩ : ByteArray) = ⟨#[13, 10]⟩ from rfl] at a2 a5 a8
  rw [show (⟨([45, 45] : List UInt8).toArray⟩ : ByteArray) = ⟨#[45, 45]⟩ from rfl] at a4
  rw [show (⟨([109, 117, 108, 116, 105, 112, 97, 114, 116, 47, 98, 121, 116, 101, 114, 97, 110, 103, 101, 115, 59, 32, 98, 111, 117, 110, 100, 97, 114, 121, 61] : List UInt8).toArray⟩ : ByteArray) = ⟨#[109, 117, 108, 116, 105, 112, 97, 114, 116, 47, 98, 121, 116, 101, 114, 97, 110, 103, 101, 115, 59, 32, 98, 111, 117, 110, 100, 97, 114, 121, 61]⟩ from rfl] at a6
  rw [show (⟨([67, 111, 110, 116, 101, 110, 116, 45, 84, 121, 112, 101, 58, 32] : List UInt8).toArray⟩ : ByteArray) = ⟨#[67, 111, 110, 116, 101, 110, 116, 45, 84, 121, 112, 101, 58, 32]⟩ from rfl] at a7
  have E8 := hide' e8
  have E3 := hide' e3
  have E5 := hide' e5
  clear e1 e2 e3 e4 e5 e6 e7 e8 eM eJ hTL
  obtain ⟨mm, hmm⟩ : ∃ mm, mm = withoutOf fs [clH, crH, ctN] ++ [(ctU, mulL ++ markOf body)] := ⟨_, rfl⟩
  unfold mulL at hmm ⊢
  rw [← hmm] at cU ⊢
  clear hmm
  generalize withoutOf fs [clH, crH] = fw at cW cU FW
  obtain ⟨n, hn⟩ : ∃ n, n = fs.length := ⟨_, rfl⟩
  have N := hide' hn.symm
  obtain ⟨bl, hbln⟩ : ∃ bl, bl = body.length := ⟨_, rfl⟩
  have BL := hide' hbln.symm
  obtain ⟨nx, hnx⟩ : ∃ nx, nx = ps.length := ⟨_, rfl⟩
  have NPS := hide' hnx.symm
  rw [N.out] at cG cW ⊢
  rw [BL.out] at cB cL hbl HB HP b1 ⊢
  rw [NPS.out] at hl8 TF ⊢
  clear hn hbln hnx FT FW
  have P0 := pb_lit w (.int .i64 s) (.string R) (.int .i64 k) (.slice la n lc) 24
  obtain ⟨W2, hW2⟩ : ∃ W2, W2 = (w.alloc (.cells #[.int .i64 s, .string R, .int .i64 k, .slice la n lc] 24)).alloc (.cells #[.int .i64 0, .string ⟨#[]⟩, .int .i64 0, .slice none 0 0] 24) := ⟨_, rfl⟩
  rw [← hW2] at P0
  have HW := hide' hW2
  have PB0 := hide' P0
  clear hW2 P0
  go_enter Tryz.func22, Tryz.ntmps22
  go_upto_region 1 with fail
  rw [← HW.out]
  go_wp2_with fail
  refine (cB.out W2 PB0.out.bel).mono ?_
  rintro e w3 ⟨rfl, b3⟩
  have P3 := hide' (pb_below PB0.out b3)
  clear b3 PB0 cB HW
  obtain ⟨-, ⟨i0, i1, i2, i3, f0, f1, f2, f3, -⟩, -⟩ := id P3.out
  go_wp2_with fail
  refine (cG.out _ P3.out.bel).mono ?_
  rintro e w4 ⟨rfl, b4⟩
  have P4 := hide' (pb_below P3.out b4)
  clear b4 P3 cG i0 i1 i2 i3 f0 f1 f2 f3
  go_upto_if 23 with fail
  go_cut [9] (fun tv wx => tv = .string TL ∧ Hid (wx = w4))
  case first =>
    cases typ with
    | true =>
      have E := hide' (KT.out.trans (by rw [TY1.out rfl, ← E8.out]))
      go_wp2_with fail
      go_meet
      exact ⟨by rw [E.out], rfl⟩
    | false =>
      have E := hide' (KT.out.trans (by rw [TY0.out rfl]))
      go_wp2_with fail
      go_meet
      exact ⟨by rw [E.out], rfl⟩
  case rest =>
    obtain ⟨rfl, HWc⟩ := hcut
    rw [HWc.out]
    clear HWc a7 a8 KT TY0 TY1 E8
    go_wp2_with fail
    go_loopw [12, 29] (fun pv iv wr => ∃ k : Nat, k ≤ nx ∧ iv = .int .i64 k ∧ Hid (Own w4 pv ((ps.take k).flatMap (partB fs body)) wr)) (fun _ iv _ => nx - (intOf iv).toNat)
    case atStart => exact ⟨0, Nat.zero_le _, rfl, by unfold Hid; rw [List.take_zero]; exact own_nil w4 w4 (Below.refl _ _)⟩
    case round =>
      obtain ⟨j, hj, rfl, HO⟩ := hrel
      have tf := TF.out j
      by_cases hlt : j < nx
      · have G : Hid (j < ps.length) := by unfold Hid; rw [NPS.out]; exact hlt
        obtain ⟨xb, xo, hao, hxlt, hxcell⟩ := XC.out (List.ne_nil_of_length_pos (by have := G.out; omega))
        subst hao
        obtain ⟨x0, x1⟩ := hxcell j G.out
        have bw := bt' P4.out.bel HO.out.2
        rw [← bw.cell (p := ⟨xb, xo + j * 2, none⟩) hxlt] at x0
        rw [← bw.cell (p := ⟨xb, xo + j * 2 + 1, none⟩) hxlt] at x1
        have BW := hide' bw
        have hmem := List.getElem_mem G.out
        have hp := HP.out _ hmem
        have NK := hide' (NX.out j G.out)
        have PK := hide' (PB'.out (ps[j]'G.out))
        obtain ⟨t1, t2, t3⟩ := b1.out _ hmem
        have l2 := H2.out _ hmem
        have lp := PL.out _ hmem
        have cK := hide' (fun W (h : Below w.heap.size w W) => cL.out (ps[j]'G.out) W h hp)
        clear hxcell hmem bw
        generalize (ps[j]'G.out) = pr at x0 x1 hp NK PK t1 t2 t3 l2 lp cK
        obtain ⟨a, c⟩ := pr
        dsimp only at x0 x1 hp t1 t2 t3 cK
        obtain ⟨a, rfl⟩ : ∃ a' : Nat, a = a' := ⟨a.toNat, by omega⟩
        obtain ⟨c, rfl⟩ : ∃ c' : Nat, c = c' := ⟨c.toNat, by omega⟩
        have SB := hide' (show spanB body ((a : Int), (c : Int)) = (body.drop a).take (c + 1 - a) from by
          unfold spanB
          rw [show ((a : Int), (c : Int)).1.toNat = a from rfl, show (((a : Int), (c : Int)).2 + 1 - ((a : Int), (c : Int)).1).toNat = c + 1 - a from by dsimp only; omega])
        obtain ⟨pv, hsl, hpv⟩ := midB HB.out a (c + 1) (by omega) (by rw [BL.out]; omega)
        rw [show ((c + 1 : Nat) : Int) = (c : Int) + 1 by omega] at hsl
        rw [← SB.out] at hpv
        have hls : (spanB body ((a : Int), (c : Int))).length ≤ 8000000 := by rw [SB.out, List.length_take, List.length_drop, BL.out]; omega
        have PV := hide' hpv
        generalize spanB body ((a : Int), (c : Int)) = sp at PV PK hls
        obtain ⟨PC, ePC⟩ : ∃ PC : ByteArray, PC = ⟨(placeL (a : Int) (c : Int) (bl : Int)).toArray⟩ := ⟨_, rfl⟩
        obtain ⟨S1, eS1⟩ : ∃ S1 : ByteArray, S1 = ⟨([67, 111, 110, 116, 101, 110, 116, 45, 82, 97, 110, 103, 101, 58, 32] ++ placeL (a : Int) (c : Int) (bl : Int)).toArray⟩ := ⟨_, rfl⟩
        obtain ⟨S2, eS2⟩ : ∃ S2 : ByteArray, S2 = ⟨([67, 111, 110, 116, 101, 110, 116, 45, 82, 97, 110, 103, 101, 58, 32] ++ placeL (a : Int) (c : Int) (bl : Int) ++ [13, 10]).toArray⟩ := ⟨_, rfl⟩
        generalize h2L body ((a : Int), (c : Int)) = h2 at t3 PK l2
        obtain ⟨S3, eS3⟩ : ∃ S3 : ByteArray, S3 = ⟨h2.toArray⟩ := ⟨_, rfl⟩
        rw [← ePC] at t1 cK
        rw [← eS1] at t1 t2
        rw [← eS2] at t2 t3
        rw [← eS3] at t3
        have ES3 := hide' eS3
        have hw1 : IntKind.i64.wrap ((c : Int) + 1) = (c : Int) + 1 := by rw [IntKind.wrap_i64]; omega
        have H5 := hide' (own_mono HO.out (below_alloc' wr (.cells #[.int .i64 a, .int .i64 c] 44)))
        have TX := hide' (twoX_new wr (a : Int) (c : Int))
        have LEN : Hid (((ps.take j).flatMap (partB fs body)).length + h1.length + h2.length + sp.length ≤ 140737488355328) := by unfold Hid; omega
        clear ePC eS1 eS2 eS3 hpv hls l2 lp tf HO
        generalize (ps.take j).flatMap (partB fs body) = done at H5 NK LEN
        go_wp2_with (at_builtin; refine appTx rfl (.tmp 33) (.tmp 38) rfl w4 _ _ rfl H5.out h1 A3 E3.out rfl (by have := LEN.out; omega) ?_; intro v6 w6 o6 tw6; have T6 := tw6 _ _ _ TX.out; have O6 := hide' o6; obtain ⟨c6, d6⟩ := twoX_cell T6; have TX6 := hide' T6; clear T6 tw6 o6)
        have B6 := bt' P4.out.bel O6.out.2
        refine (cK.out _ B6).mono ?_
        rintro e w7 ⟨rfl, b7⟩
        have O7 := hide' (own_mono O6.out b7)
        have T7 := twoX_below TX6.out b7
        have TX7 := hide' T7
        obtain ⟨c7, d7⟩ := twoX_cell T7
        have B7 := hide' (bt' B6 b7)
        clear B6 b7 T7 c6 d6 TX6 TX H5 O6 cK x0 x1 BW
        go_wp2_with (first
          | (at_builtin; refine appTx rfl (.tmp 40) (.tmp 47) rfl w4 _ _ rfl O7.out h2 S3 ES3.out rfl (by rw [List.length_append]; have := LEN.out; omega) ?_; intro v8 w8 o8 tw8; have T8 := tw8 _ _ _ TX7.out; have O8 := hide' o8; obtain ⟨c8, d8⟩ := twoX_cell T8; clear T8 tw8 o8)
          | (at_builtin; refine appAllB rfl (.tmp 49) (.tmp 56) rfl w4 _ _ rfl O8.out _ sp rfl (holdsB_mono PV.out (bt' P4.out.bel O8.out.2)) (by rw [List.length_append, List.length_append]; have := LEN.out; omega) ?_; intro v9 w9 o9; have O9 := hide' o9; clear o9))
        go_roundw
        case rel => exact ⟨j + 1, by omega, by go_num, by
          unfold Hid
          rw [NK.out, PK.out]
          have o := O9.out
          simp only [List.append_assoc] at o ⊢
          exact o⟩
        case measure => simp [intOf]; omega
      · have F : Hid (ps.take j = ps) := List.take_of_length_le (by rw [NPS.out]; omega)
        rw [F.out] at HO tf
        have LEN : Hid ((ps.flatMap (partB fs body)).length + h3.length ≤ 140737488355328) := by unfold Hid; omega
        clear tf NX PB' b1 PL H2 HP TF XC cL a2 a3
        obtain ⟨done, hdn⟩ : ∃ done, done = ps.flatMap (partB fs body) := ⟨_, rfl⟩
        rw [← hdn] at HO LEN
        have DN := hide' hdn
        clear hdn
        have cP := hide' (fun W => partialG s k R la n lc W)
        unfold parR at cP
        go_wp2_with (at_builtin; refine appTx rfl (.tmp 59) (.tmp 63) rfl w4 _ _ rfl HO.out h3 A5 E5.out rfl (by have := LEN.out; omega) ?_; intro v8 w8 o8 _; have O8 := hide' o8; have P8 := hide' (pb_below P4.out o8.2); obtain ⟨-, ⟨i0, i1, i2, i3, f0, f1, f2, f3, -⟩, -⟩ := id P8.out; clear o8)
        refine (cP.out _).mono ?_
        rintro e w9 ⟨rfl, b9⟩
        have O9 := hide' (own_mono O8.out b9)
        have P9 := pb_below P8.out b9
        have P10 := hide' (pb_box P9 (by decide) (.int .i64 206) (.string ⟨#[80, 97, 114, 116, 105, 97, 108, 32, 67, 111, 110, 116, 101, 110, 116]⟩) (.int .i64 k) (.slice la n lc))
        have z4 : w.heap.size + 1 < w4.heap.size := P4.out.q1.2.2.2.2.2.2.2.2
        have R10 := hide' (row_put (b := w.heap.size) (v0 := .int .i64 206) (v1 := .string ⟨#[80, 97, 114, 116, 105, 97, 108, 32, 67, 111, 110, 116, 101, 110, 116]⟩) (v2 := .int .i64 k) (v3 := .slice la n lc) O9.out.1 (by omega))
        unfold put4 at R10
        clear i0 i1 i2 i3 f0 f1 f2 f3 cP b9 P8 O8 O9 HO P4
        obtain ⟨-, ⟨i0, i1, i2, i3, f0, f1, f2, f3, -⟩, -⟩ := P9
        go_upto_region 16 with fail
        clear i0 i1 i2 i3 f0 f1 f2 f3
        obtain ⟨W4, hW4⟩ : ∃ W4, W4 = (((w9.setCell ⟨w.heap.size, 0, none⟩ (.int .i64 206)).setCell ⟨w.heap.size, 1, none⟩ (.string ⟨#[80, 97, 114, 116, 105, 97, 108, 32, 67, 111, 110, 116, 101, 110, 116]⟩)).setCell ⟨w.heap.size, 2, none⟩ (.int .i64 k)).setCell ⟨w.heap.size, 3, none⟩ (.slice la n lc) := ⟨_, rfl⟩
        rw [← hW4] at P10 R10 ⊢
        clear hW4
        obtain ⟨i0, i1, i2, i3⟩ := quad_blk P10.out.q0
        go_wp2_with fail
        refine (cW.out _ _ (bt' P10.out.bel (below_alloc' W4 _)) (holds_litA W4 CLb crU)).mono ?_
        rintro e w11 ⟨u6, rfl, ho⟩
        have bq := bt' (below_alloc' W4 (.cells #[S CLb, S crU] 9)) ho.2
        have P11 := hide' (pb_below P10.out bq)
        have R11 := hide' (row_below R10.out bq)
        obtain ⟨fa, fc, _, _, ef, -⟩ := holdsF_parts (holdsF_own ho)
        have H11 := hide' (holdsF_own ho)
        rw [ef] at H11 ⊢
        clear ho ef P10 R10 bq i0 i1 i2 i3 cW
        unfold ctU at cU
        go_wp2_with fail
        refine (cU.out _ _ H11.out).mono ?_
        rintro e w12 ⟨u8, rfl, ho⟩
        have hz := P11.out.q1.2.2.2.2.2.2.2.2
        have P12 := pb_below P11.out ho.2
        have R12 := row_below R11.out ho.2
        have F12 := rowF_baseR ho.1 (c := w.heap.size + 2) (by omega)
        obtain ⟨pa, pc, _, _, ef, -⟩ := holdsF_parts (holdsF_own ho)
        rw [ef] at F12 ⊢
        obtain ⟨fl, hfl⟩ : ∃ fl, fl = mm.length := ⟨_, rfl⟩
        have FL := hide' hfl.symm
        rw [FL.out] at F12 ⊢
        have P13 := pb_set3 P12 (by decide) (.slice pa fl pc)
        have PZ := pb_put P13 (by decide) (.int .i64 206) (.string ⟨#[80, 97, 114, 116, 105, 97, 108, 32, 67, 111, 110, 116, 101, 110, 116]⟩) (.int .i64 k) (.slice pa fl pc)
        have qF := row_put (b := w.heap.size + 1) (v0 := .int .i64 206) (v1 := .string ⟨#[80, 97, 114, 116, 105, 97, 108, 32, 67, 111, 110, 116, 101, 110, 116]⟩) (v2 := .int .i64 k) (v3 := .slice pa fl pc) (row_poke (o := 3) (x := .slice pa fl pc) F12 (show w.heap.size < w.heap.size + 2 by omega)) (by omega)
        have qB := row_put (b := w.heap.size + 1) (v0 := .int .i64 206) (v1 := .string ⟨#[80, 97, 114, 116, 105, 97, 108, 32, 67, 111, 110, 116, 101, 110, 116]⟩) (v2 := .int .i64 k) (v3 := .slice pa fl pc) (row_poke (o := 3) (x := .slice pa fl pc) R12 (show w.heap.size < w4.heap.size by omega)) (by omega)
        unfold put4 at qF qB
        have OZ := hide' (ownF_of FL.out qF (by omega) PZ.bel)
        have QB := hide' (ownB_of qB (by omega) PZ.bel)
        have QZ := hide' PZ.q1
        obtain ⟨-, ⟨i0, i1, i2, i3, f0, f1, f2, f3, -⟩, ⟨j0, j1, j2, j3, g0, g1, g2, g3, -⟩⟩ := P12
        clear ho ef hfl PZ qF qB P11 R11 H11 cU hz F12 R12 P13
        go_wp2_with fail
        obtain ⟨q0, q1, q2, q3, -⟩ := QZ.out
        exact bodyPost_ret (v := .tuple #[.agg #[.int .i64 206, .string ⟨#[80, 97, 114, 116, 105, 97, 108, 32, 67, 111, 110, 116, 101, 110, 116]⟩, .int .i64 k, .slice pa fl pc], v8]) (by simp [results, Tryz.results22, go_sem, q0, q1, q2, q3]) rfl ⟨_, _, rfl, OZ.out, by rw [← DN.out]; exact QB.out⟩
end Go.Proofs.YtipcmbonhkelbabGreatDoor
