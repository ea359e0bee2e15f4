/- The walk of RangesSingle. -/
import Derived.Test.YtipcmbonhkelbaaGreatDoorLawRgS
import Derived.Test.YtipcmbonhkelbaaGreatDoorXc
namespace Go.Proofs.YtipcmbonhkelbaaGreatDoor
open Go.RowKit
def bytU : List UInt8 := [66, 121, 116, 101, 115, 61]
theorem bytU_low : lows bytU = bytB := by decide
theorem addL2 (a b : List UInt8) (W : World) (h : a.length + b.length ≤ 1073741824) : (Op.stringOp .add ⟨a.toArray⟩ ⟨b.toArray⟩).run Tryz.prog W = .ok (.string ⟨(a ++ b).toArray⟩) W := addLL a b W h
theorem clW : lows [67, 111, 110, 116, 101, 110, 116, 45, 76, 101, 110, 103, 116, 104] = lows clH := by decide
set_option maxHeartbeats 8000000 in
set_option maxRecDepth 20000 in
theorem singleW (v : Value) (body : List UInt8) (first last : Int) (lv : Value) (fs : FL) (w : World) (hB : HoldsB w v body) (hv : HoldsF w lv fs) (hb : bulkF fs + body.length ≤ 1048576) (E : EvD w) (T : Tab w) :
    Calls Tryz.prog 6 #[v, .int .i64 first, .int .i64 last, lv] w fun e w' => e = .returned (.bool true) ∧ Below w.heap.size w w' := by
  have fl := bulkF_len fs
  have c0 := hide' (fun W (h : Below w.heap.size w W) => aliveRg dtF W (parseIs W (evD_below E h)) (applyIs W (evD_below E h) (tab_below T h)))
  have AI := hide' (applyIs w E T)
  obtain ⟨la, lc, _, _, el, -⟩ := holdsF_parts hv
  obtain ⟨ba, bc, eb, _⟩ := id hB
  subst el eb
  have S0 := hide' (show RgSt w w [] [(.slice la fs.length lc, fs)] [(.slice ba body.length bc, body)] from ⟨Below.refl _ _, fun p hp => (by cases hp), fun p hp => (by obtain rfl := List.mem_singleton.1 hp; exact hv), fun p hp => (by obtain rfl := List.mem_singleton.1 hp; exact hB)⟩)
  by_cases q1 : first < 0
  · clear E T hv hB fl AI
    go_enter Tryz.func6, Tryz.ntmps6
    go_wp2_with fail
    refine (c0.out _ (Below.refl _ _)).mono ?_
    rintro e w1 ⟨rfl, b1⟩
    go_wp2_with fail
    go_ret
    exact ⟨rfl, b1⟩
  by_cases q2 : last < first
  · clear E T hv hB fl AI
    go_enter Tryz.func6, Tryz.ntmps6
    go_wp2_with fail
    refine (c0.out _ (Below.refl _ _)).mono ?_
    rintro e w1 ⟨rfl, b1⟩
    go_wp2_with fail
    go_ret
    exact ⟨rfl, b1⟩
  by_cases q3 : (body.length : Int) ≤ last
  · clear E T hv hB fl AI
    go_enter Tryz.func6, Tryz.ntmps6
    go_wp2_with fail
    refine (c0.out _ (Below.refl _ _)).mono ?_
    rintro e w1 ⟨rfl, b1⟩
    go_wp2_with fail
    go_ret
    exact ⟨rfl, b1⟩
  obtain ⟨a, rfl⟩ : ∃ a : Nat, first = a := ⟨first.toNat, by omega⟩
  obtain ⟨c, rfl⟩ : ∃ c : Nat, last = c := ⟨last.toNat, by omega⟩
  have hac : a ≤ c := by omega
  have hcb : c < body.length := by omega
  have r0 := app_two dtF [114, 97, 110, 103, 101] bytU (by decide) bytU_low 1 [] fs body a c hac (by omega) (by omega)
  rw [show min c (body.length - 1) = c by omega] at r0
  have RR := hide' r0
  have ia := itoa_le (a : Int) (by omega) (by omega)
  have ic := itoa_le (c : Int) (by omega) (by omega)
  have il := itoa_le (body.length : Int) (by omega) (by omega)
  have kA := hide' (fun W => showInt (a : Int) (by omega) (by omega) W)
  have kC := hide' (fun W => showInt (c : Int) (by omega) (by omega) W)
  have kL := hide' (fun W => showInt (body.length : Int) (by omega) (by omega) W)
  -- the Range's text
  have e1 := fun W => addLL bytU (Lib.itoa (a : Int)) W (by rw [show bytU.length = 6 from rfl]; omega)
  have e2 := fun W => addLL (bytU ++ Lib.itoa (a : Int)) [45] W (by rw [List.length_append, show bytU.length = 6 from rfl]; simp only [List.length_cons, List.length_nil]; omega)
  have e3 := fun W => addLL (bytU ++ Lib.itoa (a : Int) ++ [45]) (Lib.itoa (c : Int)) W (by simp only [List.length_append, List.length_cons, List.length_nil, show bytU.length = 6 from rfl]; omega)
  have f1 := fun W => addLL [98, 121, 116, 101, 115, 32] (Lib.itoa (a : Int)) W (by simp only [List.length_cons, List.length_nil]; omega)
  have f2 := fun W => addLL ([98, 121, 116, 101, 115, 32] ++ Lib.itoa (a : Int)) [45] W (by simp only [List.length_append, List.length_cons, List.length_nil]; omega)
  have f3 := fun W => addLL ([98, 121, 116, 101, 115, 32] ++ Lib.itoa (a : Int) ++ [45]) (Lib.itoa (c : Int)) W (by simp only [List.length_append, List.length_cons, List.length_nil]; omega)
  have f4 := fun W => addLL ([98, 121, 116, 101, 115, 32] ++ Lib.itoa (a : Int) ++ [45] ++ Lib.itoa (c : Int)) [47] W (by simp only [List.length_append, List.length_cons, List.length_nil]; omega)
  have f5 := fun W => addLL ([98, 121, 116, 101, 115, 32] ++ Lib.itoa (a : Int) ++ [45] ++ Lib.itoa (c : Int) ++ [47]) (Lib.itoa (body.length : Int)) W (by simp only [List.length_append, List.length_cons, List.length_nil]; omega)
  rw [show [98, 121, 116, 101, 115, 32] ++ Lib.itoa (a : Int) ++ [45] ++ Lib.itoa (c : Int) ++ [47] ++ Lib.itoa (body.length : Int) = placeL a c body.length from rfl] at f5
  have pl := place_len (a : Int) (c : Int) (body.length : Int) (by omega) (by omega) (by omega) (by omega) (by omega) (by omega)
  have et : bytU ++ Lib.itoa (a : Int) ++ [45] ++ Lib.itoa (c : Int) = bytU ++ rgE a (Lib.decDigits c) := by
    rw [itoa_nat, itoa_nat]
    unfold rgE
    simp
  rw [et] at e3
  have tl : (bytU ++ rgE a (Lib.decDigits c)).length ≤ 100 := by
    rw [← et]
    simp only [List.length_append, List.length_cons, List.length_nil, show bytU.length = 6 from rfl]
    omega
  obtain ⟨pp1, pp2, pp3⟩ := put_place fs (placeL a c body.length)
  have PP1 := hide' pp1
  have PP2 := hide' pp2
  have PP3 := hide' pp3
  have hpb := bulkF_putR (withoutOf fs [clH]) crU (placeL a c body.length)
  have hwb : bulkF (withoutOf fs [clH]) ≤ bulkF fs := bulkF_filter _ _
  rw [show crU.length = 13 from rfl] at hpb
  have hfb : bulkF (putOf (withoutOf fs [clH]) crU (placeL a c body.length)) ≤ 1100000 := by omega
  have hfl := bulkF_len (putOf (withoutOf fs [clH]) crU (placeL a c body.length))
  obtain ⟨pv, hsl, hpv⟩ := midB hB a (c + 1) (by omega) (by omega)
  rw [show ((c + 1 : Nat) : Int) = (c : Int) + 1 by omega] at hsl
  obtain ⟨va, vn, vc, ev⟩ : ∃ va vn vc, pv = .slice va vn vc := by
    obtain ⟨k1, k2, e, _⟩ := id hpv
    exact ⟨k1, _, k2, e⟩
  subst ev
  have PV := hide' hpv
  have hw1 : IntKind.i64.wrap ((c : Int) + 1) = (c : Int) + 1 := by rw [IntKind.wrap_i64]; omega
  obtain ⟨tx, htx⟩ : ∃ tx, tx = bytU ++ rgE a (Lib.decDigits c) := ⟨_, rfl⟩
  rw [← htx] at e3 RR tl
  obtain ⟨ff, hff⟩ : ∃ ff, ff = putOf (withoutOf fs [clH]) crU (placeL a c body.length) := ⟨_, rfl⟩
  rw [← hff] at RR PP1 PP2 PP3 hfb hfl
  obtain ⟨part, hpart⟩ : ∃ part, part = (body.drop a).take (c + 1 - a) := ⟨_, rfl⟩
  rw [← hpart] at RR PV
  have hpl : part.length ≤ 1048576 := by rw [hpart, List.length_take, List.length_drop]; omega
  have FFT := hide' (show Fit ff from fun f hf => by have := bulkF_mem ff f hf; omega)
  have kV := hide' (fun u W (h : HoldsF W u ff) => valuesTok u ff [67, 111, 110, 116, 101, 110, 116, 45, 76, 101, 110, 103, 116, 104] W h FFT.out (by decide) (by omega))
  rw [vals_low2 ff clW, PP3.out] at kV
  clear hpb hwb et htx hff hpart ia ic il hB hv E T pp1 pp2 pp3 hpv r0
  unfold bytU at e1 e2 e3
  obtain ⟨A, eA⟩ : ∃ A : ByteArray, A = ⟨(Lib.itoa (a : Int)).toArray⟩ := ⟨_, rfl⟩
  obtain ⟨C, eC⟩ : ∃ C : ByteArray, C = ⟨(Lib.itoa (c : Int)).toArray⟩ := ⟨_, rfl⟩
  obtain ⟨L, eL⟩ : ∃ L : ByteArray, L = ⟨(Lib.itoa (body.length : Int)).toArray⟩ := ⟨_, rfl⟩
  obtain ⟨X1, h1⟩ : ∃ X1 : ByteArray, X1 = ⟨([66, 121, 116, 101, 115, 61] ++ Lib.itoa (a : Int)).toArray⟩ := ⟨_, rfl⟩
  obtain ⟨X2, h2⟩ : ∃ X2 : ByteArray, X2 = ⟨([66, 121, 116, 101, 115, 61] ++ Lib.itoa (a : Int) ++ [45]).toArray⟩ := ⟨_, rfl⟩
  obtain ⟨Y1, g1⟩ : ∃ Y1 : ByteArray, Y1 = ⟨([98, 121, 116, 101, 115, 32] ++ Lib.itoa (a : Int)).toArray⟩ := ⟨_, rfl⟩
  obtain ⟨Y2, g2⟩ : ∃ Y2 : ByteArray, Y2 = ⟨([98, 121, 116, 101, 115, 32] ++ Lib.itoa (a : Int) ++ [45]).toArray⟩ := ⟨_, rfl⟩
  obtain ⟨Y3, g3⟩ : ∃ Y3 : ByteArray, Y3 = ⟨([98, 121, 116, 101, 115, 32] ++ Lib.itoa (a : Int) ++ [45] ++ Lib.itoa (c : Int)).toArray⟩ := ⟨_, rfl⟩
  obtain ⟨Y4, g4⟩ : ∃ Y4 : ByteArray, Y4 = ⟨([98, 121, 116, 101, 115, 32] ++ Lib.itoa (a : Int) ++ [45] ++ Lib.itoa (c : Int) ++ [47]).toArray⟩ := ⟨_, rfl⟩
  obtain ⟨PX, gP⟩ : ∃ PX : ByteArray, PX = ⟨(placeL a c body.length).toArray⟩ := ⟨_, rfl⟩
  rw [← eA] at e1 f1 kA
  rw [← eC] at e3 f3 kC
  rw [← eL] at f5 kL
  rw [← h1] at e1 e2
  rw [← h2] at e2 e3
  rw [← g1] at f1 f2
  rw [← g2] at f2 f3
  rw [← g3] at f3 f4
  rw [← g4] at f4 f5
  rw [← gP] at f5
  rw [show (⟨([66, 121, 116, 101, 115, 61] : List UInt8).toArray⟩ : ByteArray) = ⟨#[66, 121, 116, 101, 115, 61]⟩ from rfl] at e1
  rw [show (⟨([45] : List UInt8).toArray⟩ : ByteArray) = ⟨#[45]⟩ from rfl] at e2 f2
  rw [show (⟨([47] : List UInt8).toArray⟩ : ByteArray) = ⟨#[47]⟩ from rfl] at f4
  rw [show (⟨([98, 121, 116, 101, 115, 32] : List UInt8).toArray⟩ : ByteArray) = ⟨#[98, 121, 116, 101, 115, 32]⟩ from rfl] at f1
  have GP := hide' gP
  clear eA eC eL h1 h2 g1 g2 g3 g4 gP
  go_enter Tryz.func6, Tryz.ntmps6
  go_wp2_with fail
  refine (c0.out _ (Below.refl _ _)).mono ?_
  rintro e w1 ⟨rfl, b1⟩
  have S1 := hide' (gst_below S0.out b1)
  clear b1 S0 c0
  go_wp2_with fail
  refine (kA.out _).mono ?_
  rintro e w2 ⟨rfl, b2⟩
  have S2 := hide' (gst_below S1.out b2)
  clear b2 S1
  go_wp2_with fail
  refine (kC.out _).mono ?_
  rintro e w3 ⟨rfl, b3⟩
  have S3 := hide' (gst_below S2.out b3)
  clear b3 S2
  obtain ⟨g3, hg3⟩ : ∃ g3, g3 = w3.heap.size := ⟨_, rfl⟩
  obtain ⟨W4, hW4⟩ : ∃ W4, W4 = w3.alloc (.cells #[.string ⟨#[114, 97, 110, 103, 101]⟩, .string ⟨tx.toArray⟩] 46) := ⟨_, rfl⟩
  have S4 := hide' (show RgSt w W4 [] [(.slice (some ⟨g3, 0, none⟩) 1 1, [([114, 97, 110, 103, 101], tx)]), (.slice la fs.length lc, fs)] [(.slice ba body.length bc, body)] from by
    rw [hW4, hg3]
    exact gst_fld (gst_below S3.out (below_alloc' w3 (.cells #[.string ⟨#[114, 97, 110, 103, 101]⟩, .string ⟨tx.toArray⟩] 46))) (holdsF_lit1R w3 [114, 97, 110, 103, 101] tx))
  have HW := hide' hW4
  have HG := hide' hg3
  clear S3 hW4 hg3
  go_upto_region 6 with fail
  rw [← HW.out, ← HG.out]
  go_wp2_with fail
  refine (gst_copyF S4.out (u := .slice la fs.length lc) (xs := fs) (by simp) (by omega)).mono ?_
  rintro e w5 ⟨oa, oc, rfl, S5⟩
  clear S4 HW HG
  go_wp2_with fail
  refine (gst_copyB S5.out (v := .slice ba body.length bc) (bs := body) (by simp) (by omega)).mono ?_
  rintro e w6 ⟨da, dc, rfl, S6⟩
  clear S5
  go_wp2_with fail
  refine (gst_apply AI.out S6.out (a := .slice (some ⟨g3, 0, none⟩) 1 1) (u := .slice oa fs.length oc) (v := .slice da body.length dc) (ask := [([114, 97, 110, 103, 101], tx)]) (fs := fs) (body := body) (by simp) (by simp) (by simp) 200 1 [] (by simp only [bulkF, List.length_cons, List.length_nil]; omega) (by decide) _ RR.out).mono ?_
  rintro e w7 ⟨p, q, x, y, rfl, S7⟩
  dsimp only at S7 ⊢
  unfold parR
  have S8 := gst_alloc (gst_byt S7.out (holdsB_mono PV.out S7.out.bel)) #[.int .i64 206, .string ⟨#[80, 97, 114, 116, 105, 97, 108, 32, 67, 111, 110, 116, 101, 110, 116]⟩, .int .i64 1, .slice p ff.length q] 31
  obtain ⟨g9, hg9⟩ : ∃ g9, g9 = w7.heap.size := ⟨_, rfl⟩
  obtain ⟨W8, hW8⟩ : ∃ W8, W8 = w7.alloc (.cells #[.int .i64 206, .string ⟨#[80, 97, 114, 116, 105, 97, 108, 32, 67, 111, 110, 116, 101, 110, 116]⟩, .int .i64 1, .slice p ff.length q] 31) := ⟨_, rfl⟩
  rw [← hW8, ← hg9] at S8
  have S9 := hide' S8
  have HW := hide' hW8
  have HG := hide' hg9
  clear S6 S7 S8 hW8 hg9 RR AI e1 e2 e3
  go_upto_region 7 with fail
  rw [← HW.out, ← HG.out]
  clear HW HG
  obtain ⟨i0, i1, i2, i3, iz⟩ := blk4 (S9.out.blk _ List.mem_cons_self)
  have cG := gst_get S9.out (u := .slice p ff.length q) (xs := ff) (by simp) (by omega) [67, 111, 110, 116, 101, 110, 116, 45, 82, 97, 110, 103, 101] crU (by decide) rfl
  rw [PP1.out, PP2.out, ← GP.out] at cG
  replace cG := hide' cG
  go_wp2_with fail
  refine cG.out.mono ?_
  rintro e w10 ⟨rfl, S10⟩
  clear cG S9 i0 i1 i2 i3 iz PP1 PP2
  obtain ⟨i0, i1, i2, i3, iz⟩ := blk4 (S10.out.blk _ List.mem_cons_self)
  go_wp2_with fail
  refine (kA.out _).mono ?_
  rintro e w11 ⟨rfl, b⟩
  have S11 := hide' (gst_below S10.out b)
  clear b S10 i0 i1 i2 i3 iz
  go_wp2_with fail
  refine (kC.out _).mono ?_
  rintro e w12 ⟨rfl, b⟩
  have S12 := hide' (gst_below S11.out b)
  clear b S11
  go_wp2_with fail
  refine (kL.out _).mono ?_
  rintro e w13 ⟨rfl, b⟩
  have S13 := hide' (gst_below S12.out b)
  clear b S12
  go_wp2_with fail
  refine (gst_sameB S13.out (u := .slice x part.length y) (v := .slice va vn vc) (xs := part) (by simp) List.mem_cons_self (by omega)).mono ?_
  rintro e w14 ⟨rfl, S14⟩
  clear S13
  obtain ⟨i0, i1, i2, i3, iz⟩ := blk4 (S14.out.blk _ List.mem_cons_self)
  go_wp2_with fail
  refine (kV.out _ _ (S14.out.fld (.slice p ff.length q, ff) (by simp))).mono ?_
  rintro e w15 ⟨u15, rfl, ho⟩
  have S15 := hide' (gst_below S14.out ho.2)
  obtain ⟨ea, ec, ev, -⟩ := holds_own ho
  rw [show ([] : List (List UInt8)).length = 0 from rfl] at ev
  subst ev
  clear ho S14 i0 i1 i2 i3 iz kV
  go_wp2_with fail
  go_ret
  exact ⟨by simp, S15.out.bel⟩
end Go.Proofs.YtipcmbonhkelbaaGreatDoor
