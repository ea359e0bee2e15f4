/- The walk of RangesPieces. -/
import Derived.Test.YtipcmbonhkelbaaGreatDoorLawRgS
import Derived.Test.YtipcmbonhkelbaaGreatDoorXc
import Derived.Test.YtipcmbonhkelbaaGreatDoorOpnI
import Derived.Deep.DeepCutAuto
namespace Go.Proofs.YtipcmbonhkelbaaGreatDoor
open Go.RowKit
def raC : List UInt8 := [82, 97, 110, 103, 101]
theorem bytB_low : lows bytB = bytB := by decide
/-- how many are asked for -/
def askN (z : Int) (L : Nat) : Nat := if z < 1 ∨ (L : Int) < z then 1 else z.toNat
theorem askN_in (z : Int) (L : Nat) (h : 0 < L) : 1 ≤ askN z L ∧ askN z L ≤ L := by
  unfold askN
  split <;> omega
theorem piece_next (body : List UInt8) (g m : Nat) : body.take g ++ (body.drop g).take m = body.take (g + m) := by
  rw [List.take_add]
/-- the text of a Range of two numbers, step by step -/
theorem two_text (a c : Nat) (ha : (a : Int) ≤ 9223372036854775807) (hc : (c : Int) ≤ 9223372036854775807) :
    ∃ X1 X2 A C : ByteArray, ∃ tx : List UInt8, tx = bytB ++ rgE a (Lib.decDigits c) ∧ tx.length ≤ 100
      ∧ (∀ W, Calls Tryz.prog 21 #[.int .i64 (a : Int)] W fun e w' => e = .returned (.string A) ∧ Below W.heap.size W w')
      ∧ (∀ W, Calls Tryz.prog 21 #[.int .i64 (c : Int)] W fun e w' => e = .returned (.string C) ∧ Below W.heap.size W w')
      ∧ (∀ W, (Op.stringOp .add ⟨#[98, 121, 116, 101, 115, 61]⟩ A).run Tryz.prog W = .ok (.string X1) W) ∧ (∀ W, (Op.stringOp .add X1 ⟨#[45]⟩).run Tryz.prog W = .ok (.string X2) W) ∧ (∀ W, (Op.stringOp .add X2 C).run Tryz.prog W = .ok (.string ⟨tx.toArray⟩) W) := by
  have ia := itoa_le (a : Int) (by omega) ha
  have ic := itoa_le (c : Int) (by omega) hc
  have et : bytB ++ Lib.itoa (a : Int) ++ [45] ++ Lib.itoa (c : Int) = bytB ++ rgE a (Lib.decDigits c) := by
    rw [itoa_nat, itoa_nat]
    unfold rgE
    simp
  have l6 : bytB.length = 6 := rfl
  refine ⟨⟨(bytB ++ Lib.itoa (a : Int)).toArray⟩, ⟨(bytB ++ Lib.itoa (a : Int) ++ [45]).toArray⟩, ⟨(Lib.itoa (a : Int)).toArray⟩, ⟨(Lib.itoa (c : Int)).toArray⟩, _, rfl, ?_, fun W => showInt (a : Int) (by omega) ha W, fun W => showInt (c : Int) (by omega) hc W, ?_, ?_, ?_⟩
  · rw [← et]
    simp only [List.length_append, List.length_cons, List.length_nil, l6]
    omega
  · intro W
    exact addLL bytB (Lib.itoa (a : Int)) W (by rw [l6]; omega)
  · intro W
    exact addLL (bytB ++ Lib.itoa (a : Int)) [45] W (by simp only [List.length_append, List.length_cons, List.length_nil, l6]; omega)
  · intro W
    rw [← et]
    exact addLL (bytB ++ Lib.itoa (a : Int) ++ [45]) (Lib.itoa (c : Int)) W (by simp only [List.length_append, List.length_cons, List.length_nil, l6]; omega)
theorem open_text (a : Nat) (ha : (a : Int) ≤ 9223372036854775807) :
    ∃ X1 A : ByteArray, ∃ tx : List UInt8, tx = bytB ++ rgE a [] ∧ tx.length ≤ 100
      ∧ (∀ W, Calls Tryz.prog 21 #[.int .i64 (a : Int)] W fun e w' => e = .returned (.string A) ∧ Below W.heap.size W w')
      ∧ (∀ W, (Op.stringOp .add ⟨#[98, 121, 116, 101, 115, 61]⟩ A).run Tryz.prog W = .ok (.string X1) W) ∧ (∀ W, (Op.stringOp .add X1 ⟨#[45]⟩).run Tryz.prog W = .ok (.string ⟨tx.toArray⟩) W) := by
  have ia := itoa_le (a : Int) (by omega) ha
  have et : bytB ++ Lib.itoa (a : Int) ++ [45] = bytB ++ rgE a [] := by
    rw [itoa_nat]
    unfold rgE
    simp
  have l6 : bytB.length = 6 := rfl
  refine ⟨⟨(bytB ++ Lib.itoa (a : Int)).toArray⟩, ⟨(Lib.itoa (a : Int)).toArray⟩, _, rfl, ?_, fun W => showInt (a : Int) (by omega) ha W, ?_, ?_⟩
  · rw [← et]
    simp only [List.length_append, List.length_cons, List.length_nil, l6]
    omega
  · intro W
    exact addLL bytB (Lib.itoa (a : Int)) W (by rw [l6]; omega)
  · intro W
    rw [← et]
    exact addLL (bytB ++ Lib.itoa (a : Int)) [45] W (by simp only [List.length_append, List.length_cons, List.length_nil, l6]; omega)
theorem own_sl {w0 w : World} {v : Value} {bs : List UInt8} (h : Own w0 v bs w) : ∃ a c, v = .slice a bs.length c := by
  obtain ⟨a, c, e, -⟩ := holdsB_own h
  exact ⟨a, c, e⟩
set_option maxHeartbeats 8000000 in
set_option maxRecDepth 20000 in
theorem piecesW (v : Value) (body : List UInt8) (nv : Value) (ns : List Int) (w : World) (hB : HoldsB w v body) (hI : HoldsI w nv ns) (hb : body.length ≤ 1048576) (hn : ns.length ≤ 1048576) (hr : ∀ z ∈ ns, -9223372036854775808 ≤ z ∧ z ≤ 9223372036854775807) (E : EvD w) (T : Tab w) :
    Calls Tryz.prog 7 #[v, nv] w fun e w' => e = .returned (.bool true) ∧ Below w.heap.size w w' := by
  have c0 := hide' (fun W (h : Below w.heap.size w W) => aliveRg dtF W (parseIs W (evD_below E h)) (applyIs W (evD_below E h) (tab_below T h)))
  have AI := hide' (applyIs w E T)
  obtain ⟨ba, bc, eb, _⟩ := id hB
  obtain ⟨ia, ic, ei, _, _, hic⟩ := hI
  subst eb ei
  have IC := hide' hic
  have HR := hide' hr
  have S0 := hide' (show RgSt w w [] [] [(.slice ba body.length bc, body)] from ⟨Below.refl _ _, fun p hp => (by cases hp), fun p hp => (by cases hp), fun p hp => (by obtain rfl := List.mem_singleton.1 hp; exact hB)⟩)
  clear hB hic hr E T
  by_cases q1 : 40 < ns.length
  · go_enter Tryz.func7, Tryz.ntmps7
    go_wp2_with fail
    refine (c0.out _ (Below.refl _ _)).mono ?_
    rintro e w1 ⟨rfl, b1⟩
    clear c0 AI IC HR
    go_wp2_with fail
    go_ret
    exact ⟨rfl, b1⟩
  have q2 : ns.length ≤ 40 := by omega
  have BE := hide' (fun W : World => below_alloc' W (.cells #[] 5))
  go_enter Tryz.func7, Tryz.ntmps7
  go_wp2_with fail
  refine (c0.out _ (Below.refl _ _)).mono ?_
  rintro e w1 ⟨rfl, b1⟩
  have S1 := hide' (gst_below S0.out b1)
  have OE := hide' (own_empty w1)
  clear b1 S0 c0
  go_wp2_with fail
  go_loopw [5, 6] (fun gv iv wr => ∃ i g : Nat, i ≤ ns.length ∧ iv = .int .i64 i ∧ g ≤ body.length ∧ Hid (Own w1 gv (body.take g) wr)) (fun _ iv _ => ns.length - (intOf iv).toNat)
  case atStart => exact ⟨0, 0, Nat.zero_le _, rfl, Nat.zero_le _, by unfold Hid; rw [List.take_zero]; exact OE.out⟩
  case round =>
    clear OE
    obtain ⟨i, g, hi, rfl, hg, HO⟩ := hrel
    obtain ⟨ga, gc, eg⟩ := own_sl HO.out
    rw [show (body.take g).length = g from by rw [List.length_take]; omega] at eg
    subst eg
    have SW := hide' (gst_below S1.out HO.out.2)
    by_cases hlt : i < ns.length
    · by_cases hgl : g < body.length
      · obtain ⟨zb, zo, hza, hzlt, hzc⟩ := IC.out (List.ne_nil_of_length_pos (by omega))
        subst hza
        have x1 := hzc i hlt
        rw [← SW.out.bel.cell (p := ⟨zb, zo + i, none⟩) hzlt] at x1
        have hzw := HR.out _ (List.getElem_mem hlt)
        generalize ns[i]'hlt = z at x1 hzw
        obtain ⟨n1, n2⟩ := askN_in z body.length (by omega)
        have NZ := hide' (show askN z body.length = if z < 1 ∨ (body.length : Int) < z then 1 else z.toNat from rfl)
        generalize askN z body.length = n at n1 n2 NZ
        clear hzc
        by_cases z1 : z < 1
        · have en := NZ.out
          rw [if_pos (.inl z1)] at en
          have nn : n = 1 := en
          clear NZ en
          have r0 := app_two dtF raC bytB (by decide) bytB_low 0 [] [] body g (g + n - 1) (by omega) (by omega) hgl
          obtain ⟨X1, X2, A, C, tx, htx, tl, kA, kC, e1, e2, e3⟩ := two_text g (g + n - 1) (by omega) (by omega)
          rw [← htx] at r0
          have RR := hide' r0
          have kA' := hide' kA
          have kC' := hide' kC
          rw [show ((g + n - 1 : Nat) : Int) = (g : Int) by omega] at kC'
          obtain ⟨ff, hff⟩ : ∃ ff, ff = putOf (withoutOf [] [clH]) crU (placeL g ((min (g + n - 1) (body.length - 1) : Nat) : Int) body.length) := ⟨_, rfl⟩
          rw [← hff] at RR
          obtain ⟨m, hm⟩ : ∃ m, m = min (g + n - 1) (body.length - 1) + 1 - g := ⟨_, rfl⟩
          rw [← hm] at RR
          have m1 : 1 ≤ m := by omega
          have m2 : (m : Int) ≤ 1 := by omega
          have m3 : g + m ≤ body.length := by omega
          have NX := hide' (piece_next body g m)
          obtain ⟨part, hpart⟩ : ∃ part, part = (body.drop g).take m := ⟨_, rfl⟩
          rw [← hpart] at RR NX
          have pm : part.length = m := by rw [hpart, List.length_take, List.length_drop]; omega
          have PM := hide' pm
          clear r0 kA kC hff htx hm hpart pm
          go_wp2_with fail
          refine (kA'.out _).mono ?_
          rintro e w2 ⟨rfl, b2⟩
          have S2 := hide' (gst_below SW.out b2)
          have O2 := hide' (own_mono HO.out b2)
          clear b2 SW HO kA'
          go_wp2_with fail
          refine (kC'.out _).mono ?_
          rintro e w3 ⟨rfl, b3⟩
          have S3 := gst_below S2.out b3
          have bl := below_alloc' w3 (.cells #[.string ⟨#[82, 97, 110, 103, 101]⟩, .string ⟨tx.toArray⟩] 46)
          have O4 := hide' (own_mono (own_mono O2.out b3) bl)
          obtain ⟨g3, hg3⟩ : ∃ g3, g3 = w3.heap.size := ⟨_, rfl⟩
          obtain ⟨W4, hW4⟩ : ∃ W4, W4 = w3.alloc (.cells #[.string ⟨#[82, 97, 110, 103, 101]⟩, .string ⟨tx.toArray⟩] 46) := ⟨_, rfl⟩
          have S4 := hide' (show RgSt w W4 [] [(.slice none 0 0, []), (.slice (some ⟨g3, 0, none⟩) 1 1, [(raC, tx)])] [(.slice ba body.length bc, body)] from by
            rw [hW4, hg3]
            exact gst_fld (gst_fld (gst_below S3 bl) (holdsF_lit1R w3 raC tx)) (holdsF_nilR _))
          rw [← hW4] at O4
          have HW := hide' hW4
          have HG := hide' hg3
          clear S2 O2 S3 b3 bl hW4 hg3 kC'
          go_upto_region 13 with fail
          rw [← HW.out, ← HG.out]
          clear HW HG e1 e2 e3
          go_wp2_with fail
          refine (copyB (.slice ba body.length bc) body _ (S4.out.byt (.slice ba body.length bc, body) (by simp)) (by omega)).mono ?_
          rintro e w5 ⟨u5, rfl, ho⟩
          obtain ⟨da, dc, ed⟩ := own_sl ho
          rw [ed] at ho ⊢
          have S5 := hide' (gst_byt (gst_below S4.out ho.2) (holdsB_own ho))
          have O5 := hide' (own_mono O4.out ho.2)
          clear ho ed S4 O4
          go_wp2_with fail
          refine (AI.out 200 0 [] (.slice (some ⟨g3, 0, none⟩) 1 1) (.slice none 0 0) (.slice da body.length dc) [(raC, tx)] [] body _ _ S5.out.bel (S5.out.fld (.slice (some ⟨g3, 0, none⟩) 1 1, [(raC, tx)]) (by simp)) (S5.out.fld (.slice none 0 0, []) (by simp)) (S5.out.byt (.slice da body.length dc, body) (by simp)) (by rw [show bulkF [(raC, tx)] = 5 + tx.length + 3 from rfl, show bulkF [] = 0 from rfl]; omega) (by decide) RR.out).mono ?_
          rintro e w6 ⟨u6, v6, rfl, h1, h2, b6⟩
          dsimp only at h1 h2 ⊢
          obtain ⟨p, q, _, _, ep, -⟩ := holdsF_parts h1
          obtain ⟨x, y, ey, -⟩ := id h2
          rw [PM.out] at ey
          subst ep ey
          unfold parR
          have S6 := gst_alloc (gst_byt (gst_below S5.out b6) h2) #[.int .i64 206, .string ⟨#[80, 97, 114, 116, 105, 97, 108, 32, 67, 111, 110, 116, 101, 110, 116]⟩, .int .i64 0, .slice p ff.length q] 31
          have O7 := own_mono (own_mono O5.out b6) (below_alloc' w6 (.cells #[.int .i64 206, .string ⟨#[80, 97, 114, 116, 105, 97, 108, 32, 67, 111, 110, 116, 101, 110, 116]⟩, .int .i64 0, .slice p ff.length q] 31))
          obtain ⟨g9, hg9⟩ : ∃ g9, g9 = w6.heap.size := ⟨_, rfl⟩
          obtain ⟨W7, hW7⟩ : ∃ W7, W7 = w6.alloc (.cells #[.int .i64 206, .string ⟨#[80, 97, 114, 116, 105, 97, 108, 32, 67, 111, 110, 116, 101, 110, 116]⟩, .int .i64 0, .slice p ff.length q] 31) := ⟨_, rfl⟩
          rw [← hW7, ← hg9] at S6
          rw [← hW7] at O7
          have S7 := hide' S6
          have O8 := hide' O7
          have HW := hide' hW7
          have HG := hide' hg9
          clear S5 O5 S6 O7 hW7 hg9 h1 h2 b6 RR
          go_upto_region 14 with fail
          rw [← HW.out, ← HG.out]
          clear HW HG AI
          obtain ⟨i0, i1, i2, i3, iz⟩ := blk4 (S7.out.blk _ List.mem_cons_self)
          have t1 : ((m : Int) == 0) = false := by rw [beq_eq_false_iff_ne]; omega
          have HY := hide' (S7.out.byt (.slice x m y, part) List.mem_cons_self)
          have LN : Hid ((body.take g).length + part.length ≤ 140737488355328) := by unfold Hid; rw [PM.out, List.length_take]; omega
          go_wp2_with (at_builtin; refine appAllB rfl (.tmp 81) (.tmp 82) rfl w1 _ _ rfl O8.out _ part rfl HY.out LN.out ?_; intro v9 w9 o9; have O9 := hide' o9; clear o9)
          go_roundw
          case rel => exact ⟨i + 1, g + m, by omega, by go_num, m3, by unfold Hid; rw [← NX.out]; exact O9.out⟩
          case measure => simp [intOf]; omega
        · by_cases z2 : (body.length : Int) < z
          · have en := NZ.out
            rw [if_pos (.inr z2)] at en
            have nn : n = 1 := en
            clear NZ en
            have r0 := app_two dtF raC bytB (by decide) bytB_low 0 [] [] body g (g + n - 1) (by omega) (by omega) hgl
            obtain ⟨X1, X2, A, C, tx, htx, tl, kA, kC, e1, e2, e3⟩ := two_text g (g + n - 1) (by omega) (by omega)
            rw [← htx] at r0
            have RR := hide' r0
            have kA' := hide' kA
            have kC' := hide' kC
            rw [show ((g + n - 1 : Nat) : Int) = (g : Int) by omega] at kC'
            obtain ⟨ff, hff⟩ : ∃ ff, ff = putOf (withoutOf [] [clH]) crU (placeL g ((min (g + n - 1) (body.length - 1) : Nat) : Int) body.length) := ⟨_, rfl⟩
            rw [← hff] at RR
            obtain ⟨m, hm⟩ : ∃ m, m = min (g + n - 1) (body.length - 1) + 1 - g := ⟨_, rfl⟩
            rw [← hm] at RR
            have m1 : 1 ≤ m := by omega
            have m2 : (m : Int) ≤ 1 := by omega
            have m3 : g + m ≤ body.length := by omega
            have NX := hide' (piece_next body g m)
            obtain ⟨part, hpart⟩ : ∃ part, part = (body.drop g).take m := ⟨_, rfl⟩
            rw [← hpart] at RR NX
            have pm : part.length = m := by rw [hpart, List.length_take, List.length_drop]; omega
            have PM := hide' pm
            clear r0 kA kC hff htx hm hpart pm
            go_wp2_with fail
            refine (kA'.out _).mono ?_
            rintro e w2 ⟨rfl, b2⟩
            have S2 := hide' (gst_below SW.out b2)
            have O2 := hide' (own_mono HO.out b2)
            clear b2 SW HO kA'
            go_wp2_with fail
            refine (kC'.out _).mono ?_
            rintro e w3 ⟨rfl, b3⟩
            have S3 := gst_below S2.out b3
            have bl := below_alloc' w3 (.cells #[.string ⟨#[82, 97, 110, 103, 101]⟩, .string ⟨tx.toArray⟩] 46)
            have O4 := hide' (own_mono (own_mono O2.out b3) bl)
            obtain ⟨g3, hg3⟩ : ∃ g3, g3 = w3.heap.size := ⟨_, rfl⟩
            obtain ⟨W4, hW4⟩ : ∃ W4, W4 = w3.alloc (.cells #[.string ⟨#[82, 97, 110, 103, 101]⟩, .string ⟨tx.toArray⟩] 46) := ⟨_, rfl⟩
            have S4 := hide' (show RgSt w W4 [] [(.slice none 0 0, []), (.slice (some ⟨g3, 0, none⟩) 1 1, [(raC, tx)])] [(.slice ba body.length bc, body)] from by
              rw [hW4, hg3]
              exact gst_fld (gst_fld (gst_below S3 bl) (holdsF_lit1R w3 raC tx)) (holdsF_nilR _))
            rw [← hW4] at O4
            have HW := hide' hW4
            have HG := hide' hg3
            clear S2 O2 S3 b3 bl hW4 hg3 kC'
            go_upto_region 13 with fail
            rw [← HW.out, ← HG.out]
            clear HW HG e1 e2 e3
            go_wp2_with fail
            refine (copyB (.slice ba body.length bc) body _ (S4.out.byt (.slice ba body.length bc, body) (by simp)) (by omega)).mono ?_
            rintro e w5 ⟨u5, rfl, ho⟩
            obtain ⟨da, dc, ed⟩ := own_sl ho
            rw [ed] at ho ⊢
            have S5 := hide' (gst_byt (gst_below S4.out ho.2) (holdsB_own ho))
            have O5 := hide' (own_mono O4.out ho.2)
            clear ho ed S4 O4
            go_wp2_with fail
            refine (AI.out 200 0 [] (.slice (some ⟨g3, 0, none⟩) 1 1) (.slice none 0 0) (.slice da body.length dc) [(raC, tx)] [] body _ _ S5.out.bel (S5.out.fld (.slice (some ⟨g3, 0, none⟩) 1 1, [(raC, tx)]) (by simp)) (S5.out.fld (.slice none 0 0, []) (by simp)) (S5.out.byt (.slice da body.length dc, body) (by simp)) (by rw [show bulkF [(raC, tx)] = 5 + tx.length + 3 from rfl, show bulkF [] = 0 from rfl]; omega) (by decide) RR.out).mono ?_
            rintro e w6 ⟨u6, v6, rfl, h1, h2, b6⟩
            dsimp only at h1 h2 ⊢
            obtain ⟨p, q, _, _, ep, -⟩ := holdsF_parts h1
            obtain ⟨x, y, ey, -⟩ := id h2
            rw [PM.out] at ey
            subst ep ey
            unfold parR
            have S6 := gst_alloc (gst_byt (gst_below S5.out b6) h2) #[.int .i64 206, .string ⟨#[80, 97, 114, 116, 105, 97, 108, 32, 67, 111, 110, 116, 101, 110, 116]⟩, .int .i64 0, .slice p ff.length q] 31
            have O7 := own_mono (own_mono O5.out b6) (below_alloc' w6 (.cells #[.int .i64 206, .string ⟨#[80, 97, 114, 116, 105, 97, 108, 32, 67, 111, 110, 116, 101, 110, 116]⟩, .int .i64 0, .slice p ff.length q] 31))
            obtain ⟨g9, hg9⟩ : ∃ g9, g9 = w6.heap.size := ⟨_, rfl⟩
            obtain ⟨W7, hW7⟩ : ∃ W7, W7 = w6.alloc (.cells #[.int .i64 206, .string ⟨#[80, 97, 114, 116, 105, 97, 108, 32, 67, 111, 110, 116, 101, 110, 116]⟩, .int .i64 0, .slice p ff.length q] 31) := ⟨_, rfl⟩
            rw [← hW7, ← hg9] at S6
            rw [← hW7] at O7
            have S7 := hide' S6
            have O8 := hide' O7
            have HW := hide' hW7
            have HG := hide' hg9
            clear S5 O5 S6 O7 hW7 hg9 h1 h2 b6 RR
            go_upto_region 14 with fail
            rw [← HW.out, ← HG.out]
            clear HW HG AI
            obtain ⟨i0, i1, i2, i3, iz⟩ := blk4 (S7.out.blk _ List.mem_cons_self)
            have t1 : ((m : Int) == 0) = false := by rw [beq_eq_false_iff_ne]; omega
            have HY := hide' (S7.out.byt (.slice x m y, part) List.mem_cons_self)
            have LN : Hid ((body.take g).length + part.length ≤ 140737488355328) := by unfold Hid; rw [PM.out, List.length_take]; omega
            go_wp2_with (at_builtin; refine appAllB rfl (.tmp 81) (.tmp 82) rfl w1 _ _ rfl O8.out _ part rfl HY.out LN.out ?_; intro v9 w9 o9; have O9 := hide' o9; clear o9)
            go_roundw
            case rel => exact ⟨i + 1, g + m, by omega, by go_num, m3, by unfold Hid; rw [← NX.out]; exact O9.out⟩
            case measure => simp [intOf]; omega
          · have en := NZ.out
            rw [if_neg (by rintro (h | h); exact z1 h; exact z2 h)] at en
            have nn : z = (n : Int) := by omega
            clear NZ en
            subst nn
            have r0 := app_two dtF raC bytB (by decide) bytB_low 0 [] [] body g (g + n - 1) (by omega) (by omega) hgl
            obtain ⟨X1, X2, A, C, tx, htx, tl, kA, kC, e1, e2, e3⟩ := two_text g (g + n - 1) (by omega) (by omega)
            rw [← htx] at r0
            have RR := hide' r0
            have kA' := hide' kA
            have kC' := hide' kC
            rw [show ((g + n - 1 : Nat) : Int) = (g : Int) + (n : Int) - 1 by omega] at kC'
            obtain ⟨ff, hff⟩ : ∃ ff, ff = putOf (withoutOf [] [clH]) crU (placeL g ((min (g + n - 1) (body.length - 1) : Nat) : Int) body.length) := ⟨_, rfl⟩
            rw [← hff] at RR
            obtain ⟨m, hm⟩ : ∃ m, m = min (g + n - 1) (body.length - 1) + 1 - g := ⟨_, rfl⟩
            rw [← hm] at RR
            have m1 : 1 ≤ m := by omega
            have m2 : (m : Int) ≤ (n : Int) := by omega
            have m3 : g + m ≤ body.length := by omega
            have NX := hide' (piece_next body g m)
            obtain ⟨part, hpart⟩ : ∃ part, part = (body.drop g).take m := ⟨_, rfl⟩
            rw [← hpart] at RR NX
            have pm : part.length = m := by rw [hpart, List.length_take, List.length_drop]; omega
            have PM := hide' pm
            clear r0 kA kC hff htx hm hpart pm
            go_wp2_with fail
            refine (kA'.out _).mono ?_
            rintro e w2 ⟨rfl, b2⟩
            have S2 := hide' (gst_below SW.out b2)
            have O2 := hide' (own_mono HO.out b2)
            clear b2 SW HO kA'
            go_wp2_with fail
            refine (kC'.out _).mono ?_
            rintro e w3 ⟨rfl, b3⟩
            have S3 := gst_below S2.out b3
            have bl := below_alloc' w3 (.cells #[.string ⟨#[82, 97, 110, 103, 101]⟩, .string ⟨tx.toArray⟩] 46)
            have O4 := hide' (own_mono (own_mono O2.out b3) bl)
            obtain ⟨g3, hg3⟩ : ∃ g3, g3 = w3.heap.size := ⟨_, rfl⟩
            obtain ⟨W4, hW4⟩ : ∃ W4, W4 = w3.alloc (.cells #[.string ⟨#[82, 97, 110, 103, 101]⟩, .string ⟨tx.toArray⟩] 46) := ⟨_, rfl⟩
            have S4 := hide' (show RgSt w W4 [] [(.slice none 0 0, []), (.slice (some ⟨g3, 0, none⟩) 1 1, [(raC, tx)])] [(.slice ba body.length bc, body)] from by
              rw [hW4, hg3]
              exact gst_fld (gst_fld (gst_below S3 bl) (holdsF_lit1R w3 raC tx)) (holdsF_nilR _))
            rw [← hW4] at O4
            have HW := hide' hW4
            have HG := hide' hg3
            clear S2 O2 S3 b3 bl hW4 hg3 kC'
            go_upto_region 13 with fail
            rw [← HW.out, ← HG.out]
            clear HW HG e1 e2 e3
            go_wp2_with fail
            refine (copyB (.slice ba body.length bc) body _ (S4.out.byt (.slice ba body.length bc, body) (by simp)) (by omega)).mono ?_
            rintro e w5 ⟨u5, rfl, ho⟩
            obtain ⟨da, dc, ed⟩ := own_sl ho
            rw [ed] at ho ⊢
            have S5 := hide' (gst_byt (gst_below S4.out ho.2) (holdsB_own ho))
            have O5 := hide' (own_mono O4.out ho.2)
            clear ho ed S4 O4
            go_wp2_with fail
            refine (AI.out 200 0 [] (.slice (some ⟨g3, 0, none⟩) 1 1) (.slice none 0 0) (.slice da body.length dc) [(raC, tx)] [] body _ _ S5.out.bel (S5.out.fld (.slice (some ⟨g3, 0, none⟩) 1 1, [(raC, tx)]) (by simp)) (S5.out.fld (.slice none 0 0, []) (by simp)) (S5.out.byt (.slice da body.length dc, body) (by simp)) (by rw [show bulkF [(raC, tx)] = 5 + tx.length + 3 from rfl, show bulkF [] = 0 from rfl]; omega) (by decide) RR.out).mono ?_
            rintro e w6 ⟨u6, v6, rfl, h1, h2, b6⟩
            dsimp only at h1 h2 ⊢
            obtain ⟨p, q, _, _, ep, -⟩ := holdsF_parts h1
            obtain ⟨x, y, ey, -⟩ := id h2
            rw [PM.out] at ey
            subst ep ey
            unfold parR
            have S6 := gst_alloc (gst_byt (gst_below S5.out b6) h2) #[.int .i64 206, .string ⟨#[80, 97, 114, 116, 105, 97, 108, 32, 67, 111, 110, 116, 101, 110, 116]⟩, .int .i64 0, .slice p ff.length q] 31
            have O7 := own_mono (own_mono O5.out b6) (below_alloc' w6 (.cells #[.int .i64 206, .string ⟨#[80, 97, 114, 116, 105, 97, 108, 32, 67, 111, 110, 116, 101, 110, 116]⟩, .int .i64 0, .slice p ff.length q] 31))
            obtain ⟨g9, hg9⟩ : ∃ g9, g9 = w6.heap.size := ⟨_, rfl⟩
            obtain ⟨W7, hW7⟩ : ∃ W7, W7 = w6.alloc (.cells #[.int .i64 206, .string ⟨#[80, 97, 114, 116, 105, 97, 108, 32, 67, 111, 110, 116, 101, 110, 116]⟩, .int .i64 0, .slice p ff.length q] 31) := ⟨_, rfl⟩
            rw [← hW7, ← hg9] at S6
            rw [← hW7] at O7
            have S7 := hide' S6
            have O8 := hide' O7
            have HW := hide' hW7
            have HG := hide' hg9
            clear S5 O5 S6 O7 hW7 hg9 h1 h2 b6 RR
            go_upto_region 14 with fail
            rw [← HW.out, ← HG.out]
            clear HW HG AI
            obtain ⟨i0, i1, i2, i3, iz⟩ := blk4 (S7.out.blk _ List.mem_cons_self)
            have t1 : ((m : Int) == 0) = false := by rw [beq_eq_false_iff_ne]; omega
            have HY := hide' (S7.out.byt (.slice x m y, part) List.mem_cons_self)
            have LN : Hid ((body.take g).length + part.length ≤ 140737488355328) := by unfold Hid; rw [PM.out, List.length_take]; omega
            go_wp2_with (at_builtin; refine appAllB rfl (.tmp 81) (.tmp 82) rfl w1 _ _ rfl O8.out _ part rfl HY.out LN.out ?_; intro v9 w9 o9; have O9 := hide' o9; clear o9)
            go_roundw
            case rel => exact ⟨i + 1, g + m, by omega, by go_num, m3, by unfold Hid; rw [← NX.out]; exact O9.out⟩
            case measure => simp [intOf]; omega
      · skip
        have TF : Hid (body.take g = body) := List.take_of_length_le (by omega)
        rw [TF.out] at HO
        have KB := hide' (fun (a b : Value) W (h1 : HoldsB W a body) (h2 : HoldsB W b body) => sameBe a b body W h1 h2 (by omega))
        clear AI IC HR
        go_wp2_with fail
        refine (KB.out _ _ _ (holdsB_own HO.out) (SW.out.byt (.slice ba body.length bc, body) (by simp))).mono ?_
        rintro e w2 ⟨rfl, b2⟩
        go_wp2_with fail
        go_ret
        exact ⟨rfl, bt' SW.out.bel b2⟩
    · by_cases hgl : g < body.length
      · skip
        have r0 := app_open dtF raC bytB (by decide) bytB_low 0 [] [] body g hgl (by omega)
        obtain ⟨X1, A, tx, htx, tl, kA, e1, e2⟩ := open_text g (by omega)
        rw [← htx] at r0
        have RR := hide' r0
        have kA' := hide' kA
        obtain ⟨ff, hff⟩ : ∃ ff, ff = putOf (withoutOf [] [clH]) crU (placeL g ((body.length : Int) - 1) body.length) := ⟨_, rfl⟩
        rw [← hff] at RR
        obtain ⟨part, hpart⟩ : ∃ part, part = body.drop g := ⟨_, rfl⟩
        rw [← hpart] at RR
        obtain ⟨m, hm⟩ : ∃ m, m = part.length := ⟨_, rfl⟩
        have PM : Hid (part.length = m) := hm.symm
        have ml : m ≤ 1048576 := by rw [hm, hpart, List.length_drop]; omega
        have NX := hide' (show body.take g ++ part = body from by rw [hpart]; exact List.take_append_drop _ _)
        have KB := hide' (fun (a b : Value) W (h1 : HoldsB W a body) (h2 : HoldsB W b body) => sameBe a b body W h1 h2 (by omega))
        clear r0 kA hff htx hpart hm IC HR
        go_wp2_with fail
        refine (kA'.out _).mono ?_
        rintro e w3 ⟨rfl, b3⟩
        have S3 := gst_below SW.out b3
        have bl := below_alloc' w3 (.cells #[.string ⟨#[82, 97, 110, 103, 101]⟩, .string ⟨tx.toArray⟩] 46)
        have O4 := hide' (own_mono (own_mono HO.out b3) bl)
        obtain ⟨g3, hg3⟩ : ∃ g3, g3 = w3.heap.size := ⟨_, rfl⟩
        obtain ⟨W4, hW4⟩ : ∃ W4, W4 = w3.alloc (.cells #[.string ⟨#[82, 97, 110, 103, 101]⟩, .string ⟨tx.toArray⟩] 46) := ⟨_, rfl⟩
        have S4 := hide' (show RgSt w W4 [] [(.slice none 0 0, []), (.slice (some ⟨g3, 0, none⟩) 1 1, [(raC, tx)])] [(.slice ba body.length bc, body)] from by
          rw [hW4, hg3]
          exact gst_fld (gst_fld (gst_below S3 bl) (holdsF_lit1R w3 raC tx)) (holdsF_nilR _))
        rw [← hW4] at O4
        have HW := hide' hW4
        have HG := hide' hg3
        clear S3 b3 bl hW4 hg3 kA' SW HO
        go_upto_region 19 with fail
        rw [← HW.out, ← HG.out]
        clear HW HG e1 e2
        go_wp2_with fail
        refine (copyB (.slice ba body.length bc) body _ (S4.out.byt (.slice ba body.length bc, body) (by simp)) (by omega)).mono ?_
        rintro e w5 ⟨u5, rfl, ho⟩
        obtain ⟨da, dc, ed⟩ := own_sl ho
        rw [ed] at ho ⊢
        have S5 := hide' (gst_byt (gst_below S4.out ho.2) (holdsB_own ho))
        have O5 := hide' (own_mono O4.out ho.2)
        clear ho ed S4 O4
        go_wp2_with fail
        refine (AI.out 200 0 [] (.slice (some ⟨g3, 0, none⟩) 1 1) (.slice none 0 0) (.slice da body.length dc) [(raC, tx)] [] body _ _ S5.out.bel (S5.out.fld (.slice (some ⟨g3, 0, none⟩) 1 1, [(raC, tx)]) (by simp)) (S5.out.fld (.slice none 0 0, []) (by simp)) (S5.out.byt (.slice da body.length dc, body) (by simp)) (by rw [show bulkF [(raC, tx)] = 5 + tx.length + 3 from rfl, show bulkF [] = 0 from rfl]; omega) (by decide) RR.out).mono ?_
        rintro e w6 ⟨u6, v6, rfl, h1, h2, b6⟩
        dsimp only at h1 h2 ⊢
        obtain ⟨p, q, _, _, ep, -⟩ := holdsF_parts h1
        obtain ⟨x, y, ey, -⟩ := id h2
        rw [PM.out] at ey
        subst ep ey
        unfold parR
        have S6 := gst_alloc (gst_byt (gst_below S5.out b6) h2) #[.int .i64 206, .string ⟨#[80, 97, 114, 116, 105, 97, 108, 32, 67, 111, 110, 116, 101, 110, 116]⟩, .int .i64 0, .slice p ff.length q] 31
        have O7 := own_mono (own_mono O5.out b6) (below_alloc' w6 (.cells #[.int .i64 206, .string ⟨#[80, 97, 114, 116, 105, 97, 108, 32, 67, 111, 110, 116, 101, 110, 116]⟩, .int .i64 0, .slice p ff.length q] 31))
        obtain ⟨g9, hg9⟩ : ∃ g9, g9 = w6.heap.size := ⟨_, rfl⟩
        obtain ⟨W7, hW7⟩ : ∃ W7, W7 = w6.alloc (.cells #[.int .i64 206, .string ⟨#[80, 97, 114, 116, 105, 97, 108, 32, 67, 111, 110, 116, 101, 110, 116]⟩, .int .i64 0, .slice p ff.length q] 31) := ⟨_, rfl⟩
        rw [← hW7, ← hg9] at S6
        rw [← hW7] at O7
        have S7 := hide' S6
        have O8 := hide' O7
        have HW := hide' hW7
        have HG := hide' hg9
        clear S5 O5 S6 O7 hW7 hg9 h1 h2 b6 RR
        go_upto_region 20 with fail
        rw [← HW.out, ← HG.out]
        clear HW HG AI
        have HY := hide' (S7.out.byt (.slice x m y, part) List.mem_cons_self)
        have LN : Hid ((body.take g).length + part.length ≤ 140737488355328) := by unfold Hid; rw [PM.out, List.length_take]; omega
        have HB0 := hide' (S7.out.byt (.slice ba body.length bc, body) (by simp))
        go_wp2_with (at_builtin; refine appAllB rfl (.tmp 104) (.tmp 105) rfl w1 _ _ rfl O8.out _ part rfl HY.out LN.out ?_; intro v9 w9 o9; rw [NX.out] at o9; have O9 := hide' o9; clear o9)
        have S9 := gst_below S1.out O9.out.2
        refine (KB.out _ _ _ (holdsB_own O9.out) (S9.byt (.slice ba body.length bc, body) (by simp))).mono ?_
        rintro e w10 ⟨rfl, b10⟩
        go_wp2_with fail
        go_ret
        exact ⟨rfl, bt' S9.bel b10⟩
      · skip
        have TF : Hid (body.take g = body) := List.take_of_length_le (by omega)
        rw [TF.out] at HO
        have KB := hide' (fun (a b : Value) W (h1 : HoldsB W a body) (h2 : HoldsB W b body) => sameBe a b body W h1 h2 (by omega))
        clear AI IC HR
        go_wp2_with fail
        refine (KB.out _ _ _ (holdsB_own HO.out) (SW.out.byt (.slice ba body.length bc, body) (by simp))).mono ?_
        rintro e w2 ⟨rfl, b2⟩
        go_wp2_with fail
        go_ret
        exact ⟨rfl, bt' SW.out.bel b2⟩
end Go.Proofs.YtipcmbonhkelbaaGreatDoor
