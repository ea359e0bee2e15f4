/- The walk of HeadResponses. -/
import Derived.Test.YtbbaajlabpjnlaaGreatDoorHdU
import Derived.Test.YtbbaajlabpjnlaaGreatDoorBf
import Derived.Test.YtbbaajlabpjnlaaGreatDoorFdA
namespace Go.Proofs.YtbbaajlabpjnlaaGreatDoor
open Go.RowKit
namespace headResponses
def aliveR : List UInt8 := [72, 84, 84, 80, 47, 49, 46, 49, 32, 50, 48, 48, 13, 10, 13, 10]
theorem aliveR_s : (respOf aliveR).1.s = 200 := by decide +kernel
theorem aliveR_r : (respOf aliveR).1.r = [] := by decide +kernel
theorem aliveR_k : (respOf aliveR).1.k = 1 := by decide +kernel
theorem aliveR_f : (respOf aliveR).1.fs = [] := by decide +kernel
theorem aliveR_n : (respOf aliveR).2 = (16, 0) := by decide +kernel
set_option maxRecDepth 20000 in
theorem markR (W : World) : Sem.run Tryz.prog (convert 22 22 (.slice (some ⟨W.heap.size, 0, none⟩) 16 16)) (W.alloc (.cells #[.int .u8 72, .int .u8 84, .int .u8 84, .int .u8 80, .int .u8 47, .int .u8 49, .int .u8 46, .int .u8 49, .int .u8 32, .int .u8 50, .int .u8 48, .int .u8 48, .int .u8 13, .int .u8 10, .int .u8 13, .int .u8 10] 5)) = .ok (.slice (some ⟨W.heap.size, 0, none⟩) 16 16) (W.alloc (.cells #[.int .u8 72, .int .u8 84, .int .u8 84, .int .u8 80, .int .u8 47, .int .u8 49, .int .u8 46, .int .u8 49, .int .u8 32, .int .u8 50, .int .u8 48, .int .u8 48, .int .u8 13, .int .u8 10, .int .u8 13, .int .u8 10] 5 (16, 17))) :=
  Lib.run_convert_bytes_const W 22 5 #[.int .u8 72, .int .u8 84, .int .u8 84, .int .u8 80, .int .u8 47, .int .u8 49, .int .u8 46, .int .u8 49, .int .u8 32, .int .u8 50, .int .u8 48, .int .u8 48, .int .u8 13, .int .u8 10, .int .u8 13, .int .u8 10] 16 16 Tryz.underlying22 Tryz.underlying5
set_option maxRecDepth 20000 in
theorem aliveR_at (j : Nat) (hj : j < aliveR.length) : (#[.int .u8 72, .int .u8 84, .int .u8 84, .int .u8 80, .int .u8 47, .int .u8 49, .int .u8 46, .int .u8 49, .int .u8 32, .int .u8 50, .int .u8 48, .int .u8 48, .int .u8 13, .int .u8 10, .int .u8 13, .int .u8 10] : Array Value)[0 + j]? = some (B aliveR[j]) := by
  rw [show (#[.int .u8 72, .int .u8 84, .int .u8 84, .int .u8 80, .int .u8 47, .int .u8 49, .int .u8 46, .int .u8 49, .int .u8 32, .int .u8 50, .int .u8 48, .int .u8 48, .int .u8 13, .int .u8 10, .int .u8 13, .int .u8 10] : Array Value) = (aliveR.map B).toArray from rfl, Nat.zero_add]
  simp [hj]
set_option maxRecDepth 20000 in
theorem aliveR_holds (W : World) : HoldsB (W.alloc (.cells #[.int .u8 72, .int .u8 84, .int .u8 84, .int .u8 80, .int .u8 47, .int .u8 49, .int .u8 46, .int .u8 49, .int .u8 32, .int .u8 50, .int .u8 48, .int .u8 48, .int .u8 13, .int .u8 10, .int .u8 13, .int .u8 10] 5 (16, 17))) (.slice (some ⟨W.heap.size, 0, none⟩) 16 16) aliveR := by
  refine ⟨_, 16, rfl, (fun e => by cases e), Nat.le_refl _, fun _ => ⟨W.heap.size, 0, rfl, by simp, fun j hj => ?_⟩⟩
  rw [World.cell?_alloc_mark]
  exact aliveR_at j hj
theorem rs_len (b : List UInt8) : (respOf b).1.fs.length ≤ 100 ∧ (respOf b).2.1 ≤ 8192 := by
  by_cases h0 : (endOf b 0).1 = 0
  · rw [resp_none b h0]; exact ⟨by simp [Rs.zero], by simp⟩
  · obtain ⟨i, hi, he, hc, hl⟩ := end_facts b _ h0
    rw [resp_some b (0 + i + 4) (by omega) he]
    unfold respG
    split
    · exact ⟨by simp [Rs.zero], by simp⟩
    · split
      · exact ⟨by simp [Rs.zero], by simp⟩
      · exact ⟨parse_len _, hc⟩
theorem holdsB_row {w : World} {base : Nat} {v : Value} {bs : List UInt8} (h : w.ownsRow base 5 1 v bs.length (bs.map B)) : HoldsB w v bs := by
  obtain ⟨hl, h1 | ⟨g, cap, cur, rfl, hg, hh, hr⟩⟩ := h
  · obtain ⟨rfl, hn⟩ := h1
    obtain rfl : bs = [] := List.eq_nil_of_length_eq_zero hn
    exact ⟨none, 0, rfl, fun _ => rfl, Nat.le_refl _, fun h => absurd rfl h⟩
  · have h' : w.ownsRow base 5 1 (.slice (some ⟨g, 0, none⟩) bs.length cap) bs.length (bs.map B) := ⟨hl, .inr ⟨g, cap, cur, rfl, hg, hh, hr⟩⟩
    refine ⟨_, cap, rfl, fun e => (by cases e), hr.1, fun _ => ⟨g, 0, rfl, (h'.lt g rfl).2, fun j hj => ?_⟩⟩
    rw [Nat.zero_add, h'.cellAt j (by omega)]
    simp [hj]
set_option maxRecDepth 20000 in
set_option maxHeartbeats 8000000 in
theorem walk (v : Value) (bs : List UInt8) (w : World) (hv : HoldsB w v bs) (hl : bs.length ≤ 1048576) (E : Env w) :
    Calls Tryz.prog 3 #[v] w fun e w' => e = .returned (.bool true) ∧ Below w.heap.size w w' := by
  have HV := hide' hv
  have EV := hide' E
  have k0 := markR w
  have b0 := below_alloc' w (.cells #[.int .u8 72, .int .u8 84, .int .u8 84, .int .u8 80, .int .u8 47, .int .u8 49, .int .u8 46, .int .u8 49, .int .u8 32, .int .u8 50, .int .u8 48, .int .u8 48, .int .u8 13, .int .u8 10, .int .u8 13, .int .u8 10] 5 (16, 17))
  have c0 := respC _ aliveR _ (aliveR_holds w) (env_below E b0) (by decide)
  unfold respV rsV at c0
  rw [aliveR_s, aliveR_r, aliveR_k, aliveR_n, aliveR_f] at c0
  have C0 := hide' c0
  have B0 := hide' b0
  have fl := rs_len bs
  have ml : mks.length = 8 := rfl
  have cR := hide' (fun W (u : Value) (hb : HoldsB W u bs) (hE : Env W) => respC u bs W hb hE (by omega))
  have cD := hide' (fun W (u : Value) (hb : HoldsB W u bs) => refResp u bs W hb (by omega))
  unfold respV rsV at cR cD
  generalize respOf bs = R at cR cD fl
  obtain ⟨⟨qs, qr, qk, fs⟩, N, ee⟩ := R
  simp only at cR cD fl
  obtain ⟨fl1, fl2⟩ := fl
  obtain ⟨ao, cap, rfl, _⟩ := hv
  clear E c0 b0
  go_enter Tryz.func3, Tryz.ntmps3
  go_wp2_with fail
  refine C0.out.mono ?_
  rintro e w1 ⟨lv1, rfl, ho1⟩
  have B1 := hide' (bt' B0.out ho1.2)
  obtain ⟨la1, lc1, lb1, lo1, hlv1, _⟩ := holdsF_parts (holdsF_own ho1)
  subst hlv1
  clear ho1 k0 C0 B0
  have b2 := below_alloc' w1 (.cells #[.int .i64 200, .string ⟨#[]⟩, .int .i64 1, .slice la1 0 lc1] 25)
  have B2 := hide' (bt' B1.out b2)
  have Q2 := hide' (quad_lit w1 (.int .i64 200) (.string ⟨#[]⟩) (.int .i64 1) (.slice la1 0 lc1) 25)
  have L1 := hide' B1.out.size
  clear b2
  go_wp2_with fail
  refine (spareC _ bs _ (holdsB_mono HV.out B2.out) (by omega)).mono ?_
  rintro e w3 ⟨u3, rfl, ho3⟩
  have B3 := hide' (bt' B2.out ho3.2)
  have Q3 := hide' (quad_below Q2.out ho3.2)
  have R3 := hide' ho3.1
  obtain ⟨fb, fc, rfl, hfc, hF⟩ := own_front ho3 (by decide)
  rw [List.length_append, ml] at R3
  rw [ml] at hfc ⊢
  have HF := hide' hF
  clear ho3 hF Q2
  go_wp2_with fail
  refine (cR.out _ _ HF.out (env_below EV.out B3.out)).mono ?_
  rintro e w4 ⟨lv4, rfl, ho4⟩
  have B4 := hide' (bt' B3.out ho4.2)
  have Q4 := hide' (quad_below Q3.out ho4.2)
  have R4 := hide' (row_below R3.out ho4.2)
  have S4 := hide' ho4.1
  have Z4 := hide' B3.out.size
  obtain ⟨la, lc, lb, lo, hlv, _⟩ := holdsF_parts (holdsF_own ho4)
  subst hlv
  have hg3 : w1.heap.size < w3.heap.size := Q3.out.2.2.2.2.2.2.2.2
  have HG3 := hide' hg3
  clear ho4 R3 Q3 HF hg3
  obtain ⟨h0, h1, h2, h3, e0, e1, e2, e3, hz⟩ := Q4.out
  have Q5 := hide' (quad_put Q4.out (.int .i64 qs) (.string ⟨qr.toArray⟩) (.int .i64 qk) (.slice la fs.length lc))
  have B5 := hide' (put4_below B4.out B1.out.size (.int .i64 qs) (.string ⟨qr.toArray⟩) (.int .i64 qk) (.slice la fs.length lc))
  have R5 := hide' (row_put (v0 := .int .i64 qs) (v1 := .string ⟨qr.toArray⟩) (v2 := .int .i64 qk) (v3 := .slice la fs.length lc) R4.out (b := w1.heap.size) (by simp))
  have S5 := hide' (row_put (v0 := .int .i64 qs) (v1 := .string ⟨qr.toArray⟩) (v2 := .int .i64 qk) (v3 := .slice la fs.length lc) S4.out (b := w1.heap.size) HG3.out)
  obtain ⟨W5, hW5⟩ : ∃ W5, W5 = put4 w1.heap.size w4 (.int .i64 qs) (.string ⟨qr.toArray⟩) (.int .i64 qk) (.slice la fs.length lc) := ⟨_, rfl⟩
  rw [← hW5] at Q5 B5 R5 S5
  have HW5 := hide' hW5
  have HW5' : Hid (W5 = (((w4.setCell ⟨w1.heap.size, 0, none⟩ (.int .i64 qs)).setCell ⟨w1.heap.size, 1, none⟩ (.string ⟨qr.toArray⟩)).setCell ⟨w1.heap.size, 2, none⟩ (.int .i64 qk)).setCell ⟨w1.heap.size, 3, none⟩ (.slice la fs.length lc)) := hW5
  clear hW5 R4 S4 Q4
  go_wp2_with fail
  rw [← HW5'.out]
  refine (cD.out _ _ (holdsB_mono HV.out B5.out)).mono ?_
  clear h0 h1 h2 h3 e0 e1 e2 e3 hz
  rintro e w6 ⟨lv6, rfl, ho6⟩
  have B6 := hide' (bt' B5.out ho6.2)
  have Q6 := hide' (quad_below Q5.out ho6.2)
  have R6 := hide' (row_below R5.out ho6.2)
  have F6 := hide' (holdsF_mono (holdsF_row S5.out) ho6.2)
  have G6 := hide' (holdsF_own ho6)
  obtain ⟨ma, mc, mb, mo, hmv, _⟩ := holdsF_parts G6.out
  subst hmv
  clear ho6 R5 S5 Q5 B5
  have b7 := below_alloc' w6 (.cells #[.int .i64 qs, .string ⟨qr.toArray⟩, .int .i64 qk, .slice ma fs.length mc] 25)
  have B7 := hide' (bt' B6.out b7)
  have Q7 := hide' (quad_below Q6.out b7)
  have P7 := hide' (quad_lit w6 (.int .i64 qs) (.string ⟨qr.toArray⟩) (.int .i64 qk) (.slice ma fs.length mc) 25)
  have R7 := hide' (row_below R6.out b7)
  have F7 := hide' (holdsF_mono F6.out b7)
  have G7 := hide' (holdsF_mono G6.out b7)
  clear b7 R6 F6 G6 Q6
  obtain ⟨i0, i1, i2, i3, _⟩ := Q7.out
  obtain ⟨j0, j1, j2, j3, _⟩ := P7.out
  go_wp2_with fail
  refine (sameRs _ _ _ fs _ _ _ F7.out G7.out (by omega)).mono ?_
  rintro e w8 ⟨rfl, b8⟩
  have B8 := hide' (bt' B7.out b8)
  have R8 := hide' (row_below R7.out b8)
  clear b8 i0 i1 i2 i3 j0 j1 j2 j3
  go_wp2_with fail
  refine (spareC _ bs _ (holdsB_mono HV.out B8.out) (by omega)).mono ?_
  rintro e w9 ⟨u9, rfl, ho9⟩
  have B9 := hide' (bt' B8.out ho9.2)
  have R9 := hide' (row_below R8.out ho9.2)
  have G9 := hide' (holdsB_own ho9)
  clear ho9
  have hR9 : HoldsB w9 (.slice (some ⟨fb, 0, none⟩) (bs.length + 8) fc) (bs ++ mks) := holdsB_row (by have := R9.out; rw [List.length_append, ml]; exact this)
  have HR9 := hide' hR9
  clear hR9
  go_wp2_with fail
  refine (sameBe _ _ (bs ++ mks) _ HR9.out G9.out (by rw [List.length_append, ml]; omega)).mono ?_
  rintro e w10 ⟨rfl, b10⟩
  have B10 := hide' (bt' B9.out b10)
  clear b10
  go_wp2_with fail
  go_ret
  exact ⟨rfl, B10.out⟩
end headResponses
end Go.Proofs.YtbbaajlabpjnlaaGreatDoor
