/- The document's Encode of a good record, Op 2. -/
import Derived.Test.YtijnjgnckipghaaGreatRcG
namespace Go.Proofs.YtijnjgnckipghaaGreat
open Go.RowKit
set_option maxRecDepth 20000 in
set_option maxHeartbeats 4000000 in
theorem encG_2 (seq op no : Int) (id : List UInt8) (w : World) (ho : op = 2) (hs : 0 ≤ seq ∧ seq ≤ 4294967295) (hm : 0 ≤ no ∧ no ≤ 4294967295) (hl : id.length ≤ 4096) :
    Calls Tryz.prog 40 #[recV seq op no id] w fun e w' => ∃ u, e = .returned (.tuple #[u, .int .i64 0]) ∧ Own w u (recL op.toNat seq.toNat no.toNat id) w' := by
  have hsz : Hid ((⟨id.toArray⟩ : ByteArray).size = id.length) := size_l id
  unfold recV
  obtain ⟨B0, hB0⟩ : ∃ B0, B0 = w.alloc (.cells #[.int .i64 seq, .int .i64 op, .int .i64 no, .string ⟨id.toArray⟩] 53) := ⟨_, rfl⟩
  have Q0 := quad_lit w (.int .i64 seq) (.int .i64 op) (.int .i64 no) (.string ⟨id.toArray⟩) 53
  have L0 := below_alloc' w (.cells #[.int .i64 seq, .int .i64 op, .int .i64 no, .string ⟨id.toArray⟩] 53)
  have HB0 := hide' hB0
  rw [← hB0] at Q0 L0
  have LB := hide' L0
  have HQ := hide' Q0
  clear hB0 L0 Q0
  subst ho
  have d3 : decide (seq < 0) = false := by simpa using hs.1
  have d4 : decide (4294967295 < seq) = false := by simpa using hs.2
  have d5 : decide (no < 0) = false := by simpa using hm.1
  have d6 : decide (4294967295 < no) = false := by simpa using hm.2
  obtain ⟨n, hn⟩ : ∃ n, n = id.length := ⟨_, rfl⟩
  have SZ : (⟨id.toArray⟩ : ByteArray).size = n := by rw [hsz.out, hn]
  have d7 : decide (4096 < (n : Int)) = false := by simp; omega
  have hnl : n ≤ 4096 := by omega
  obtain ⟨s1, hs1⟩ : ∃ s1 : Nat, (s1 : Int) = seq := ⟨seq.toNat, by omega⟩
  obtain ⟨n1, hn1⟩ : ∃ n1 : Nat, (n1 : Int) = no := ⟨no.toNat, by omega⟩
  have SL : Hid (s1 < 4294967296 ∧ n1 < 4294967296) := by unfold Hid; omega
  have eL : Hid (recL (2 : Int).toNat seq.toNat no.toNat id = ((((([194]) ++ beN 2 n) ++ beN 4 s1) ++ beN 4 n1) ++ id) ++ beN 4 (sumOf ((((([194]) ++ beN 2 n) ++ beN 4 s1) ++ beN 4 n1) ++ id))) := by
    unfold Hid recL
    have e : recB (2 : Int).toNat seq.toNat no.toNat id = ((((([194]) ++ beN 2 n) ++ beN 4 s1) ++ beN 4 n1) ++ id) := by
      unfold recB
      rw [hn, show seq.toNat = s1 by omega, show no.toNat = n1 by omega, show UInt8.ofNat (192 + (2 : Int).toNat) = 194 from rfl]
      simp [List.append_assoc]
    rw [e]
  have l2 : Hid (([194] ++ beN 2 n).length = 3) := by unfold Hid; simp [beN_len]
  have l3 : Hid ((([194] ++ beN 2 n) ++ beN 4 s1).length = 7) := by unfold Hid; simp [beN_len]
  have l4 : Hid (((([194] ++ beN 2 n) ++ beN 4 s1) ++ beN 4 n1).length = 11) := by unfold Hid; simp [beN_len]
  have l5 : Hid ((((([194] ++ beN 2 n) ++ beN 4 s1) ++ beN 4 n1) ++ id).length = 11 + n) := by unfold Hid; simp [beN_len, hn]; omega
  have lid : Hid (id.length = n) := hn.symm
  have HS1 := hide' hs1.symm
  have HN1 := hide' hn1.symm
  obtain ⟨q0, q1, q2, q3, -, -, -, -, qz⟩ := HQ.out
  have OM := own_lit B0 194 194 (by decide)
  obtain ⟨B1, hB1⟩ : ∃ B1, B1 = B0.alloc (.cells #[.int .u8 194] 5) := ⟨_, rfl⟩
  rw [← hB1, show B0.heap.size = w.heap.size + 1 by rw [HB0.out]; simp] at OM
  obtain ⟨x0, x1, x2, x3, -, -, -, -, xz⟩ := quad_below HQ.out OM.2
  have O1 := hide' OM
  have HB1 := hide' hB1
  clear hB1 OM hn hs1 hn1 hs hm hl
  go_enter Tryz.func40, Tryz.ntmps40
  go_wp2_with fail
  rw [← HB0.out, ← HB1.out]
  refine (number2RC n B1 (by omega)).mono ?_
  rintro e w2 ⟨u2, rfl, hu2⟩
  have U2 := hide' (holdsB_own hu2)
  have P1 := hide' (own_mono O1.out hu2.2)
  clear hu2
  clear q0 q1 q2 q3 qz x0 x1 x2 x3 xz O1
  go_wp2_with (at_builtin; refine appAllB rfl (.tmp 42) (.tmp 46) rfl B0 _ [194] rfl P1.out u2 _ rfl U2.out (by rw [beN_len]; decide) ?_; intro v3 w3 ho3; obtain ⟨z0, z1, z2, z3, -, -, -, -, zz⟩ := quad_below HQ.out ho3.2; rw [HS1.out] at z0; have O3 := hide' ho3; clear ho3)
  refine (number4RC s1 w3 SL.out.1).mono ?_
  rintro e w4 ⟨u4, rfl, hu4⟩
  have U4 := hide' (holdsB_own hu4)
  have P3 := hide' (own_mono O3.out hu4.2)
  clear hu4 z0 z1 z2 z3 zz O3 U2 P1
  go_wp2_with (at_builtin; refine appAllB rfl (.tmp 48) (.tmp 51) rfl B0 _ _ rfl P3.out u4 _ rfl U4.out (by rw [l2.out, beN_len]; decide) ?_; intro v5 w5 ho5; obtain ⟨z0, z1, z2, z3, -, -, -, -, zz⟩ := quad_below HQ.out ho5.2; rw [HN1.out] at z2; have O5 := hide' ho5; clear ho5)
  refine (number4RC n1 w5 SL.out.2).mono ?_
  rintro e w6 ⟨u6, rfl, hu6⟩
  have U6 := hide' (holdsB_own hu6)
  have P5 := hide' (own_mono O5.out hu6.2)
  clear hu6 z0 z1 z2 z3 zz O5 U4 P3
  go_wp2_with (at_builtin; first
    | (refine appAllB rfl (.tmp 53) (.tmp 56) rfl B0 _ _ rfl P5.out u6 _ rfl U6.out (by rw [l3.out, beN_len]; decide) ?_; intro v7 w7 ho7; obtain ⟨z0, z1, z2, z3, -, -, -, -, zz⟩ := quad_below HQ.out ho7.2; obtain ⟨cv, cw, hcv, hch, hcb⟩ := conv_txt ⟨id.toArray⟩ w7; have CH := hide' hch; have P7 := hide' (own_mono ho7 hcb); clear ho7 hch hcb)
    | (refine appAllB rfl (.tmp 58) (.tmp 61) rfl B0 _ _ rfl P7.out cv _ rfl CH.out (by rw [l4.out]; show 11 + id.length ≤ _; rw [lid.out]; omega) ?_; intro v8 w8 ho8; have O8 := hide' ho8; have S8 := hide' (holdsB_own ho8); clear ho8))
  generalize ((((([194] : List UInt8) ++ beN 2 n) ++ beN 4 s1) ++ beN 4 n1) ++ id) = L5 at O8 S8 l5 eL
  clear z0 z1 z2 z3 zz hcv CH P7 U6 P5
  refine (sumRC v8 L5 w8 S8.out (by rw [l5.out]; omega)).mono ?_
  rintro e w9 ⟨rfl, ew⟩
  rw [ew]; clear ew w9
  go_wp2_with fail
  refine (number4RC (sumOf L5) w8 (sumOf_lt L5)).mono ?_
  rintro e w10 ⟨u10, rfl, hu10⟩
  have U10 := hide' (holdsB_own hu10)
  have P9 := hide' (own_mono O8.out hu10.2)
  clear hu10
  generalize sumOf L5 = sm at U10 eL ⊢
  go_wp2_with (at_builtin; refine appAllB rfl (.tmp 63) (.tmp 66) rfl B0 _ _ rfl P9.out u10 _ rfl U10.out (by rw [l5.out, beN_len]; omega) ?_; intro v11 w11 ho11; have O11 := hide' ho11; clear ho11)
  exact bodyPost_ret (v := .tuple #[v11, .int .i64 0]) (by simp [results, Tryz.results40, go_sem]) rfl ⟨v11, rfl, by rw [eL.out]; exact own_base O11.out LB.out⟩
theorem encRC (seq op no : Int) (id : List UInt8) (w : World) (hi : id.length ≤ 1000000000000000) :
    Calls Tryz.prog 40 #[recV seq op no id] w fun e w' => ∃ u, e = .returned (.tuple #[u, .int .i64 (encOf seq op no id).2]) ∧ Own w u (encOf seq op no id).1 w' := by
  by_cases ho : op = 1 ∨ op = 2
  · by_cases hs : 0 ≤ seq ∧ seq ≤ 4294967295
    · by_cases hm : 0 ≤ no ∧ no ≤ 4294967295
      · rw [enc_ok (decide_eq_true ho) (decide_eq_true hs) (decide_eq_true hm)]
        by_cases hl : id.length ≤ 4096
        · rw [if_pos hl]
          rcases ho with ho | ho
          · exact encG_1 seq op no id w ho hs hm hl
          · exact encG_2 seq op no id w ho hs hm hl
        · rw [if_neg hl]
          rcases ho with ho | ho
          · exact encB5_1 seq op no id w ho hs hm (by omega) hi
          · exact encB5_2 seq op no id w ho hs hm (by omega) hi
      · rw [enc_bad3 (decide_eq_false hm)]
        by_cases h0 : no < 0
        · rcases ho with ho | ho
          · exact encB3_1 seq op no id w ho hs h0
          · exact encB3_2 seq op no id w ho hs h0
        · rcases ho with ho | ho
          · exact encB4_1 seq op no id w ho hs (by omega) (by omega)
          · exact encB4_2 seq op no id w ho hs (by omega) (by omega)
    · rw [enc_bad2 (decide_eq_false hs)]
      by_cases h0 : seq < 0
      · rcases ho with ho | ho
        · exact encB1_1 seq op no id w ho h0
        · exact encB1_2 seq op no id w ho h0
      · rcases ho with ho | ho
        · exact encB2_1 seq op no id w ho (by omega) (by omega)
        · exact encB2_2 seq op no id w ho (by omega) (by omega)
  · rw [enc_bad1 (decide_eq_false ho)]
    exact encB0 seq op no id w ho
end Go.Proofs.YtijnjgnckipghaaGreat
