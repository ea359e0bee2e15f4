/- The walk of InboxFirst. -/
import Derived.Test.YtmikgpmnffdnnaaGreatDoorInA
import Derived.Test.YtmikgpmnffdnnaaGreatDoorInL
namespace Go.Proofs.YtmikgpmnffdnnaaGreatDoor
open Go.RowKit
namespace inboxFirst
set_option maxRecDepth 20000 in
set_option maxHeartbeats 8000000 in
theorem walk (v v1 : Value) (bs ms : List UInt8) (w : World) (hv : HoldsB w v bs) (hv1 : HoldsB w v1 ms) (hl : bs.length ≤ 1048576) (hl1 : ms.length ≤ 1048576) (E : Env w) (R : Er w) :
    Calls Tryz.prog 8 #[v, v1] w fun e w' => e = .returned (.bool true) ∧ Below w.heap.size w w' := by
  have HV := hide' hv
  have HV1 := hide' hv1
  have EV := hide' E
  have RV := hide' R
  have c0 := hide' (aliveI w E R)
  obtain ⟨s1, s2, s3⟩ := msgQ_size bs
  have hbad := msgQ_bad bs
  have hown := msgQ_own bs
  have hgrow := msgQ_grow bs ms
  have cD := hide' (fun W (u : Value) (hb : HoldsB W u bs) (hE : Env W) (hR : Er W) => msgC u bs W hb hE hR (by omega))
  have cD2 := hide' (fun W (u : Value) (n : Nat) (hb : HoldsB W u (bs.take n)) (hE : Env W) (hR : Er W) => msgC u (bs.take n) W hb hE hR (by rw [List.length_take]; omega))
  have cD3 := hide' (fun W (u : Value) (hb : HoldsB W u (bs ++ ms)) (hE : Env W) (hR : Er W) => msgC u (bs ++ ms) W hb hE hR (by rw [List.length_append]; omega))
  have cC := hide' (fun W (u : Value) (cs : List UInt8) (hb : HoldsB W u cs) (h : cs.length ≤ 1048576) => copyB u cs W hb (by omega))
  generalize hX : msgQ bs = D at cD s1 s2 s3 hbad hown hgrow
  obtain ⟨⟨m, t, k, fs⟩, bd, tl, n, ee⟩ := D
  simp only at s1 s2 s3 hbad hown hgrow
  have HB := hide' hbad
  have HO := hide' hown
  have HG := hide' hgrow
  obtain ⟨ao, cap, rfl, _, hcp, _⟩ := hv
  obtain ⟨ao1, cap1, rfl, _⟩ := hv1
  clear E R hbad hown hgrow hX
  go_enter Tryz.func8, Tryz.ntmps8
  go_wp2_with fail
  refine c0.out.mono ?_
  rintro e w1 ⟨rfl, b1⟩
  have B1 := hide' b1
  clear c0 b1
  go_wp2_with fail
  refine (cC.out _ _ bs (holdsB_mono HV.out B1.out) hl).mono ?_
  rintro e w2 ⟨u2, rfl, ho2⟩
  have B2 := hide' (bt' B1.out ho2.2)
  have F2 := hide' (holdsB_own ho2)
  obtain ⟨ua, uc, hu, _⟩ := F2.out
  subst hu
  clear ho2 B1
  go_wp2_with fail
  refine (cD.out _ _ F2.out (env_below EV.out B2.out) (er_below RV.out B2.out)).mono ?_
  intro e w3 h
  obtain ⟨la1, lc1, ba1, bc1, ta1, tc1, rfl, G3, b3, _⟩ := ansQ_open h
  simp only at G3 ⊢
  have b4 := below_alloc' w3 (.cells #[.string ⟨m.toArray⟩, .string ⟨t.toArray⟩, .int .i64 k, .slice la1 fs.length lc1, .int .i64 0, .string ⟨#[]⟩, .int .i64 0, .slice none 0 0, .slice ba1 bd.length bc1, .slice ta1 tl.length tc1] 31)
  have P4 := hide' (cells_lit w3 #[.string ⟨m.toArray⟩, .string ⟨t.toArray⟩, .int .i64 k, .slice la1 fs.length lc1, .int .i64 0, .string ⟨#[]⟩, .int .i64 0, .slice none 0 0, .slice ba1 bd.length bc1, .slice ta1 tl.length tc1] 31)
  have B4 := hide' (bt' (bt' B2.out b3) b4)
  have G4 := hide' (msgQ_mono G3 b4)
  clear h G3 b3 b4 B2 F2 cD
  by_cases hc : ee ≠ 0 ∨ n = 0
  · have hx := HB.out hc
    simp only [Prod.mk.injEq, Rq.zero, Rq.mk.injEq] at hx
    obtain ⟨⟨rfl, rfl, rfl, rfl⟩, rfl, rfl, rfl, _⟩ := hx
    obtain ⟨⟨pc0, pc1, pc2, pc3, pc4, pc5, pc6, pc7, pc8, pc9⟩, _⟩ := cells_ten P4.out
    clear cD2 cD3 cC HB HO HG
    by_cases he : ee = 0
    · subst he
      go_wp2_with fail
      go_ret
      exact ⟨rfl, B4.out⟩
    · have he' : (ee == 0) = false := by simpa using he
      have he'' : (ee != 0) = true := by simpa using he
      go_wp2_with fail
      go_ret
      exact ⟨rfl, B4.out⟩
  · have hn : 0 < n := by omega
    have he : ee = 0 := by omega
    subst he
    obtain ⟨o1, _, o3⟩ := HO.out hn
    have g3 := HG.out (.inr hn)
    have hz : ((n : Int) == 0) = false := by simp; omega
    obtain ⟨pv, sl, HP⟩ := holdsB_take HV.out n o1
    obtain ⟨pa, pc, hpv, _⟩ := holdsB_parts HP
    rw [show (bs.take n).length = n by rw [List.length_take]; omega] at hpv
    subst hpv
    have HPP := hide' HP
    have k2 := hide' (cD2.out)
    have O3 := hide' o3
    have G3' := hide' g3
    have TN := hide' (show (bs.take n).length = n by rw [List.length_take]; omega)
    have tn : (bs.take n).length ≤ 1048576 := by rw [List.length_take]; omega
    have hN2 : ¬ (bs.length : Int) < (n : Int) := by omega
    clear hc HP o3 g3
    go_wp2_with fail
    refine (cC.out _ _ (bs.take n) (holdsB_mono HPP.out B4.out) tn).mono ?_
    rintro e w5 ⟨u5, rfl, ho5⟩
    have B5 := hide' (bt' B4.out ho5.2)
    have P5 := hide' (cells_below P4.out ho5.2)
    have G5 := hide' (msgQ_mono G4.out ho5.2)
    have F5 := hide' (holdsB_own ho5)
    obtain ⟨xa, xc, hu, _⟩ := F5.out
    rw [TN.out] at hu
    subst hu
    clear ho5 B4 P4 G4
    go_wp2_with fail
    refine (cD2.out _ _ n F5.out (env_below EV.out B5.out) (er_below RV.out B5.out)).mono ?_
    intro e w6 h
    rw [O3.out] at h
    obtain ⟨la2, lc2, ba2, bc2, ta2, tc2, rfl, K6, b6, _⟩ := ansQ_open h
    simp only at K6 ⊢
    have b7 := below_alloc' w6 (.cells #[.string ⟨m.toArray⟩, .string ⟨t.toArray⟩, .int .i64 k, .slice la2 fs.length lc2, .int .i64 0, .string ⟨#[]⟩, .int .i64 0, .slice none 0 0, .slice ba2 bd.length bc2, .slice ta2 tl.length tc2] 31)
    have Q7 := hide' (cells_lit w6 #[.string ⟨m.toArray⟩, .string ⟨t.toArray⟩, .int .i64 k, .slice la2 fs.length lc2, .int .i64 0, .string ⟨#[]⟩, .int .i64 0, .slice none 0 0, .slice ba2 bd.length bc2, .slice ta2 tl.length tc2] 31)
    have P7 := hide' (cells_below (cells_below P5.out b6) b7)
    have B7 := hide' (bt' (bt' B5.out b6) b7)
    have G7 := hide' (msgQ_mono G5.out (bt' b6 b7))
    have K7 := hide' (msgQ_mono K6 b7)
    clear h K6 b6 b7 B5 P5 G5 F5 k2 cD2 HPP sl
    go_wp2_with fail
    refine (cC.out _ _ bs (holdsB_mono HV.out B7.out) hl).mono ?_
    rintro e w8 ⟨u8, rfl, ho8⟩
    have B8 := hide' (bt' B7.out ho8.2)
    have P8 := hide' (cells_below P7.out ho8.2)
    have Q8 := hide' (cells_below Q7.out ho8.2)
    have G8 := hide' (msgQ_mono G7.out ho8.2)
    have K8 := hide' (msgQ_mono K7.out ho8.2)
    have O8 := hide' ho8
    clear ho8
    go_wp2_with (at_builtin; refine appAllB rfl (.tmp 58) (.tmp 59) rfl _ _ bs rfl O8.out _ ms rfl (holdsB_mono HV1.out B8.out) (by omega) ?_; intro v9 w9 hown9)
    have b9 := hown9.2
    have B9 := hide' (bt' B7.out b9)
    have P9 := hide' (cells_below P7.out b9)
    have Q9 := hide' (cells_below Q7.out b9)
    have G9 := hide' (msgQ_mono G7.out b9)
    have K9 := hide' (msgQ_mono K7.out b9)
    have F9 := hide' (holdsB_own hown9)
    obtain ⟨ya, yc, hu, _⟩ := F9.out
    rw [List.length_append] at hu
    subst hu
    clear b9 hown9 O8 B8 P8 Q8 G8 K8 B7 P7 Q7 G7 K7
    go_wp2_with fail
    refine (cD3.out _ _ F9.out (env_below EV.out B9.out) (er_below RV.out B9.out)).mono ?_
    intro e w10 h
    rw [G3'.out] at h
    obtain ⟨la3, lc3, ba3, bc3, ta3, tc3, rfl, L10, b10, _⟩ := ansQ_open h
    simp only at L10 ⊢
    have b11 := below_alloc' w10 (.cells #[.string ⟨m.toArray⟩, .string ⟨t.toArray⟩, .int .i64 k, .slice la3 fs.length lc3, .int .i64 0, .string ⟨#[]⟩, .int .i64 0, .slice none 0 0, .slice ba3 bd.length bc3, .slice ta3 tl.length tc3] 31)
    have R11 := hide' (cells_lit w10 #[.string ⟨m.toArray⟩, .string ⟨t.toArray⟩, .int .i64 k, .slice la3 fs.length lc3, .int .i64 0, .string ⟨#[]⟩, .int .i64 0, .slice none 0 0, .slice ba3 bd.length bc3, .slice ta3 tl.length tc3] 31)
    have P11 := hide' (cells_below (cells_below P9.out b10) b11)
    have Q11 := hide' (cells_below (cells_below Q9.out b10) b11)
    have B11 := hide' (bt' (bt' B9.out b10) b11)
    have G11 := hide' (msgQ_mono G9.out (bt' b10 b11))
    have K11 := hide' (msgQ_mono K9.out (bt' b10 b11))
    have L11 := hide' (msgQ_mono L10 b11)
    clear h L10 b10 b11 B9 P9 Q9 G9 K9 F9 cD3
    obtain ⟨⟨pc0, pc1, pc2, pc3, pc4, pc5, pc6, pc7, pc8, pc9⟩, _⟩ := cells_ten P11.out
    obtain ⟨⟨qc0, qc1, qc2, qc3, qc4, qc5, qc6, qc7, qc8, qc9⟩, _⟩ := cells_ten Q11.out
    go_wp2_with fail
    refine (sameQ K11.out G11.out s1 (by omega) s3).mono ?_
    rintro e w12 ⟨rfl, b12⟩
    have B12 := hide' (bt' B11.out b12)
    have P12 := hide' (cells_below P11.out b12)
    have R12 := hide' (cells_below R11.out b12)
    have G12 := hide' (msgQ_mono G11.out b12)
    have L12 := hide' (msgQ_mono L11.out b12)
    clear b12 B11 P11 Q11 R11 G11 K11 L11 pc0 pc1 pc2 pc3 pc4 pc5 pc6 pc7 pc8 pc9 qc0 qc1 qc2 qc3 qc4 qc5 qc6 qc7 qc8 qc9
    obtain ⟨⟨pc0, pc1, pc2, pc3, pc4, pc5, pc6, pc7, pc8, pc9⟩, _⟩ := cells_ten P12.out
    obtain ⟨⟨rc0, rc1, rc2, rc3, rc4, rc5, rc6, rc7, rc8, rc9⟩, _⟩ := cells_ten R12.out
    go_wp2_with fail
    refine (sameQ L12.out G12.out s1 (by omega) s3).mono ?_
    rintro e w13 ⟨rfl, b13⟩
    have B13 := hide' (bt' B12.out b13)
    clear b13 B12
    go_wp2_with fail
    go_ret
    exact ⟨rfl, B13.out⟩
end inboxFirst
end Go.Proofs.YtmikgpmnffdnnaaGreatDoor
