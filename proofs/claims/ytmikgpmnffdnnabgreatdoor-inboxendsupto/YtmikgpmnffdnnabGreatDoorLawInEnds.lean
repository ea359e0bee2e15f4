/- The walk of InboxEnds. -/
import Derived.Test.YtmikgpmnffdnnabGreatDoorInA
import Derived.Test.YtmikgpmnffdnnabGreatDoorIrT
import Derived.Test.YtmikgpmnffdnnabGreatDoorInL
namespace Go.Proofs.YtmikgpmnffdnnabGreatDoor
open Go.RowKit
namespace inboxEnds
set_option maxRecDepth 20000 in
set_option maxHeartbeats 8000000 in
theorem walk0 (v : Value) (bs : List UInt8) (me : List UInt8) (w : World) (hv : HoldsB w v bs) (hl : bs.length ≤ 1048576) (E : Env w) (R : Er w) :
    Calls Tryz.prog 3 #[v, .string ⟨me.toArray⟩] w fun e w' => e = .returned (.bool true) ∧ Below w.heap.size w w' := by
  have HV := hide' hv
  have EV := hide' E
  have RV := hide' R
  have c0 := hide' (aliveI w E R)
  obtain ⟨s1, s2, s3⟩ := msgR_size bs me false
  have HE := msgR_ends bs me
  have cF := hide' (fun W (u : Value) (hb : HoldsB W u bs) (hE : Env W) (hR : Er W) => msrC u bs me false W hb hE hR (by omega))
  have cT := hide' (fun W (u : Value) (hb : HoldsB W u bs) (hE : Env W) (hR : Er W) => msrC u bs me true W hb hE hR (by omega))
  have cC := hide' (fun W (u : Value) (hb : HoldsB W u bs) => copyB u bs W hb (by omega))
  generalize msgR bs me false = D at cF s1 s2 s3 HE
  generalize msgR bs me true = D' at cT HE
  obtain ⟨⟨s, r, k, fs⟩, bd, tl, n, ee⟩ := D
  obtain ⟨⟨s', r', k', fs'⟩, bd', tl', n', ee'⟩ := D'
  simp only at s1 s2 s3 HE
  have HEH := hide' HE
  obtain ⟨ao, cap, rfl, _⟩ := hv
  clear E R HE
  go_enter Tryz.func3, Tryz.ntmps3
  go_wp2_with fail
  refine c0.out.mono ?_
  rintro e w1 ⟨rfl, b1⟩
  have B1 := hide' b1
  clear c0 b1
  go_wp2_with fail
  refine (cC.out _ _ (holdsB_mono HV.out B1.out)).mono ?_
  rintro e w2 ⟨u2, rfl, ho2⟩
  have B2 := hide' (bt' B1.out ho2.2)
  have F2 := hide' (holdsB_own ho2)
  obtain ⟨ua, uc, hu, _⟩ := F2.out
  subst hu
  clear ho2 B1
  go_wp2_with fail
  refine (cF.out _ _ F2.out (env_below EV.out B2.out) (er_below RV.out B2.out)).mono ?_
  intro e w3 h
  obtain ⟨la1, lc1, ba1, bc1, ta1, tc1, rfl, G3, b3, _⟩ := ansR_open h
  simp only at G3 ⊢
  have b4 := below_alloc' w3 (.cells #[.string ⟨#[]⟩, .string ⟨#[]⟩, .int .i64 0, .slice none 0 0, .int .i64 s, .string ⟨r.toArray⟩, .int .i64 k, .slice la1 fs.length lc1, .slice ba1 bd.length bc1, .slice ta1 tl.length tc1] 30)
  have P4 := hide' (cells_lit w3 #[.string ⟨#[]⟩, .string ⟨#[]⟩, .int .i64 0, .slice none 0 0, .int .i64 s, .string ⟨r.toArray⟩, .int .i64 k, .slice la1 fs.length lc1, .slice ba1 bd.length bc1, .slice ta1 tl.length tc1] 30)
  have B4 := hide' (bt' (bt' B2.out b3) b4)
  have G4 := hide' (msgR_mono G3 b4)
  clear h G3 b3 b4 B2 F2 cF
  go_wp2_with fail
  refine (cC.out _ _ (holdsB_mono HV.out B4.out)).mono ?_
  rintro e w5 ⟨u5, rfl, ho5⟩
  have B5 := hide' (bt' B4.out ho5.2)
  have P5 := hide' (cells_below P4.out ho5.2)
  have G5 := hide' (msgR_mono G4.out ho5.2)
  have F5 := hide' (holdsB_own ho5)
  obtain ⟨xa, xc, hu, _⟩ := F5.out
  subst hu
  clear ho5 B4 P4 G4
  go_wp2_with fail
  refine (cT.out _ _ F5.out (env_below EV.out B5.out) (er_below RV.out B5.out)).mono ?_
  intro e w6 h
  obtain ⟨la2, lc2, ba2, bc2, ta2, tc2, rfl, K6, b6, _⟩ := ansR_open h
  simp only at K6 ⊢
  have b7 := below_alloc' w6 (.cells #[.string ⟨#[]⟩, .string ⟨#[]⟩, .int .i64 0, .slice none 0 0, .int .i64 s', .string ⟨r'.toArray⟩, .int .i64 k', .slice la2 fs'.length lc2, .slice ba2 bd'.length bc2, .slice ta2 tl'.length tc2] 30)
  have Q7 := hide' (cells_lit w6 #[.string ⟨#[]⟩, .string ⟨#[]⟩, .int .i64 0, .slice none 0 0, .int .i64 s', .string ⟨r'.toArray⟩, .int .i64 k', .slice la2 fs'.length lc2, .slice ba2 bd'.length bc2, .slice ta2 tl'.length tc2] 30)
  have P7 := hide' (cells_below (cells_below P5.out b6) b7)
  have B7 := hide' (bt' (bt' B5.out b6) b7)
  have G7 := hide' (msgR_mono G5.out (bt' b6 b7))
  have K7 := hide' (msgR_mono K6 b7)
  clear h K6 b6 b7 B5 P5 G5 F5 cT cC
  rcases HEH.out with ⟨h1, h2, h3⟩ | ⟨h1, h2, h3⟩ | ⟨h1, h2, h3⟩
  · simp only [Prod.mk.injEq, Rs.mk.injEq] at h2
    obtain ⟨⟨rfl, rfl, rfl, rfl⟩, rfl, rfl, rfl, rfl⟩ := h2
    subst h3
    have h1' : (ee' == 0) = false := by simpa using h1
    have h1'' : (ee' != 0) = true := by simpa using h1
    clear HEH
    go_wp2_with fail
    go_ret
    exact ⟨rfl, B7.out⟩
  · simp only [Prod.mk.injEq, Rs.mk.injEq] at h3
    obtain ⟨⟨rfl, rfl, rfl, rfl⟩, rfl, rfl, rfl, rfl⟩ := h3
    subst h1
    have h2' : (0 : Int) < (n' : Int) := by omega
    obtain ⟨⟨pc0, pc1, pc2, pc3, pc4, pc5, pc6, pc7, pc8, pc9⟩, _⟩ := cells_ten P7.out
    obtain ⟨⟨qc0, qc1, qc2, qc3, qc4, qc5, qc6, qc7, qc8, qc9⟩, _⟩ := cells_ten Q7.out
    clear HEH
    go_wp2_with fail
    refine (sameR G7.out K7.out s1 (by omega) s3).mono ?_
    rintro e w8 ⟨rfl, b8⟩
    have B8 := hide' (bt' B7.out b8)
    clear b8
    go_wp2_with fail
    go_ret
    exact ⟨rfl, B8.out⟩
  · subst h1 h2
    rcases h3 with ⟨h4, h5⟩ | ⟨h4, h5⟩
    · subst h4 h5
      clear HEH
      go_wp2_with fail
      go_ret
      exact ⟨rfl, B7.out⟩
    · subst h4 h5
      clear HEH
      go_wp2_with fail
      go_ret
      exact ⟨rfl, B7.out⟩
theorem walk (v : Value) (bs : List UInt8) (x : ByteArray) (w : World) (hv : HoldsB w v bs) (hl : bs.length ≤ 1048576) (E : Env w) (R : Er w) :
    Calls Tryz.prog 3 #[v, .string x] w fun e w' => e = .returned (.bool true) ∧ Below w.heap.size w w' := by
  have h := walk0 v bs x.data.toList w hv hl E R
  rw [ba_eta] at h
  exact h
end inboxEnds
end Go.Proofs.YtmikgpmnffdnnabGreatDoor
