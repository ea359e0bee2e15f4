/- The walk of ChunkGrows. -/
import Derived.Test.YtobkmepamgdccaaGreatDoorChAl
import Derived.Test.YtobkmepamgdccaaGreatDoorLawChDecodes
import Derived.Test.YtobkmepamgdccaaGreatDoorBf
namespace Go.Proofs.YtobkmepamgdccaaGreatDoor
open Go.RowKit
namespace chunkGrows
/-- what is told of some bytes, and of them with more behind -/
theorem grow_facts (b m : List UInt8) : (decOf b = ([], [], 0, 0)) ∨ (decOf (b ++ m) = decOf b ∧ (decOf b).2.2.2 ≠ 0 ∧ (decOf b).1 = [] ∧ (decOf b).2.2.1 = 0) ∨
    (decOf (b ++ m) = decOf b ∧ (decOf b).2.2.2 = 0 ∧ 0 < (decOf b).2.2.1 ∧ (decOf b).2.2.1 ≤ b.length ∧ decOf (b.take (decOf b).2.2.1) = decOf b) := by
  by_cases h : (decOf b).2.2.2 ≠ 0 ∨ 0 < (decOf b).2.2.1
  · right
    have ha : decOf (b ++ m) = decOf b := dec_app (b.length + 1) b m [] 0 ((b ++ m).length + 1) (Nat.lt_succ_self _) (Nat.lt_succ_self _) h
    by_cases h2 : (decOf b).2.2.2 ≠ 0
    · left
      have hz := dec_bad (b.length + 1) b [] 0 h2
      exact ⟨ha, h2, (dec_zero (b.length + 1) b [] 0 hz).1, hz⟩
    · right
      have h3 : 0 < (decOf b).2.2.1 := h.resolve_left h2
      obtain ⟨j, e1, _, e3, e4, _⟩ := dec_own (b.length + 1) b [] 0 (Nat.lt_succ_self _) h3
      have e1' : (decOf b).2.2.1 = j := by rw [← Nat.zero_add j]; exact e1
      refine ⟨ha, by simpa using h2, h3, by omega, ?_⟩
      rw [e1']
      exact e4 _ (Nat.lt_succ_self _)
  · left
    have h1 : (decOf b).2.2.2 = 0 := Classical.byContradiction (fun q => h (.inl q))
    have h2 : (decOf b).2.2.1 = 0 := by
      rcases Nat.eq_zero_or_pos (decOf b).2.2.1 with q | q
      · exact q
      · exact absurd (.inr q) h
    obtain ⟨h3, h4⟩ := dec_zero (b.length + 1) b [] 0 h2
    have h3' : (decOf b).1 = [] := h3
    have h4' : (decOf b).2.1 = [] := h4
    have e : decOf b = ((decOf b).1, (decOf b).2.1, (decOf b).2.2.1, (decOf b).2.2.2) := rfl
    rw [e, h1, h2, h3', h4']
set_option maxRecDepth 20000 in
set_option maxHeartbeats 8000000 in
theorem walk (v : Value) (bs : List UInt8) (mv : Value) (ms : List UInt8) (w : World) (hv : HoldsB w v bs) (hm : HoldsB w mv ms) (hl : bs.length ≤ 1048576) (hml : ms.length ≤ 1048576) (E : Env w) (R : Er w) (_Z : Bru w) :
    Calls Tryz.prog 6 #[v, mv] w fun e w' => e = .returned (.bool true) ∧ Below w.heap.size w w' := by
  have HV := hide' hv
  have HM := hide' hm
  have EV := hide' E
  have RV := hide' R
  have c0 := hide' (aliveChC w E R)
  have pl := dec_fs bs
  have ol := dec_out bs
  have key := grow_facts bs ms
  have cD := fun W (u : Value) (hb : HoldsB W u bs) (hE : Env W) (hR : Er W) => decC u bs W hb hE hR (by omega)
  have cA := fun W (u : Value) (hb : HoldsB W u (bs ++ ms)) (hE : Env W) (hR : Er W) => decC u (bs ++ ms) W hb hE hR (by rw [List.length_append]; omega)
  have cT := fun W (u : Value) (hb : HoldsB W u (bs.take (decOf bs).2.2.1)) (hE : Env W) (hR : Er W) => decC u (bs.take (decOf bs).2.2.1) W hb hE hR (by rw [List.length_take]; omega)
  have HTK := hide' (fun k (hk : k ≤ bs.length) => holdsB_take hv k hk)
  have cC := hide' (fun W (u : Value) (x : List UInt8) (hx : HoldsB W u x) (hxl : x.length ≤ 1048576) => copyB u x W hx (by omega))
  have ol2 := dec_out (bs ++ ms)
  have pl2 := dec_fs (bs ++ ms)
  unfold decV at cD cA cT
  generalize decOf (bs ++ ms) = DA at cA key ol2 pl2
  generalize decOf bs = DD at cD cT key pl ol
  obtain ⟨d, fs, n, ee⟩ := DD
  obtain ⟨da, fa, na, ea⟩ := DA
  simp only at cD cA cT key pl ol ol2 pl2
  obtain ⟨ao, cap, rfl, _⟩ := hv
  obtain ⟨ma, mc, rfl, _⟩ := hm
  have CD := hide' cD
  have CA := hide' cA
  have CT := hide' cT
  have KEY := hide' key
  clear E R cD cA cT key
  go_enter Tryz.func6, Tryz.ntmps6
  go_wp2_with fail
  refine c0.out.mono ?_
  rintro e w1 ⟨rfl, b1⟩
  have B1 := hide' b1
  clear c0 b1
  go_wp2_with fail
  refine (copyB _ bs _ (holdsB_mono HV.out B1.out) (by omega)).mono ?_
  rintro e w2 ⟨u2, rfl, ho2⟩
  have B2 := hide' (bt' B1.out ho2.2)
  have O2 := hide' ho2
  have M2 := hide' (holdsB_mono HM.out (bt' B1.out ho2.2))
  clear ho2
  go_wp2_with (at_builtin; refine appAllB rfl (.tmp 18) (.tmp 19) rfl w1 _ bs rfl O2.out _ ms rfl M2.out (by omega) ?_; intro v3 w3 ho3; have O3 := hide' ho3; clear ho3)
  have B3 := hide' (bt' B1.out O3.out.2)
  have A3 := hide' (holdsB_own O3.out)
  clear O3 O2 M2 B2
  refine (copyB _ bs _ (holdsB_mono HV.out B3.out) (by omega)).mono ?_
  rintro e w4 ⟨u4, rfl, ho4⟩
  have B4 := hide' (bt' B3.out ho4.2)
  have A4 := hide' (holdsB_mono A3.out ho4.2)
  have C4 := hide' (holdsB_own ho4)
  clear ho4 A3 B3
  go_wp2_with fail
  refine (CD.out _ _ C4.out (env_below EV.out B4.out) (er_below RV.out B4.out)).mono ?_
  rintro e w5 ⟨dv5, lv5, rfl, od5, of5⟩
  have B5 := hide' (bt' B4.out od5.2)
  have A5 := hide' (holdsB_mono A4.out od5.2)
  have D5 := hide' (holdsB_own od5)
  have L5 := hide' (holdsF_own of5)
  obtain ⟨xa, xc, hx5⟩ := row_slice od5.1
  obtain ⟨ya, yc, hy5⟩ := row_slice of5.1
  subst hx5 hy5
  clear od5 of5 A4 C4 B4 CD
  go_wp2_with fail
  refine (CA.out _ _ A5.out (env_below EV.out B5.out) (er_below RV.out B5.out)).mono ?_
  rintro e w6 ⟨dv6, lv6, rfl, od6, of6⟩
  have B6 := hide' (bt' B5.out od6.2)
  have D6 := hide' (holdsB_mono D5.out od6.2)
  have L6 := hide' (holdsF_mono L5.out od6.2)
  have X6 := hide' (holdsB_own od6)
  have Y6 := hide' (holdsF_own of6)
  clear od6 of6 A5 D5 L5 B5 CA
  rcases KEY.out with h | ⟨h, h2, h3, h4⟩ | ⟨h, h2, h3, h4, h5⟩
  · simp only [Prod.mk.injEq] at h
    obtain ⟨rfl, rfl, rfl, rfl⟩ := h
    clear KEY
    go_wp2_with fail
    go_ret
    exact ⟨rfl, B6.out⟩
  · simp only [Prod.mk.injEq] at h
    obtain ⟨rfl, rfl, rfl, rfl⟩ := h
    subst h3 h4
    have t1 : (ea == 0) = false := by simpa using h2
    have t2 : (ea != 0) = true := by simpa using h2
    clear KEY h2
    go_wp2_with fail
    refine (sameBe _ _ [] _ D6.out X6.out (by simp)).mono ?_
    rintro e w7 ⟨rfl, b7⟩
    have B7 := hide' (bt' B6.out b7)
    have L7 := hide' (holdsF_mono L6.out b7)
    have Y7 := hide' (holdsF_mono Y6.out b7)
    clear b7 L6 Y6 D6 X6
    go_wp2_with fail
    refine (sameFe _ _ fa _ L7.out Y7.out (by omega)).mono ?_
    rintro e w8 ⟨rfl, b8⟩
    have B8 := hide' (bt' B7.out b8)
    clear b8
    go_wp2_with fail
    go_ret
    exact ⟨rfl, B8.out⟩
  · simp only [Prod.mk.injEq] at h
    obtain ⟨rfl, rfl, rfl, rfl⟩ := h
    subst h2
    have t1 : ((na : Int) == 0) = false := by simp; omega
    obtain ⟨pv, sl, HP0⟩ := HTK.out na h4
    have HP := hide' HP0
    rw [h5] at CT
    simp only at CT
    have tl : (bs.take na).length ≤ 1048576 := by rw [List.length_take]; omega
    clear KEY h3 h5 HP0 HTK
    go_wp2_with fail
    refine (sameBe _ _ da _ D6.out X6.out (by omega)).mono ?_
    rintro e w7 ⟨rfl, b7⟩
    have B7 := hide' (bt' B6.out b7)
    have L7 := hide' (holdsF_mono L6.out b7)
    have Y7 := hide' (holdsF_mono Y6.out b7)
    clear b7 L6 Y6 D6 X6
    go_wp2_with fail
    refine (sameFe _ _ fa _ L7.out Y7.out (by omega)).mono ?_
    rintro e w8 ⟨rfl, b8⟩
    have B8 := hide' (bt' B7.out b8)
    clear b8 L7 Y7
    go_wp2_with fail
    refine (cC.out _ _ (bs.take na) (holdsB_mono HP.out B8.out) tl).mono ?_
    rintro e w9 ⟨u9, rfl, ho9⟩
    have B9 := hide' (bt' B8.out ho9.2)
    have C9 := hide' (holdsB_own ho9)
    clear ho9
    go_wp2_with fail
    refine (CT.out _ _ C9.out (env_below EV.out B9.out) (er_below RV.out B9.out)).mono ?_
    rintro e w10 ⟨dv10, lv10, rfl, od10, of10⟩
    have B10 := hide' (bt' B9.out od10.2)
    clear od10 of10
    go_wp2_with fail
    go_ret
    exact ⟨rfl, B10.out⟩
end chunkGrows
end Go.Proofs.YtobkmepamgdccaaGreatDoor
