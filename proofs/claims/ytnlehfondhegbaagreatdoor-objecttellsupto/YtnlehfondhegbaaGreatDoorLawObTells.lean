/- The walk of ObjectTells. -/
import Derived.Test.YtnlehfondhegbaaGreatDoorObN
namespace Go.Proofs.YtnlehfondhegbaaGreatDoor
open Go.RowKit
theorem u8_xorO (c t : UInt8) : bits .xor .u8 (c.toNat : Int) (t.toNat : Int) = ((c ^^^ t).toNat : Int) := by
  rw [u8_xor_nat c.toNat t.toNat c.toNat_lt t.toNat_lt, UInt8.toNat_xor]
theorem holds_setO {w : World} {b off cap n : Nat} {bs : List UInt8} (hn : bs.length = n) (i : Nat) (hi : i < bs.length) (c : UInt8) (hcp : bs.length ≤ cap) (hlt : b < w.heap.size) (hcell : ∀ j (h : j < bs.length), w.cell? ⟨b, off + j, none⟩ = some (B bs[j])) :
    HoldsB (w.setCell ⟨b, off + i, none⟩ (.int .u8 (c.toNat : Int))) (.slice (some ⟨b, off, none⟩) n cap) (bs.set i c) := by
  subst hn
  have hl : (bs.set i c).length = bs.length := List.length_set
  refine ⟨_, cap, by rw [hl], (fun e => by cases e), by omega, fun _ => ⟨b, off, rfl, by simpa using hlt, fun j hj => ?_⟩⟩
  have hj2 : j < bs.length := by omega
  by_cases h : j = i
  · subst h
    rw [World.cell?_setCell_same _ _ _ (hcell j hj2)]
    simp [B]
  · have hx : (w.setCell ⟨b, off + i, none⟩ (.int .u8 (c.toNat : Int))).cell? ⟨b, off + j, none⟩ = w.cell? ⟨b, off + j, none⟩ := World.cell?_setCell_other _ _ _ _ (by intro e; simp only [Addr.mk.injEq] at e; omega)
    rw [hx, hcell j hj2]
    simp [Ne.symm h]
theorem own_partsO {w0 w : World} {v : Value} {bs : List UInt8} (h : Own w0 v bs w) (hne : bs ≠ []) : ∃ b cap, v = .slice (some ⟨b, 0, none⟩) bs.length cap ∧ bs.length ≤ cap ∧ w0.heap.size ≤ b ∧ b < w.heap.size ∧
    (∀ j (h : j < bs.length), w.cell? ⟨b, 0 + j, none⟩ = some (B bs[j])) ∧ ∀ j, w.frozen? ⟨b, j, none⟩ = false := by
  obtain ⟨hl, h1 | ⟨g, cap, cur, rfl, hg, hh, hr⟩⟩ := h.1
  · exact absurd (List.eq_nil_of_length_eq_zero h1.2) hne
  · refine ⟨g, cap, rfl, hr.1, hg, (h.1.lt g rfl).2, fun j hj => ?_, fun j => ?_⟩
    · rw [Nat.zero_add, h.1.cellAt j (by omega)]
      simp [hj]
    · simp [World.frozen?, hh]
set_option maxRecDepth 20000 in
set_option maxHeartbeats 8000000 in
theorem tellsOW (e : En) (lv bv : Value) (i : Int) (t : UInt8) (v : Value) (ms : List UInt8) (w : World) (hF : HoldsF w lv e.r.fs) (hB : HoldsB w bv e.body) (BE : Bnd e) (hv : HoldsB w v ms) (hl : ms.length ≤ 1048576) (E : Env w) (T : Tab w) :
    Calls Tryz.prog 5 #[entV e lv bv, .int .i64 i, .int .u8 (t.toNat : Int), v] w fun x w' => x = .returned (.bool true) ∧ Below w.heap.size w w' := by
  obtain ⟨la, lc, _, _, e1, _⟩ := holdsF_parts hF
  obtain ⟨ba, bc, e2, _⟩ := holdsB_parts hB
  subst e1 e2
  have b0 := below_alloc' w (.cells #[.string ⟨e.key.toArray⟩, .string ⟨e.vary.toArray⟩, .int .i64 e.r.s, .string ⟨e.r.r.toArray⟩, .int .i64 e.r.k, .slice la e.r.fs.length lc, .slice ba e.body.length bc, .int .i64 e.a, .int .i64 e.g] 29)
  have q0 := cells_lit w #[.string ⟨e.key.toArray⟩, .string ⟨e.vary.toArray⟩, .int .i64 e.r.s, .string ⟨e.r.r.toArray⟩, .int .i64 e.r.k, .slice la e.r.fs.length lc, .slice ba e.body.length bc, .int .i64 e.a, .int .i64 e.g] 29
  obtain ⟨W0, hW0⟩ : ∃ W0, W0 = w.alloc (.cells #[.string ⟨e.key.toArray⟩, .string ⟨e.vary.toArray⟩, .int .i64 e.r.s, .string ⟨e.r.r.toArray⟩, .int .i64 e.r.k, .slice la e.r.fs.length lc, .slice ba e.body.length bc, .int .i64 e.a, .int .i64 e.g] 29) := ⟨_, rfl⟩
  have HW0 := hide' hW0
  rw [← hW0] at b0 q0
  obtain ⟨q, hq⟩ : ∃ q, q = w.heap.size := ⟨_, rfl⟩
  have HQ := hide' hq
  rw [← hq] at q0
  have BB := hide' b0
  have CC : Hid (∀ W, Below W0.heap.size W0 W → Blk q W [.string ⟨e.key.toArray⟩, .string ⟨e.vary.toArray⟩, .int .i64 e.r.s, .string ⟨e.r.r.toArray⟩, .int .i64 e.r.k, .slice la e.r.fs.length lc, .slice ba e.body.length bc, .int .i64 e.a, .int .i64 e.g]) := fun W hb => cells_below q0 hb
  have HF := hide' hF
  have HB := hide' hB
  have EE := hide' E
  have TT := hide' T
  have HN := hide' BE
  have cA := hide' (aliveOC W0 (tab_below T b0))
  have cC := hide' (fun W (hb : Below w.heap.size w W) => copyEB BE _ _ W (holdsF_mono hF hb) (holdsB_mono hB hb))
  have cE := hide' (fun W (hb : Below w.heap.size w W) lu bu (h1 : HoldsF W lu e.r.fs) (h2 : HoldsB W bu e.body) => encB BE lu bu W h1 h2 (tab_below T hb))
  unfold entV at cC cE ⊢
  have HV := hide' hv
  have LV := hide' hl
  obtain ⟨ma, mc, em, hmc⟩ := holdsB_parts hv
  subst em
  obtain ⟨mn, hmn⟩ : ∃ m, m = ms.length := ⟨_, rfl⟩
  have MN : Hid (ms.length = mn) := hmn.symm
  rw [← hmn] at HV ⊢
  have OD : Hid ((objOf e).2 = 0 → decO (objOf e).1 = (e, 0)) := fun h => dec_obj (Prod.ext rfl h)
  have OL : Hid ((objOf e).2 = 0 → (objOf e).1.length ≤ 81968) := fun h => (obj_len (e := e) (Prod.ext rfl h)).2
  have O1 : Hid ((objOf e).2 = 0 → ∀ k, k < (objOf e).1.length → decO ((objOf e).1.take k) = (En.zero, 120)) := fun h k hk => dec_less (e := e) (Prod.ext rfl h) k hk
  have O2 : Hid ((objOf e).2 = 0 → ms ≠ [] → decO ((objOf e).1 ++ ms) = (En.zero, 120)) := fun h hm => dec_more (e := e) (Prod.ext rfl h) hm
  have O3 : Hid ((objOf e).2 = 0 → ∀ k (hk : k < (objOf e).1.length), t ≠ 0 → decO ((objOf e).1.set k ((objOf e).1[k] ^^^ t)) = (En.zero, 120)) := fun h k hk ht => dec_turn (e := e) (Prod.ext rfl h) k hk t ht
  clear hW0 hq b0 q0 hF hB hv hl E T BE hmn hmc
  generalize objOf e = OE at *
  obtain ⟨ol, oe⟩ := OE
  dsimp only at *
  go_enter Tryz.func5, Tryz.ntmps5
  go_wp2_with fail
  rw [← HW0.out, ← HQ.out]
  refine cA.out.mono ?_
  rintro x w1 ⟨rfl, b1⟩
  have LB := hide' b1
  replace BB := hide' (bt' BB.out b1)
  clear b1 cA
  obtain ⟨⟨c0, c1, c2, c3, c4, c5, c6, c7, c8⟩, -⟩ := cells_nine (CC.out w1 LB.out)
  go_wp2_with fail
  refine (cC.out _ BB.out).mono ?_
  rintro x w2 ⟨lu, bu, rfl, hfu, hbu⟩
  replace LB := hide' (bt' LB.out hfu.2)
  replace BB := hide' (bt' BB.out hfu.2)
  have HU := hide' (holdsF_own hfu)
  have HW := hide' (holdsB_own hbu)
  clear hfu hbu cC c0 c1 c2 c3 c4 c5 c6 c7 c8
  go_wp2_with fail
  refine (cE.out _ BB.out _ _ HU.out HW.out).mono ?_
  rintro x w3 ⟨u, rfl, ho⟩
  replace LB := hide' (bt' LB.out ho.2)
  replace BB := hide' (bt' BB.out ho.2)
  have U3 := hide' (holdsB_own ho)
  obtain ⟨ua, uc, eu, _⟩ := holdsB_parts (holdsB_own ho)
  subst eu
  clear ho cE HU HW
  by_cases hoe : ¬ oe = 0
  · have d1 : (oe != 0) = true := by simpa using hoe
    clear hoe
    go_wp2_with fail
    go_ret
    exact ⟨rfl, BB.out⟩
  have hoe' : oe = 0 := by simpa using hoe
  subst hoe'
  clear hoe
  replace OD := hide' (OD.out (by first | trivial | rfl))
  replace OL := hide' (OL.out (by first | trivial | rfl))
  replace O1 := hide' (O1.out (by first | trivial | rfl))
  replace O2 := hide' (O2.out (by first | trivial | rfl))
  replace O3 := hide' (O3.out (by first | trivial | rfl))
  by_cases hi0 : i < 0
  · have d1 : decide (i < 0) = true := by simpa using hi0
    clear hi0
    go_wp2_with fail
    go_ret
    exact ⟨rfl, BB.out⟩
  have d1 : decide (i < 0) = false := by simpa using hi0
  obtain ⟨k, rfl⟩ : ∃ k : Nat, i = k := ⟨i.toNat, by omega⟩
  obtain ⟨n, hn⟩ : ∃ n, n = ol.length := ⟨_, rfl⟩
  have N1 : Hid (ol.length = n) := hn.symm
  have ln : n ≤ 81968 := by have := OL.out; omega
  rw [← hn] at U3 ⊢
  clear hn hi0 OL
  by_cases hin : n ≤ k
  · have d2 : decide (n ≤ k) = true := by simpa using hin
    go_wp2_with fail
    go_ret
    exact ⟨rfl, BB.out⟩
  have d2 : decide (n ≤ k) = false := by simpa using hin
  have hk : k < n := by omega
  have HK : Hid (k < ol.length) := by unfold Hid; rw [N1.out]; exact hk
  obtain ⟨pv, hs, hp⟩ := takeB U3.out k (by rw [N1.out]; omega)
  have P3 := hide' hp
  clear hp
  go_wp2_with fail
  refine (copyB pv (ol.take k) _ P3.out (by rw [List.length_take, N1.out]; omega)).mono ?_
  rintro x w4 ⟨v4, rfl, ho4⟩
  replace LB := hide' (bt' LB.out ho4.2)
  replace BB := hide' (bt' BB.out ho4.2)
  have H4 := hide' (holdsB_own ho4)
  replace U3 := hide' (holdsB_mono U3.out ho4.2)
  clear ho4 P3 hs
  have cD := hide' (decOC v4 (ol.take k) w4 H4.out (by rw [List.length_take, N1.out]; omega) (env_below EE.out BB.out) (tab_below TT.out BB.out))
  rw [O1.out k HK.out] at cD
  go_wp2_with fail
  refine cD.out.mono ?_
  rintro x w5 ⟨lx, bx, rfl, hfx, hbx⟩
  dsimp only [En.zero, Rs.zero] at hfx hbx
  obtain ⟨xa, xc, _, _, e5, _⟩ := holdsF_parts (holdsF_own hfx)
  obtain ⟨ya, yc, e6, _⟩ := holdsB_parts (holdsB_own hbx)
  subst e5 e6
  replace U3 := hide' (holdsB_mono U3.out hfx.2)
  replace BB := hide' (bt' BB.out hfx.2)
  clear hfx hbx cD H4 LB
  unfold entV En.zero Rs.zero
  dsimp only [List.length_nil]
  have bf := below_alloc' w5 (.cells #[.string ⟨#[]⟩, .string ⟨#[]⟩, .int .i64 0, .string ⟨#[]⟩, .int .i64 0, .slice xa 0 xc, .slice ya 0 yc, .int .i64 0, .int .i64 0] 29)
  replace BB := hide' (bt' BB.out bf)
  replace U3 := hide' (holdsB_mono U3.out bf)
  clear bf
  go_wp2_with fail
  generalize w5.alloc (.cells #[.string ⟨#[]⟩, .string ⟨#[]⟩, .int .i64 0, .string ⟨#[]⟩, .int .i64 0, .slice xa 0 xc, .slice ya 0 yc, .int .i64 0, .int .i64 0] 29) = w6 at BB U3 ⊢
  refine (copyB _ ol _ U3.out (by rw [N1.out]; omega)).mono ?_
  rintro x w7 ⟨v7, rfl, ho7⟩
  have BB6 := BB
  replace BB := hide' (bt' BB.out ho7.2)
  have U6 := U3
  have O7 := hide' ho7
  have V7 := hide' (holdsB_mono HV.out BB.out)
  clear ho7
  go_wp2_with (at_builtin; refine appAllB rfl (.tmp 46) (.tmp 47) rfl w6 _ ol rfl O7.out _ ms rfl V7.out (by have := LV.out; rw [N1.out]; omega) ?_; intro v8 w8 ho8; have O8 := hide' ho8; clear ho8)
  have B8 : Hid (Below w.heap.size w w8) := BB6.out.trans (O8.out.2.mono BB6.out.size)
  replace U3 : Hid (HoldsB w8 (.slice ua n uc) ol) := holdsB_mono U6.out O8.out.2
  clear BB V7 O7
  have H8 := hide' (holdsB_own O8.out)
  have LL8 : Hid ((ol ++ ms).length ≤ 1000000000) := by unfold Hid; have := LV.out; rw [List.length_append, N1.out]; omega
  clear O8 U6 BB6
  have cD := hide' (decOC v8 (ol ++ ms) w8 H8.out (by have := LL8.out; omega) (env_below EE.out B8.out) (tab_below TT.out B8.out))
  have REST : Hid (∀ (K : Act → World → Prop), True) := fun _ => trivial
  clear REST
  by_cases hms : ms = []
  · have hmn0 : mn = 0 := by rw [← MN.out, hms]; rfl
    rw [hms, List.append_nil, OD.out] at cD
    clear hms
    subst hmn0
    refine cD.out.mono ?_
    rintro x w9 ⟨lx, bx, rfl, hfx, hbx⟩
    dsimp only at hfx hbx
    obtain ⟨xa, xc, _, _, e5, _⟩ := holdsF_parts (holdsF_own hfx)
    obtain ⟨ya, yc, e6, _⟩ := holdsB_parts (holdsB_own hbx)
    subst e5 e6
    replace U3 := hide' (holdsB_mono U3.out hfx.2)
    have BB := hide' (bt' B8.out hfx.2)
    clear hfx hbx cD H8 B8
    unfold entV
    by_cases ht : t = 0
    · subst ht
      go_wp2_with fail
      go_ret
      exact ⟨rfl, BB.out⟩
    · have dt : ((t.toNat : Int) == 0) = false := by
        simp
        intro h
        exact ht (UInt8.toNat_inj.1 h)
      have dt2 : (t.toNat == 0) = false := by
        simp
        intro h
        exact ht (UInt8.toNat_inj.1 h)
      have O4 := hide' (O3.out k HK.out ht)
      have hx := u8_xorO (ol[k]'HK.out) t
      clear ht
      go_wp2_with fail
      refine (copyB _ ol _ U3.out (by rw [N1.out]; omega)).mono ?_
      rintro x wa ⟨va, rfl, hoa⟩
      obtain ⟨b, cap, rfl, hcp, hb1, hlt, hcell, hfr⟩ := own_partsO hoa (fun h => by have := HK.out; rw [h] at this; exact absurd this (Nat.not_lt_zero _))
      have x1 := hcell k HK.out
      unfold B at x1
      rw [Nat.zero_add] at x1
      have HS := hide' (holds_setO N1.out k HK.out ((ol[k]'HK.out) ^^^ t) hcp hlt hcell)
      rw [Nat.zero_add] at HS
      have f1 := hfr k
      have BA := hide' (bt' BB.out hoa.2)
      have BS := hide' (BA.out.setCell (p := ⟨b, k, none⟩) (by have := BB.out.size; show w.heap.size ≤ b; omega) (.int .u8 (((ol[k]'HK.out) ^^^ t).toNat : Int)))
      rw [N1.out] at hcp ⊢
      clear hoa hcell hfr hb1 hlt BB BA U3
      go_wp2_with fail
      have cF := hide' (decOC _ _ _ HS.out (by rw [List.length_set, N1.out]; omega) (env_below EE.out BS.out) (tab_below TT.out BS.out))
      rw [O4.out] at cF
      refine cF.out.mono ?_
      rintro x wb ⟨ly, by', rfl, hfx, hbx⟩
      have BZ := hide' (bt' BS.out hfx.2)
      clear hfx hbx cF
      go_wp2_with fail
      go_ret
      exact ⟨rfl, BZ.out⟩
  · have hmn0 : ¬ mn = 0 := by rw [← MN.out]; intro h; exact hms (List.eq_nil_of_length_eq_zero h)
    rw [O2.out hms] at cD
    have dm : (mn == 0) = false := by simpa using hmn0
    have dm2 : ((mn : Int) == 0) = false := by simp; omega
    clear hms
    refine cD.out.mono ?_
    rintro x w9 ⟨lx, bx, rfl, hfx, hbx⟩
    dsimp only [En.zero, Rs.zero] at hfx hbx
    obtain ⟨xa, xc, _, _, e5, _⟩ := holdsF_parts (holdsF_own hfx)
    obtain ⟨ya, yc, e6, _⟩ := holdsB_parts (holdsB_own hbx)
    subst e5 e6
    replace U3 := hide' (holdsB_mono U3.out hfx.2)
    have BB := hide' (bt' B8.out hfx.2)
    clear hfx hbx cD H8 B8
    unfold entV En.zero Rs.zero
    dsimp only [List.length_nil]
    by_cases ht : t = 0
    · subst ht
      go_wp2_with fail
      go_ret
      exact ⟨rfl, BB.out⟩
    · have dt : ((t.toNat : Int) == 0) = false := by
        simp
        intro h
        exact ht (UInt8.toNat_inj.1 h)
      have dt2 : (t.toNat == 0) = false := by
        simp
        intro h
        exact ht (UInt8.toNat_inj.1 h)
      have O4 := hide' (O3.out k HK.out ht)
      have hx := u8_xorO (ol[k]'HK.out) t
      clear ht
      go_wp2_with fail
      refine (copyB _ ol _ U3.out (by rw [N1.out]; omega)).mono ?_
      rintro x wa ⟨va, rfl, hoa⟩
      obtain ⟨b, cap, rfl, hcp, hb1, hlt, hcell, hfr⟩ := own_partsO hoa (fun h => by have := HK.out; rw [h] at this; exact absurd this (Nat.not_lt_zero _))
      have x1 := hcell k HK.out
      unfold B at x1
      rw [Nat.zero_add] at x1
      have HS := hide' (holds_setO N1.out k HK.out ((ol[k]'HK.out) ^^^ t) hcp hlt hcell)
      rw [Nat.zero_add] at HS
      have f1 := hfr k
      have BA := hide' (bt' BB.out hoa.2)
      have BS := hide' (BA.out.setCell (p := ⟨b, k, none⟩) (by have := BB.out.size; show w.heap.size ≤ b; omega) (.int .u8 (((ol[k]'HK.out) ^^^ t).toNat : Int)))
      rw [N1.out] at hcp ⊢
      clear hoa hcell hfr hb1 hlt BB BA U3
      go_wp2_with fail
      have cF := hide' (decOC _ _ _ HS.out (by rw [List.length_set, N1.out]; omega) (env_below EE.out BS.out) (tab_below TT.out BS.out))
      rw [O4.out] at cF
      refine cF.out.mono ?_
      rintro x wb ⟨ly, by', rfl, hfx, hbx⟩
      have BZ := hide' (bt' BS.out hfx.2)
      clear hfx hbx cF
      go_wp2_with fail
      go_ret
      exact ⟨rfl, BZ.out⟩
theorem tellsOI (e : En) (lv bv : Value) (i z : Int) (v : Value) (ms : List UInt8) (w : World) (hF : HoldsF w lv e.r.fs) (hB : HoldsB w bv e.body) (BE : Bnd e) (hz : (Lit.int .u8 z).wf = true) (hv : HoldsB w v ms) (hl : ms.length ≤ 1048576) (E : Env w) (T : Tab w) :
    Calls Tryz.prog 5 #[entV e lv bv, .int .i64 i, .int .u8 z, v] w fun x w' => x = .returned (.bool true) ∧ Below w.heap.size w w' := by
  have hb : 0 ≤ z ∧ z ≤ 255 := by
    have h1 : IntKind.u8.min = 0 := rfl
    have h2 : IntKind.u8.max = 255 := rfl
    simp only [Lit.wf, Bool.and_eq_true, decide_eq_true_eq] at hz
    omega
  have h : z = ((UInt8.ofNat z.toNat).toNat : Int) := by rw [ofNat_mod]; omega
  rw [h]
  exact tellsOW e lv bv i _ v ms w hF hB BE hv hl E T
end Go.Proofs.YtnlehfondhegbaaGreatDoor
