/- The walk of ChunkMemory. -/
import Derived.Test.YtobkmepamgdccaaGreatDoorChAl
import Derived.Test.YtobkmepamgdccaaGreatDoorLawChEncodes
import Derived.Test.YtobkmepamgdccaaGreatDoorLawChDecodes
import Derived.Test.YtobkmepamgdccaaGreatDoorFdAs
import Derived.Test.YtobkmepamgdccaaGreatDoorMemY
namespace Go.Proofs.YtobkmepamgdccaaGreatDoor
open Go.RowKit
namespace chunkMemory
theorem holdsF_nil (W : World) : HoldsF W (.slice none 0 0) [] := ⟨none, 0, rfl, fun _ => rfl, Nat.le_refl _, fun h => absurd rfl h⟩
set_option maxRecDepth 20000 in
set_option maxHeartbeats 16000000 in
theorem walk (v : Value) (bs : List UInt8) (dv : Value) (dd : List UInt8) (s : Int) (w : World) (hv : HoldsB w v bs) (hd : HoldsB w dv dd) (hl : bs.length ≤ 1048576) (hdl : dd.length ≤ 1048576) (E : Env w) (R : Er w) (Z : Bru w) :
    Calls Tryz.prog 8 #[v, dv, .int .i64 s] w fun e w' => e = .returned (.bool true) ∧ Below w.heap.size w w' := by
  have HV := hide' hv
  have HD := hide' hd
  have EV := hide' E
  have RV := hide' R
  have ZV := hide' Z
  have c0 := hide' (aliveChC w E R)
  have pl := dec_fs bs
  have ol := dec_out bs
  have al := enc_all dd s []
  have FT := hide' (show Fit [] from fun f hf => by simp at hf)
  have cD := hide' (fun W (u : Value) (hb : HoldsB W u bs) (hE : Env W) (hR : Er W) => decC u bs W hb hE hR (by omega))
  have cR := hide' (fun W (u : Value) (hb : HoldsB W u bs) => decRef u bs W hb (by omega))
  have cE := hide' (fun W (u tu : Value) (h1 : HoldsB W u dd) (h2 : HoldsF W tu []) (hz : Bru W) => encTok u tu dd s [] W h1 h2 (by omega) FT.out (by simp) (by decide) hz)
  have cF := hide' (fun W (u tu : Value) (h1 : HoldsB W u dd) (h2 : HoldsF W tu []) => encRef u tu dd s [] W h1 h2 (by omega) FT.out (by simp) (by decide))
  unfold decV at cD cR
  generalize decOf bs = D at cD cR pl ol
  obtain ⟨d, fs, n, ee⟩ := D
  simp only at cD cR pl ol
  generalize encOf dd s [] = X at cE cF al
  obtain ⟨x, ef⟩ := X
  simp only at cE cF al
  obtain ⟨ba, bc, rfl, _⟩ := hv
  obtain ⟨da, dc, rfl, _⟩ := hd
  have BB := hide' (Below.refl w.heap.size w)
  clear E R Z
  go_enter Tryz.func8, Tryz.ntmps8
  go_wp2_with fail
  refine c0.out.mono ?_
  rintro e w0 ⟨rfl, b⟩
  replace BB := hide' (bt' BB.out b)
  have S0 := hide' BB.out.size
  clear b c0
  go_wp2_with fail
  refine (copyB _ bs _ (holdsB_mono HV.out BB.out) (by omega)).mono ?_
  rintro e w1 ⟨vq, rfl, ho⟩
  have bandq := hide' ho.1.lt
  have sizq := hide' ho.2.size
  replace BB := hide' (bt' BB.out ho.2)
  have Rq := hide' ho
  obtain ⟨qa, qc, hl⟩ := row_slice ho.1
  subst hl
  clear ho
  go_wp2_with fail
  refine (copyB _ dd _ (holdsB_mono HD.out BB.out) (by omega)).mono ?_
  rintro e w2 ⟨vm, rfl, ho⟩
  have bandm := hide' ho.1.lt
  have sizm := hide' ho.2.size
  replace BB := hide' (bt' BB.out ho.2)
  replace Rq := hide' (own_mono Rq.out ho.2)
  have Rm := hide' ho
  obtain ⟨ma, mc, hl⟩ := row_slice ho.1
  subst hl
  clear ho
  go_wp2_with fail
  refine (cD.out _ _ (holdsB_own Rq.out) (env_below EV.out BB.out) (er_below RV.out BB.out)).mono ?_
  rintro e w3 ⟨vx, vf, rfl, od, of⟩
  have bandx := hide' od.1.lt
  have bandf := hide' of.1.lt
  have sizx := hide' od.2.size
  replace BB := hide' (bt' BB.out od.2)
  replace Rq := hide' (own_mono Rq.out od.2)
  replace Rm := hide' (own_mono Rm.out od.2)
  have Rx := hide' od
  have Ff := hide' of
  obtain ⟨xa, xc, hl⟩ := row_slice od.1
  obtain ⟨fa, fc, hl2⟩ := row_slice of.1
  subst hl hl2
  clear od of
  go_wp2_with fail
  refine (cD.out _ _ (holdsB_own Rq.out) (env_below EV.out BB.out) (er_below RV.out BB.out)).mono ?_
  rintro e w4 ⟨vy, vg, rfl, od, of⟩
  have bandy := hide' od.1.lt
  have bandg := hide' of.1.lt
  have sizy := hide' od.2.size
  replace BB := hide' (bt' BB.out od.2)
  replace Rq := hide' (own_mono Rq.out od.2)
  replace Rm := hide' (own_mono Rm.out od.2)
  replace Rx := hide' (own_mono Rx.out od.2)
  replace Ff := hide' (ownF_mono Ff.out od.2)
  have Ry := hide' od
  have Fg := hide' of
  obtain ⟨ya, yc, hl⟩ := row_slice od.1
  obtain ⟨ga, gc, hl2⟩ := row_slice of.1
  subst hl hl2
  clear od of
  go_wp2_with fail
  refine (cE.out _ _ _ (holdsB_own Rm.out) (holdsF_nil _) (bru_below ZV.out BB.out)).mono ?_
  rintro e w5 ⟨vp, rfl, ho⟩
  have bandp := hide' ho.1.lt
  have sizp := hide' ho.2.size
  replace BB := hide' (bt' BB.out ho.2)
  replace Rq := hide' (own_mono Rq.out ho.2)
  replace Rm := hide' (own_mono Rm.out ho.2)
  replace Rx := hide' (own_mono Rx.out ho.2)
  replace Ff := hide' (ownF_mono Ff.out ho.2)
  replace Ry := hide' (own_mono Ry.out ho.2)
  replace Fg := hide' (ownF_mono Fg.out ho.2)
  have Rp := hide' ho
  obtain ⟨pa, pc, hl⟩ := row_slice ho.1
  subst hl
  clear ho
  go_wp2_with fail
  refine (cE.out _ _ _ (holdsB_own Rm.out) (holdsF_nil _) (bru_below ZV.out BB.out)).mono ?_
  rintro e w6 ⟨vo, rfl, ho⟩
  have bando := hide' ho.1.lt
  have sizo := hide' ho.2.size
  replace BB := hide' (bt' BB.out ho.2)
  replace Rq := hide' (own_mono Rq.out ho.2)
  replace Rm := hide' (own_mono Rm.out ho.2)
  replace Rx := hide' (own_mono Rx.out ho.2)
  replace Ff := hide' (ownF_mono Ff.out ho.2)
  replace Ry := hide' (own_mono Ry.out ho.2)
  replace Fg := hide' (ownF_mono Fg.out ho.2)
  replace Rp := hide' (own_mono Rp.out ho.2)
  have Ro := hide' ho
  obtain ⟨oa, oc, hl⟩ := row_slice ho.1
  subst hl
  clear ho
  go_wp2_with fail
  refine (cR.out _ _ (holdsB_mono HV.out BB.out)).mono ?_
  rintro e w7 ⟨vc, vh, rfl, od, of⟩
  have bandh := hide' of.1.lt
  have sizc := hide' od.2.size
  replace BB := hide' (bt' BB.out od.2)
  replace Rq := hide' (own_mono Rq.out od.2)
  replace Rm := hide' (own_mono Rm.out od.2)
  replace Rx := hide' (own_mono Rx.out od.2)
  replace Ff := hide' (ownF_mono Ff.out od.2)
  replace Ry := hide' (own_mono Ry.out od.2)
  replace Fg := hide' (ownF_mono Fg.out od.2)
  replace Rp := hide' (own_mono Rp.out od.2)
  replace Ro := hide' (own_mono Ro.out od.2)
  have Rc := hide' od
  have Fh := hide' of
  obtain ⟨ca, cc, hl⟩ := row_slice od.1
  obtain ⟨ha, hc, hl2⟩ := row_slice of.1
  subst hl hl2
  clear od of
  go_wp2_with fail
  refine (cF.out _ _ _ (holdsB_mono HD.out BB.out) (holdsF_nil _)).mono ?_
  rintro e w8 ⟨vw, rfl, ho⟩
  replace BB := hide' (bt' BB.out ho.2)
  replace Rq := hide' (own_mono Rq.out ho.2)
  replace Rm := hide' (own_mono Rm.out ho.2)
  replace Rx := hide' (own_mono Rx.out ho.2)
  replace Ff := hide' (ownF_mono Ff.out ho.2)
  replace Ry := hide' (own_mono Ry.out ho.2)
  replace Fg := hide' (ownF_mono Fg.out ho.2)
  replace Rp := hide' (own_mono Rp.out ho.2)
  replace Ro := hide' (own_mono Ro.out ho.2)
  replace Rc := hide' (own_mono Rc.out ho.2)
  replace Fh := hide' (ownF_mono Fh.out ho.2)
  have Rw := hide' ho
  obtain ⟨wa, wc, hl⟩ := row_slice ho.1
  subst hl
  clear ho
  go_wp2_with fail
  refine (sameBe _ _ d _ (holdsB_own Rx.out) (holdsB_own Rc.out) (by omega)).mono ?_
  rintro e w9 ⟨rfl, b⟩
  replace BB := hide' (bt' BB.out b)
  replace Rq := hide' (own_mono Rq.out b)
  replace Rm := hide' (own_mono Rm.out b)
  replace Rx := hide' (own_mono Rx.out b)
  replace Ff := hide' (ownF_mono Ff.out b)
  replace Ry := hide' (own_mono Ry.out b)
  replace Fg := hide' (ownF_mono Fg.out b)
  replace Rp := hide' (own_mono Rp.out b)
  replace Ro := hide' (own_mono Ro.out b)
  replace Rc := hide' (own_mono Rc.out b)
  replace Fh := hide' (ownF_mono Fh.out b)
  replace Rw := hide' (own_mono Rw.out b)
  clear b
  go_wp2_with fail
  refine (sameBe _ _ d _ (holdsB_own Ry.out) (holdsB_own Rc.out) (by omega)).mono ?_
  rintro e w10 ⟨rfl, b⟩
  replace BB := hide' (bt' BB.out b)
  replace Rq := hide' (own_mono Rq.out b)
  replace Rm := hide' (own_mono Rm.out b)
  replace Rx := hide' (own_mono Rx.out b)
  replace Ff := hide' (ownF_mono Ff.out b)
  replace Ry := hide' (own_mono Ry.out b)
  replace Fg := hide' (ownF_mono Fg.out b)
  replace Rp := hide' (own_mono Rp.out b)
  replace Ro := hide' (own_mono Ro.out b)
  replace Rc := hide' (own_mono Rc.out b)
  replace Fh := hide' (ownF_mono Fh.out b)
  replace Rw := hide' (own_mono Rw.out b)
  clear b
  go_wp2_with fail
  refine (sameFe _ _ fs _ (holdsF_own Ff.out) (holdsF_own Fh.out) (by omega)).mono ?_
  rintro e w11 ⟨rfl, b⟩
  replace BB := hide' (bt' BB.out b)
  replace Rq := hide' (own_mono Rq.out b)
  replace Rm := hide' (own_mono Rm.out b)
  replace Rx := hide' (own_mono Rx.out b)
  replace Ff := hide' (ownF_mono Ff.out b)
  replace Ry := hide' (own_mono Ry.out b)
  replace Fg := hide' (ownF_mono Fg.out b)
  replace Rp := hide' (own_mono Rp.out b)
  replace Ro := hide' (own_mono Ro.out b)
  replace Rc := hide' (own_mono Rc.out b)
  replace Fh := hide' (ownF_mono Fh.out b)
  replace Rw := hide' (own_mono Rw.out b)
  clear b
  go_wp2_with fail
  refine (sameBe _ _ x _ (holdsB_own Rp.out) (holdsB_own Rw.out) (by omega)).mono ?_
  rintro e w12 ⟨rfl, b⟩
  replace BB := hide' (bt' BB.out b)
  replace Rq := hide' (own_mono Rq.out b)
  replace Rm := hide' (own_mono Rm.out b)
  replace Rx := hide' (own_mono Rx.out b)
  replace Ff := hide' (ownF_mono Ff.out b)
  replace Ry := hide' (own_mono Ry.out b)
  replace Fg := hide' (ownF_mono Fg.out b)
  replace Rp := hide' (own_mono Rp.out b)
  replace Ro := hide' (own_mono Ro.out b)
  replace Rc := hide' (own_mono Rc.out b)
  replace Fh := hide' (ownF_mono Fh.out b)
  replace Rw := hide' (own_mono Rw.out b)
  clear b
  go_wp2_with fail
  refine (sameBe _ _ x _ (holdsB_own Ro.out) (holdsB_own Rw.out) (by omega)).mono ?_
  rintro e w13 ⟨rfl, b⟩
  replace BB := hide' (bt' BB.out b)
  replace Rq := hide' (own_mono Rq.out b)
  replace Rm := hide' (own_mono Rm.out b)
  replace Rx := hide' (own_mono Rx.out b)
  replace Ff := hide' (ownF_mono Ff.out b)
  replace Ry := hide' (own_mono Ry.out b)
  replace Fg := hide' (ownF_mono Fg.out b)
  replace Rp := hide' (own_mono Rp.out b)
  replace Ro := hide' (own_mono Ro.out b)
  replace Rc := hide' (own_mono Rc.out b)
  replace Fh := hide' (ownF_mono Fh.out b)
  replace Rw := hide' (own_mono Rw.out b)
  clear b
  have Zf := hide' (ownZ_of Ff.out)
  have Zg := hide' (ownZ_of Fg.out)
  have Zh := hide' (ownZ_of Fh.out)
  have Zx := hide' (rowB_of Rx.out)
  have Zy := hide' (rowB_of Ry.out)
  have Zp := hide' (rowB_of Rp.out)
  have Zo := hide' (rowB_of Ro.out)
  have Zq := hide' (rowB_of Rq.out)
  have Zm := hide' (rowB_of Rm.out)
  clear Ff Fg Fh Rx Ry Rp Ro Rq Rm Rc Rw
  have S : Hid (w0.heap.size ≤ w1.heap.size ∧ w1.heap.size ≤ w2.heap.size ∧ w2.heap.size ≤ w3.heap.size ∧ w3.heap.size ≤ w4.heap.size ∧ w4.heap.size ≤ w5.heap.size ∧ w5.heap.size ≤ w6.heap.size ∧ w6.heap.size ≤ w7.heap.size) := ⟨sizq.out, sizm.out, sizx.out, sizy.out, sizp.out, sizo.out, sizc.out⟩
  go_wp2_with fail
  refine (markedC _ fs.length 0 _ ⟨_, Zf.out⟩ (Nat.zero_le _) (by omega)).mono ?_
  rintro e w14 ⟨rfl, hf⟩
  have M := hide' hf
  clear hf
  replace Zg := hide' (ownZ_far Zg.out M.out (fun k e e2 => by have a := bandf.out k e2; have b := bandg.out k e; have c := S.out; omega))
  replace Zh := hide' (ownZ_far Zh.out M.out (fun k e e2 => by have a := bandf.out k e2; have b := bandh.out k e; have c := S.out; omega))
  replace Zx := hide' (rowB_far Zx.out M.out (row_types Zx.out Zf.out (by decide)))
  replace Zy := hide' (rowB_far Zy.out M.out (row_types Zy.out Zf.out (by decide)))
  replace Zp := hide' (rowB_far Zp.out M.out (row_types Zp.out Zf.out (by decide)))
  replace Zo := hide' (rowB_far Zo.out M.out (row_types Zo.out Zf.out (by decide)))
  replace Zq := hide' (rowB_far Zq.out M.out (row_types Zq.out Zf.out (by decide)))
  replace Zm := hide' (rowB_far Zm.out M.out (row_types Zm.out Zf.out (by decide)))
  go_wp2_with fail
  refine (sameFe _ _ fs _ (ownZ_holds Zg.out) (ownZ_holds Zh.out) (by omega)).mono ?_
  rintro e w15 ⟨rfl, b⟩
  have FB := hide' (far_of_below b)
  clear b
  replace Zx := hide' (rowB_far Zx.out FB.out (fun k e e2 => e2))
  replace Zy := hide' (rowB_far Zy.out FB.out (fun k e e2 => e2))
  replace Zp := hide' (rowB_far Zp.out FB.out (fun k e e2 => e2))
  replace Zo := hide' (rowB_far Zo.out FB.out (fun k e e2 => e2))
  replace Zq := hide' (rowB_far Zq.out FB.out (fun k e e2 => e2))
  replace Zm := hide' (rowB_far Zm.out FB.out (fun k e e2 => e2))
  have DJ : Hid (Dj6 (pvA [(Value.slice xa d.length xc), (Value.slice ya d.length yc), (Value.slice pa x.length pc), (Value.slice oa x.length oc), (Value.slice qa bs.length qc), (Value.slice ma dd.length mc)])) := by
    refine dj6 (npA [w2.heap.size, w3.heap.size, w4.heap.size, w5.heap.size, w0.heap.size, w1.heap.size]) (npA [w3.heap.size, w4.heap.size, w5.heap.size, w6.heap.size, w1.heap.size, w2.heap.size]) ?_ ?_
    · intro i hi
      match i, hi with
      | 0, _ => exact bandx.out
      | 1, _ => exact bandy.out
      | 2, _ => exact bandp.out
      | 3, _ => exact bando.out
      | 4, _ => exact bandq.out
      | 5, _ => exact bandm.out
    · have c := S.out
      intro i j hi hj hne
      have ci : i = 0 ∨ i = 1 ∨ i = 2 ∨ i = 3 ∨ i = 4 ∨ i = 5 := by omega
      have cj : j = 0 ∨ j = 1 ∨ j = 2 ∨ j = 3 ∨ j = 4 ∨ j = 5 := by omega
      rcases ci with rfl | rfl | rfl | rfl | rfl | rfl <;> rcases cj with rfl | rfl | rfl | rfl | rfl | rfl <;> simp [npA] at hne ⊢ <;> omega
  have AP := hide' (apart6 w15 (Value.slice xa d.length xc) (Value.slice ya d.length yc) (Value.slice pa x.length pc) (Value.slice oa x.length oc) (Value.slice qa bs.length qc) (Value.slice ma dd.length mc) d.length d.length x.length x.length bs.length dd.length ⟨_, Zx.out⟩ ⟨_, Zy.out⟩ ⟨_, Zp.out⟩ ⟨_, Zo.out⟩ ⟨_, Zq.out⟩ ⟨_, Zm.out⟩ DJ.out (by
    intro i hi
    match i, hi with
    | 0, _ => show d.length ≤ 100000000; omega
    | 1, _ => show d.length ≤ 100000000; omega
    | 2, _ => show x.length ≤ 100000000; omega
    | 3, _ => show x.length ≤ 100000000; omega
    | 4, _ => show bs.length ≤ 100000000; omega
    | 5, _ => show dd.length ≤ 100000000; omega))
  go_wp2_with fail
  refine AP.out.mono ?_
  rintro e w16 ⟨rfl, hf⟩
  have FA := hide' hf
  clear hf AP
  have BF : Hid (Below w.heap.size w w16) := by
    have b := BB.out
    have s0 := S0.out
    have c := S.out
    have f1 := far_trans M.out FB.out (fun k _ e => absurd e (fun e => e))
    have f2 := far_trans (S := fun k => w.heap.size ≤ k) (T := fun k => w.heap.size ≤ k) (a := w13) (b := w15) (c := w16) ⟨f1.1, f1.2.1, f1.2.2.1, f1.2.2.2.1, fun k hk hn => f1.2.2.2.2 k hk (fun e => hn (by have := bandf.out k e; omega))⟩ ⟨FA.out.1, FA.out.2.1, FA.out.2.2.1, FA.out.2.2.2.1, fun k hk hn => FA.out.2.2.2.2 k hk (fun e => hn (by
      obtain ⟨i, hi, e⟩ := e
      match i, hi with
      | 0, _ => have := bandx.out k e; omega
      | 1, _ => have := bandy.out k e; omega
      | 2, _ => have := bandp.out k e; omega
      | 3, _ => have := bando.out k e; omega
      | 4, _ => have := bandq.out k e; omega
      | 5, _ => have := bandm.out k e; omega))⟩ (fun k _ e => e)
    exact b.trans (below_far f2 w.heap.size b.size (fun k hk => hk))
  clear FA FB M S DJ
  go_wp2_with fail
  go_ret
  exact ⟨rfl, BF.out⟩
end chunkMemory
end Go.Proofs.YtobkmepamgdccaaGreatDoor
