/- The walk of HeadMemory. -/
import Derived.Test.YtbbaajlabpjnlabGreatDoorHdJ
import Derived.Test.YtbbaajlabpjnlabGreatDoorHdO
import Derived.Test.YtbbaajlabpjnlabGreatDoorHdZ
import Derived.Test.YtbbaajlabpjnlabGreatDoorBf
import Derived.Test.YtbbaajlabpjnlabGreatDoorMemZ
import Derived.Test.YtbbaajlabpjnlabGreatDoorOpnR
import Derived.Test.YtbbaajlabpjnlabGreatDoorBh
namespace Go.Proofs.YtbbaajlabpjnlabGreatDoor
open Go.RowKit
namespace headMemory
theorem whole_cap (l : List UInt8) (fs : FL) : (wholeP l fs).1.length ≤ 8192 := by
  unfold wholeP
  split
  · simp
  · split
    · simp
    · have h := whole_len l fs
      show (l ++ 13 :: 10 :: ((printP fs).1 ++ [13, 10])).length ≤ 8192
      omega
theorem prQ_cap (r : Rq) : (prQ r).1.length ≤ 8192 := by
  unfold prQ
  split
  · simp
  · exact whole_cap _ _
theorem fs_len (b : List UInt8) : (reqOf b).1.fs.length ≤ 100 := by
  rcases Nat.eq_zero_or_pos (reqOf b).2.1 with h | h
  · rw [(req_nothing b (.inr h)).2]; simp
  · exact (req_host b h).2.2.2.2.2.2.2
set_option maxRecDepth 20000 in
set_option maxHeartbeats 16000000 in
theorem walk0 (v : Value) (bs : List UInt8) (m t : List UInt8) (k : Int) (fs : FL) (lv : Value) (w : World) (h3 : HoldsB w v bs) (h1 : HoldsF w lv fs) (hl : bs.length ≤ 1048576)
    (hm : m.length ≤ 1048576) (ht : t.length ≤ 1048576) (hk : -9223372036854775808 ≤ k ∧ k ≤ 9223372036854775807) (hf : Fit fs) (lf : fs.length ≤ 1048576) (pf : (printOf fs).length ≤ 8000000) (E : Env w) (T : Tab w) :
    Calls Tryz.prog 3 #[v, .agg #[.string ⟨m.toArray⟩, .string ⟨t.toArray⟩, .int .i64 k, lv]] w fun e w' => e = .returned (.bool true) ∧ Below w.heap.size w w' := by
  obtain ⟨la, lc, _, _, e1, _⟩ := holdsF_parts h1
  obtain ⟨ba, bc, e3, _⟩ := holdsB_parts h3
  subst e1 e3
  have b1 := below_alloc' w (.cells #[.string ⟨m.toArray⟩, .string ⟨t.toArray⟩, .int .i64 k, .slice la fs.length lc] 25)
  have q1 := quad_lit w (.string ⟨m.toArray⟩) (.string ⟨t.toArray⟩) (.int .i64 k) (.slice la fs.length lc) 25
  have HR := hide' h1
  have HX := hide' h3
  obtain ⟨W2, hW2⟩ : ∃ W2, W2 = w.alloc (.cells #[.string ⟨m.toArray⟩, .string ⟨t.toArray⟩, .int .i64 k, .slice la fs.length lc] 25) := ⟨_, rfl⟩
  have HW2 := hide' hW2
  rw [← hW2] at b1 q1
  have BB := hide' b1
  have c0 := hide' (aliveHC W2 (env_below E b1))
  have QR := hide' q1
  have qc := prQ_cap ⟨m, t, k, fs⟩
  have ql := fs_len bs
  have cR := hide' (fun W (hb : Below w.heap.size w W) => reqC (.slice ba bs.length bc) bs W (holdsB_mono HX.out hb) (env_below E hb) (by omega))
  have cD := hide' (fun W (hb : Below w.heap.size w W) => refReq (.slice ba bs.length bc) bs W (holdsB_mono HX.out hb) (by omega))
  have pQ := hide' (fun W (hb : Below w.heap.size w W) => printRqTok m t k fs (.slice la fs.length lc) W (holdsF_mono HR.out hb) (tab_below T hb) hf (by omega) (by omega) (by omega) (by omega) hk)
  have dQ := hide' (fun W (hb : Below w.heap.size w W) => printRqRef m t k fs (.slice la fs.length lc) W (holdsF_mono HR.out hb) hf (by omega) (by omega) (by omega) (by omega) hk)
  unfold reqV rqV at cR cD
  generalize prQ ⟨m, t, k, fs⟩ = AQ at pQ dQ qc
  generalize reqOf bs = RQ at cR cD ql
  obtain ⟨xq, eq⟩ := AQ
  obtain ⟨⟨qm, qt, qk, qf⟩, N, ee⟩ := RQ
  simp only at pQ dQ qc cR cD ql
  generalize bs.length = bn at cR cD hl ⊢
  have S0 : Hid (w.heap.size ≤ W2.heap.size) := b1.size
  clear h1 h3 b1 q1 hW2 hf T E pf
  go_enter Tryz.func3, Tryz.ntmps3
  go_wp2_with fail
  rw [← HW2.out]
  refine c0.out.mono ?_
  rintro e w0 ⟨rfl, b⟩
  replace BB := hide' (bt' BB.out b)
  replace QR := hide' (quad_below QR.out b)
  replace S0 := hide' BB.out.size
  clear b c0
  go_wp2_with fail
  refine (cR.out _ BB.out).mono ?_
  rintro e w1 ⟨lx, rfl, ho⟩
  have bandx := hide' ho.1.lt
  have sizx := hide' ho.2.size
  replace BB := hide' (bt' BB.out ho.2)
  replace QR := hide' (quad_below QR.out ho.2)
  have Fx := hide' ho
  obtain ⟨xa, xc, _, _, hl, _⟩ := holdsF_parts (holdsF_own ho)
  subst hl
  clear ho
  have bb := below_alloc' w1 (.cells #[.string ⟨qm.toArray⟩, .string ⟨qt.toArray⟩, .int .i64 qk, .slice xa qf.length xc] 25)
  replace BB := hide' (bt' BB.out bb)
  replace QR := hide' (quad_below QR.out bb)
  replace Fx := hide' (ownF_mono Fx.out bb)
  have Qx := hide' (quad_lit w1 (.string ⟨qm.toArray⟩) (.string ⟨qt.toArray⟩) (.int .i64 qk) (.slice xa qf.length xc) 25)
  clear bb
  go_wp2_with fail
  refine (cR.out _ BB.out).mono ?_
  rintro e w2 ⟨ly, rfl, ho⟩
  have bandy := hide' ho.1.lt
  have sizy := hide' ho.2.size
  replace BB := hide' (bt' BB.out ho.2)
  replace QR := hide' (quad_below QR.out ho.2)
  replace Fx := hide' (ownF_mono Fx.out ho.2)
  replace Qx := hide' (quad_below Qx.out ho.2)
  have Fy := hide' ho
  obtain ⟨ya, yc, _, _, hl, _⟩ := holdsF_parts (holdsF_own ho)
  subst hl
  clear ho
  have bb := below_alloc' w2 (.cells #[.string ⟨qm.toArray⟩, .string ⟨qt.toArray⟩, .int .i64 qk, .slice ya qf.length yc] 25)
  replace BB := hide' (bt' BB.out bb)
  replace QR := hide' (quad_below QR.out bb)
  replace Fx := hide' (ownF_mono Fx.out bb)
  replace Qx := hide' (quad_below Qx.out bb)
  replace Fy := hide' (ownF_mono Fy.out bb)
  have Qy := hide' (quad_lit w2 (.string ⟨qm.toArray⟩) (.string ⟨qt.toArray⟩) (.int .i64 qk) (.slice ya qf.length yc) 25)
  clear bb
  go_wp2_with fail
  refine (cD.out _ BB.out).mono ?_
  rintro e w3 ⟨lz, rfl, ho⟩
  have bandz := hide' ho.1.lt
  have sizz := hide' ho.2.size
  replace BB := hide' (bt' BB.out ho.2)
  replace QR := hide' (quad_below QR.out ho.2)
  replace Fx := hide' (ownF_mono Fx.out ho.2)
  replace Qx := hide' (quad_below Qx.out ho.2)
  replace Fy := hide' (ownF_mono Fy.out ho.2)
  replace Qy := hide' (quad_below Qy.out ho.2)
  have Fz := hide' ho
  obtain ⟨za, zc, _, _, hl, _⟩ := holdsF_parts (holdsF_own ho)
  subst hl
  clear ho
  have bb := below_alloc' w3 (.cells #[.string ⟨qm.toArray⟩, .string ⟨qt.toArray⟩, .int .i64 qk, .slice za qf.length zc] 25)
  replace BB := hide' (bt' BB.out bb)
  replace QR := hide' (quad_below QR.out bb)
  replace Fx := hide' (ownF_mono Fx.out bb)
  replace Qx := hide' (quad_below Qx.out bb)
  replace Fy := hide' (ownF_mono Fy.out bb)
  replace Qy := hide' (quad_below Qy.out bb)
  replace Fz := hide' (ownF_mono Fz.out bb)
  have Qz := hide' (quad_lit w3 (.string ⟨qm.toArray⟩) (.string ⟨qt.toArray⟩) (.int .i64 qk) (.slice za qf.length zc) 25)
  clear bb
  obtain ⟨i0, i1, i2, i3, _⟩ := QR.out
  go_wp2_with fail
  refine (pQ.out _ BB.out).mono ?_
  rintro e w4 ⟨vp, rfl, ho⟩
  clear i0 i1 i2 i3
  have bandp := hide' ho.1.lt
  have sizp := hide' ho.2.size
  replace BB := hide' (bt' BB.out ho.2)
  replace QR := hide' (quad_below QR.out ho.2)
  replace Fx := hide' (ownF_mono Fx.out ho.2)
  replace Qx := hide' (quad_below Qx.out ho.2)
  replace Fy := hide' (ownF_mono Fy.out ho.2)
  replace Qy := hide' (quad_below Qy.out ho.2)
  replace Fz := hide' (ownF_mono Fz.out ho.2)
  replace Qz := hide' (quad_below Qz.out ho.2)
  have Rp := hide' ho
  obtain ⟨pa, pc, hl, _⟩ := holdsB_parts (holdsB_own ho)
  subst hl
  clear ho
  obtain ⟨i0, i1, i2, i3, _⟩ := QR.out
  go_wp2_with fail
  refine (pQ.out _ BB.out).mono ?_
  rintro e w5 ⟨vo, rfl, ho⟩
  clear i0 i1 i2 i3
  have bando := hide' ho.1.lt
  have sizo := hide' ho.2.size
  replace BB := hide' (bt' BB.out ho.2)
  replace QR := hide' (quad_below QR.out ho.2)
  replace Fx := hide' (ownF_mono Fx.out ho.2)
  replace Qx := hide' (quad_below Qx.out ho.2)
  replace Fy := hide' (ownF_mono Fy.out ho.2)
  replace Qy := hide' (quad_below Qy.out ho.2)
  replace Fz := hide' (ownF_mono Fz.out ho.2)
  replace Qz := hide' (quad_below Qz.out ho.2)
  replace Rp := hide' (own_mono Rp.out ho.2)
  have Ro := hide' ho
  obtain ⟨oa, oc, hl, _⟩ := holdsB_parts (holdsB_own ho)
  subst hl
  clear ho
  obtain ⟨i0, i1, i2, i3, _⟩ := QR.out
  go_wp2_with fail
  refine (dQ.out _ BB.out).mono ?_
  rintro e w6 ⟨vw, rfl, hh, b⟩
  clear i0 i1 i2 i3
  replace BB := hide' (bt' BB.out b)
  replace QR := hide' (quad_below QR.out b)
  replace Fx := hide' (ownF_mono Fx.out b)
  replace Qx := hide' (quad_below Qx.out b)
  replace Fy := hide' (ownF_mono Fy.out b)
  replace Qy := hide' (quad_below Qy.out b)
  replace Fz := hide' (ownF_mono Fz.out b)
  replace Qz := hide' (quad_below Qz.out b)
  replace Rp := hide' (own_mono Rp.out b)
  replace Ro := hide' (own_mono Ro.out b)
  have HW := hide' hh
  obtain ⟨wa, wc, hl, _⟩ := holdsB_parts hh
  subst hl
  clear hh b
  obtain ⟨i0, i1, i2, i3, _⟩ := Qx.out
  obtain ⟨j0, j1, j2, j3, _⟩ := Qz.out
  go_wp2_with fail
  refine (sameRq _ _ _ qf _ _ _ (holdsF_own Fx.out) (holdsF_own Fz.out) (by omega)).mono ?_
  rintro e w7 ⟨rfl, b⟩
  clear i0 i1 i2 i3 j0 j1 j2 j3
  replace BB := hide' (bt' BB.out b)
  replace QR := hide' (quad_below QR.out b)
  replace Fx := hide' (ownF_mono Fx.out b)
  replace Qx := hide' (quad_below Qx.out b)
  replace Fy := hide' (ownF_mono Fy.out b)
  replace Qy := hide' (quad_below Qy.out b)
  replace Fz := hide' (ownF_mono Fz.out b)
  replace Qz := hide' (quad_below Qz.out b)
  replace Rp := hide' (own_mono Rp.out b)
  replace Ro := hide' (own_mono Ro.out b)
  replace HW := hide' (holdsB_mono HW.out b)
  clear b
  obtain ⟨i0, i1, i2, i3, _⟩ := Qy.out
  obtain ⟨j0, j1, j2, j3, _⟩ := Qz.out
  go_wp2_with fail
  refine (sameRq _ _ _ qf _ _ _ (holdsF_own Fy.out) (holdsF_own Fz.out) (by omega)).mono ?_
  rintro e w8 ⟨rfl, b⟩
  clear i0 i1 i2 i3 j0 j1 j2 j3
  replace BB := hide' (bt' BB.out b)
  replace QR := hide' (quad_below QR.out b)
  replace Fx := hide' (ownF_mono Fx.out b)
  replace Qx := hide' (quad_below Qx.out b)
  replace Fy := hide' (ownF_mono Fy.out b)
  replace Qy := hide' (quad_below Qy.out b)
  replace Fz := hide' (ownF_mono Fz.out b)
  replace Qz := hide' (quad_below Qz.out b)
  replace Rp := hide' (own_mono Rp.out b)
  replace Ro := hide' (own_mono Ro.out b)
  replace HW := hide' (holdsB_mono HW.out b)
  clear b
  go_wp2_with fail
  refine (sameBe _ _ xq _ (holdsB_own Rp.out) HW.out (by omega)).mono ?_
  rintro e w9 ⟨rfl, b⟩
  replace BB := hide' (bt' BB.out b)
  replace QR := hide' (quad_below QR.out b)
  replace Fx := hide' (ownF_mono Fx.out b)
  replace Qx := hide' (quad_below Qx.out b)
  replace Fy := hide' (ownF_mono Fy.out b)
  replace Qy := hide' (quad_below Qy.out b)
  replace Fz := hide' (ownF_mono Fz.out b)
  replace Qz := hide' (quad_below Qz.out b)
  replace Rp := hide' (own_mono Rp.out b)
  replace Ro := hide' (own_mono Ro.out b)
  replace HW := hide' (holdsB_mono HW.out b)
  clear b
  go_wp2_with fail
  refine (sameBe _ _ xq _ (holdsB_own Ro.out) HW.out (by omega)).mono ?_
  rintro e w10 ⟨rfl, b⟩
  replace BB := hide' (bt' BB.out b)
  replace QR := hide' (quad_below QR.out b)
  replace Fx := hide' (ownF_mono Fx.out b)
  replace Qx := hide' (quad_below Qx.out b)
  replace Fy := hide' (ownF_mono Fy.out b)
  replace Qy := hide' (quad_below Qy.out b)
  replace Fz := hide' (ownF_mono Fz.out b)
  replace Qz := hide' (quad_below Qz.out b)
  replace Rp := hide' (own_mono Rp.out b)
  replace Ro := hide' (own_mono Ro.out b)
  replace HW := hide' (holdsB_mono HW.out b)
  clear b
  have Zx := hide' (ownZ_of Fx.out)
  have Zy := hide' (ownZ_of Fy.out)
  have Zz := hide' (ownZ_of Fz.out)
  have Zp := hide' (rowB_of Rp.out)
  have Zo := hide' (rowB_of Ro.out)
  clear Fx Fy Fz Rp Ro HW
  have S : Hid (w0.heap.size ≤ w1.heap.size ∧ w1.heap.size + 1 ≤ w2.heap.size ∧ w2.heap.size + 1 ≤ w3.heap.size ∧ w3.heap.size + 1 ≤ w4.heap.size ∧ w4.heap.size ≤ w5.heap.size) := by
    have a1 := sizx.out
    have a2 := sizy.out
    have a3 := sizz.out
    have a4 := sizp.out
    have a5 := sizo.out
    simp at a2 a3 a4
    exact ⟨a1, a2, a3, a4, a5⟩
  have D : Hid (∀ k, ((Value.slice xa qf.length xc).ownBlock = some k → w0.heap.size ≤ k ∧ k < w1.heap.size) ∧ ((Value.slice ya qf.length yc).ownBlock = some k → w1.heap.size + 1 ≤ k ∧ k < w2.heap.size) ∧ ((Value.slice za qf.length zc).ownBlock = some k → w2.heap.size + 1 ≤ k ∧ k < w3.heap.size) ∧ ((Value.slice pa xq.length pc).ownBlock = some k → w3.heap.size + 1 ≤ k ∧ k < w4.heap.size) ∧ ((Value.slice oa xq.length oc).ownBlock = some k → w4.heap.size ≤ k ∧ k < w5.heap.size)) := by
    intro k
    have a1 := bandx.out k
    have a2 := bandy.out k
    have a3 := bandz.out k
    have a4 := bandp.out k
    have a5 := bando.out k
    have z1 : ∀ (x : World) (o : Obj), (x.alloc o).heap.size = x.heap.size + 1 := fun x o => by simp
    rw [z1] at a2 a3 a4
    exact ⟨a1, a2, a3, a4, a5⟩
  clear bandx bandy bandz bandp bando sizx sizy sizz sizp sizo
  obtain ⟨i0, i1, i2, i3, _⟩ := Qx.out
  go_wp2_with fail
  refine (markedC _ qf.length 0 _ ⟨_, Zx.out⟩ (Nat.zero_le _) (by omega)).mono ?_
  rintro e w11 ⟨rfl, hf⟩
  clear i0 i1 i2 i3
  have M := hide' hf
  clear hf
  replace Zy := hide' (ownZ_far Zy.out M.out (fun k e e2 => by have a := (D.out k).1 e2; have b := (D.out k).2.1 e; have c := S.out; omega))
  replace Zz := hide' (ownZ_far Zz.out M.out (fun k e e2 => by have a := (D.out k).1 e2; have b := (D.out k).2.2.1 e; have c := S.out; omega))
  replace Zp := hide' (rowB_far Zp.out M.out (fun k e e2 => by have a := (D.out k).1 e2; have b := (D.out k).2.2.2.1 e; have c := S.out; omega))
  replace Zo := hide' (rowB_far Zo.out M.out (fun k e e2 => by have a := (D.out k).1 e2; have b := (D.out k).2.2.2.2 e; have c := S.out; omega))
  replace Qy := hide' (quad_far Qy.out M.out (fun e2 => by have a := (D.out _).1 e2; have c := S.out; omega))
  replace Qz := hide' (quad_far Qz.out M.out (fun e2 => by have a := (D.out _).1 e2; have c := S.out; omega))
  clear Qx QR Zx
  obtain ⟨i0, i1, i2, i3, _⟩ := Qy.out
  obtain ⟨j0, j1, j2, j3, _⟩ := Qz.out
  go_wp2_with fail
  refine (sameRq _ _ _ qf _ _ _ (ownZ_holds Zy.out) (ownZ_holds Zz.out) (by omega)).mono ?_
  rintro e w12 ⟨rfl, b⟩
  clear i0 i1 i2 i3 j0 j1 j2 j3
  have FB := hide' (far_of_below b)
  replace Zp := hide' (rowB_far Zp.out FB.out (fun k e e2 => e2))
  replace Zo := hide' (rowB_far Zo.out FB.out (fun k e e2 => e2))
  clear b Qy Qz Zy Zz
  have AP := hide' (apart2 w12 (Value.slice pa xq.length pc) (Value.slice oa xq.length oc) xq.length _ _ Zp.out Zo.out (fun k e e2 => by have a := (D.out k).2.2.2.1 e; have b := (D.out k).2.2.2.2 e2; omega) (by omega))
  go_wp2_with fail
  refine AP.out.mono ?_
  rintro e w13 ⟨rfl, hf⟩
  have FA := hide' hf
  clear hf AP
  have BF : Hid (Below w.heap.size w w13) := by
    have b := BB.out
    have s0 := S0.out
    have c := S.out
    have f1 := far_trans M.out FB.out (fun k _ e => absurd e (fun e => e))
    have f2 := far_trans (S := fun k => w.heap.size ≤ k) (T := fun k => w.heap.size ≤ k) (a := w10) (b := w12) (c := w13) ⟨f1.1, f1.2.1, f1.2.2.1, f1.2.2.2.1, fun k hk hn => f1.2.2.2.2 k hk (fun e => hn (by have := (D.out k).1 e; omega))⟩ ⟨FA.out.1, FA.out.2.1, FA.out.2.2.1, FA.out.2.2.2.1, fun k hk hn => FA.out.2.2.2.2 k hk (fun e => hn (e.elim (fun e => by have := (D.out k).2.2.2.1 e; omega) (fun e => by have := (D.out k).2.2.2.2 e; omega)))⟩ (fun k _ e => e)
    exact b.trans (below_far f2 w.heap.size b.size (fun k hk => hk))
  clear FA FB M D S
  go_wp2_with fail
  go_ret
  exact ⟨rfl, BF.out⟩
theorem fit_bulk (fs : FL) (h : bulkF fs ≤ 1048576) : Fit fs := by
  intro f hf
  have := bulkF_mem fs f hf
  omega
theorem walk (v : Value) (bs : List UInt8) (m t : List UInt8) (k : Int) (fs : FL) (lv : Value) (w : World) (h3 : HoldsB w v bs) (h1 : HoldsF w lv fs) (hl : bs.length ≤ 1048576)
    (hb1 : m.length + t.length + bulkF fs ≤ 1048576) (hk : -9223372036854775808 ≤ k ∧ k ≤ 9223372036854775807) (E : Env w) (T : Tab w) :
    Calls Tryz.prog 3 #[v, .agg #[.string ⟨m.toArray⟩, .string ⟨t.toArray⟩, .int .i64 k, lv]] w fun e w' => e = .returned (.bool true) ∧ Below w.heap.size w w' := by
  have a1 := bulkF_len fs
  have p1 := print_bulk fs
  exact walk0 v bs m t k fs lv w h3 h1 hl (by omega) (by omega) hk (fit_bulk fs (by omega)) (by omega) (by omega) E T
end headMemory
end Go.Proofs.YtbbaajlabpjnlabGreatDoor
