/- The walk of ValidMemory. -/
import Derived.Test.YtikokjclhpgocabDoorBp
import Derived.Test.YtikokjclhpgocabDoorBr
import Derived.Test.YtikokjclhpgocabDoorLawVaA
namespace Go.Proofs.YtikokjclhpgocabDoor
open Go.RowKit
set_option maxRecDepth 20000 in
set_option maxHeartbeats 16000000 in
theorem memoryVaW (s k : Int) (zr : List UInt8) (v vu lv : Value) (sf uf fs : FL) (w : World) (hv : HoldsF w v sf) (hu : HoldsF w vu uf) (hr : HoldsF w lv fs) (hb : bulkF sf + bulkF uf + bulkF fs ≤ 1048576) (E : EvD w) :
    Calls Tryd.prog 3 #[v, vu, .agg #[.int .i64 s, .string ⟨zr.toArray⟩, .int .i64 k, lv]] w fun e w' => e = .returned (.bool true) ∧ Below w.heap.size w w' := by
  have hs := bulkF_len sf
  have hq := bulkF_len uf
  have hl := bulkF_len fs
  have al := ask_len dtF fs
  have ml := join_len_le sf uf
  have mle : (mergeM sf uf).length ≤ 2097152 := by
    unfold mergeM
    split <;> omega
  have Ffs : Fit sf := fit_bulk (n := 1048576) (by omega) (by omega)
  have Ffu : Fit uf := fit_bulk (n := 1048576) (by omega) (by omega)
  have DD := hide' (dtJ fs lmN (by omega))
  have CM := hide' (fun W (h : Below w.heap.size w W) => mergeC v vu sf uf W (holdsF_mono hv h) (holdsF_mono hu h) Ffs Ffu (by omega))
  have CMR := hide' (fun W (h : Below w.heap.size w W) => mergeRC v vu sf uf W (holdsF_mono hv h) (holdsF_mono hu h) Ffs Ffu (by omega))
  have CA := hide' (fun W (h : Below w.heap.size w W) => askC s k zr lv fs dtF W (holdsF_mono hr h) (by omega) (evD_below E h) DD.out.1)
  have CAR := hide' (fun W (h : Below w.heap.size w W) => askRC s k zr lv fs dtF W (holdsF_mono hr h) (by omega) DD.out)
  have CC := hide' (fun W (h : Below w.heap.size w W) => copyF v sf W (holdsF_mono hv h) (by omega))
  have HV := hide' hv
  obtain ⟨la, lc, _, _, el, -⟩ := holdsF_parts hr
  obtain ⟨sa, sc, _, _, es, -⟩ := holdsF_parts hv
  obtain ⟨ua, uc, _, _, eu, -⟩ := holdsF_parts hu
  subst el es eu
  clear hv hu hr E DD Ffs Ffu ml
  generalize mergeM sf uf = mg at CM CMR mle
  generalize askOf dtF fs = ak at CA CAR al
  have b0 := below_alloc' w (.cells #[.int .i64 s, .string ⟨zr.toArray⟩, .int .i64 k, .slice la fs.length lc] 24)
  have P0 := hide' (show Blk w.heap.size (w.alloc (.cells #[.int .i64 s, .string ⟨zr.toArray⟩, .int .i64 k, .slice la fs.length lc] 24)) [.int .i64 s, .string ⟨zr.toArray⟩, .int .i64 k, .slice la fs.length lc] from cells_lit w _ _)
  have B0 := hide' b0
  have c0 := hide' (aliveVa (w.alloc (.cells #[.int .i64 s, .string ⟨zr.toArray⟩, .int .i64 k, .slice la fs.length lc] 24)))
  clear b0
  go_enter Tryd.func3, Tryd.ntmps3
  go_wp2_with fail
  refine c0.out.mono ?_
  rintro e w1 ⟨rfl, b1⟩
  have B1 := hide' (bt' B0.out b1)
  have S1 := hide' B1.out.size
  have P1 := hide' (cells_below P0.out b1)
  clear b1 c0 B0 P0
  go_wp2_with fail
  refine (CM.out _ B1.out).mono ?_
  rintro e w2 ⟨ua, rfl, ho⟩
  have n1 := hide' ho.2
  have B2 := hide' (bt' B1.out n1.out)
  have Z1 := hide' n1.out.size
  have P2 := hide' (cells_below P1.out n1.out)
  have Oa := hide' ho
  have banda := hide' ho.1.lt
  clear ho
  clear n1 B1 P1
  go_wp2_with fail
  refine (CM.out _ B2.out).mono ?_
  rintro e w3 ⟨ub, rfl, ho⟩
  have n2 := hide' ho.2
  have B3 := hide' (bt' B2.out n2.out)
  have Z2 := hide' n2.out.size
  have P3 := hide' (cells_below P2.out n2.out)
  replace Oa := hide' (ownF_mono Oa.out n2.out)
  have Ob := hide' ho
  have bandb := hide' ho.1.lt
  clear ho
  clear n2 B2 P2
  obtain ⟨i0, i1, i2, i3, iz⟩ := blk4 P3.out
  go_wp2_with fail
  refine (CA.out _ B3.out).mono ?_
  rintro e w4 ⟨uc, rfl, ho⟩
  have n3 := hide' ho.2
  have B4 := hide' (bt' B3.out n3.out)
  have Z3 := hide' n3.out.size
  have P4 := hide' (cells_below P3.out n3.out)
  replace Oa := hide' (ownF_mono Oa.out n3.out)
  replace Ob := hide' (ownF_mono Ob.out n3.out)
  have Oc := hide' ho
  have bandc := hide' ho.1.lt
  clear ho
  clear i0 i1 i2 i3 iz
  clear n3 B3 P3
  obtain ⟨i0, i1, i2, i3, iz⟩ := blk4 P4.out
  go_wp2_with fail
  refine (CA.out _ B4.out).mono ?_
  rintro e w5 ⟨ud, rfl, ho⟩
  have n4 := hide' ho.2
  have B5 := hide' (bt' B4.out n4.out)
  have Z4 := hide' n4.out.size
  have P5 := hide' (cells_below P4.out n4.out)
  replace Oa := hide' (ownF_mono Oa.out n4.out)
  replace Ob := hide' (ownF_mono Ob.out n4.out)
  replace Oc := hide' (ownF_mono Oc.out n4.out)
  have Od := hide' ho
  have bandd := hide' ho.1.lt
  clear ho
  clear i0 i1 i2 i3 iz
  clear n4 B4 P4
  go_wp2_with fail
  refine (CMR.out _ B5.out).mono ?_
  rintro e w6 ⟨um, rfl, ho⟩
  have n5 := hide' ho.2
  have B6 := hide' (bt' B5.out n5.out)
  have Z5 := hide' n5.out.size
  have P6 := hide' (cells_below P5.out n5.out)
  replace Oa := hide' (ownF_mono Oa.out n5.out)
  replace Ob := hide' (ownF_mono Ob.out n5.out)
  replace Oc := hide' (ownF_mono Oc.out n5.out)
  replace Od := hide' (ownF_mono Od.out n5.out)
  have Om := hide' ho
  have bandm := hide' ho.1.lt
  clear ho
  clear n5 B5 P5
  obtain ⟨i0, i1, i2, i3, iz⟩ := blk4 P6.out
  go_wp2_with fail
  refine (CAR.out _ B6.out).mono ?_
  rintro e w7 ⟨ux, rfl, ho⟩
  have n6 := hide' ho.2
  have B7 := hide' (bt' B6.out n6.out)
  have Z6 := hide' n6.out.size
  have P7 := hide' (cells_below P6.out n6.out)
  replace Oa := hide' (ownF_mono Oa.out n6.out)
  replace Ob := hide' (ownF_mono Ob.out n6.out)
  replace Oc := hide' (ownF_mono Oc.out n6.out)
  replace Od := hide' (ownF_mono Od.out n6.out)
  replace Om := hide' (ownF_mono Om.out n6.out)
  have Ox := hide' ho
  have bandx := hide' ho.1.lt
  clear ho
  clear i0 i1 i2 i3 iz
  clear n6 B6 P6
  clear P7 CM CA CMR CAR
  go_wp2_with fail
  refine (sameFv _ _ mg _ (holdsF_own Oa.out) (holdsF_own Om.out) (by omega)).mono ?_
  rintro e w8 ⟨rfl, hb⟩
  have n7 := hide' hb
  clear hb
  have B8 := hide' (bt' B7.out n7.out)
  have Z7 := hide' n7.out.size
  replace Oa := hide' (ownF_mono Oa.out n7.out)
  replace Ob := hide' (ownF_mono Ob.out n7.out)
  replace Oc := hide' (ownF_mono Oc.out n7.out)
  replace Od := hide' (ownF_mono Od.out n7.out)
  replace Om := hide' (ownF_mono Om.out n7.out)
  replace Ox := hide' (ownF_mono Ox.out n7.out)
  clear n7 B7
  go_wp2_with fail
  refine (sameFv _ _ mg _ (holdsF_own Ob.out) (holdsF_own Om.out) (by omega)).mono ?_
  rintro e w9 ⟨rfl, hb⟩
  have n8 := hide' hb
  clear hb
  have B9 := hide' (bt' B8.out n8.out)
  have Z8 := hide' n8.out.size
  replace Oa := hide' (ownF_mono Oa.out n8.out)
  replace Ob := hide' (ownF_mono Ob.out n8.out)
  replace Oc := hide' (ownF_mono Oc.out n8.out)
  replace Od := hide' (ownF_mono Od.out n8.out)
  replace Om := hide' (ownF_mono Om.out n8.out)
  replace Ox := hide' (ownF_mono Ox.out n8.out)
  clear n8 B8
  go_wp2_with fail
  refine (sameFv _ _ ak _ (holdsF_own Oc.out) (holdsF_own Ox.out) (by omega)).mono ?_
  rintro e w10 ⟨rfl, hb⟩
  have n9 := hide' hb
  clear hb
  have B10 := hide' (bt' B9.out n9.out)
  have Z9 := hide' n9.out.size
  replace Oa := hide' (ownF_mono Oa.out n9.out)
  replace Ob := hide' (ownF_mono Ob.out n9.out)
  replace Oc := hide' (ownF_mono Oc.out n9.out)
  replace Od := hide' (ownF_mono Od.out n9.out)
  replace Om := hide' (ownF_mono Om.out n9.out)
  replace Ox := hide' (ownF_mono Ox.out n9.out)
  clear n9 B9
  go_wp2_with fail
  refine (sameFv _ _ ak _ (holdsF_own Od.out) (holdsF_own Ox.out) (by omega)).mono ?_
  rintro e w11 ⟨rfl, hb⟩
  have n10 := hide' hb
  clear hb
  have B11 := hide' (bt' B10.out n10.out)
  have Z10 := hide' n10.out.size
  replace Oa := hide' (ownF_mono Oa.out n10.out)
  replace Ob := hide' (ownF_mono Ob.out n10.out)
  replace Oc := hide' (ownF_mono Oc.out n10.out)
  replace Od := hide' (ownF_mono Od.out n10.out)
  replace Om := hide' (ownF_mono Om.out n10.out)
  replace Ox := hide' (ownF_mono Ox.out n10.out)
  clear n10 B10
  go_wp2_with fail
  refine (CC.out _ B11.out).mono ?_
  rintro e w12 ⟨us, rfl, ho⟩
  have n11 := hide' ho.2
  have B12 := hide' (bt' B11.out n11.out)
  have Z11 := hide' n11.out.size
  replace Oa := hide' (ownF_mono Oa.out n11.out)
  replace Ob := hide' (ownF_mono Ob.out n11.out)
  replace Oc := hide' (ownF_mono Oc.out n11.out)
  replace Od := hide' (ownF_mono Od.out n11.out)
  replace Om := hide' (ownF_mono Om.out n11.out)
  replace Ox := hide' (ownF_mono Ox.out n11.out)
  have Os := hide' ho
  have bands := hide' ho.1.lt
  clear ho
  clear n11 B11
  have zz : Hid (w1.heap.size ≤ w2.heap.size ∧ w2.heap.size ≤ w3.heap.size ∧ w3.heap.size ≤ w4.heap.size ∧ w4.heap.size ≤ w5.heap.size ∧ w5.heap.size ≤ w6.heap.size ∧ w6.heap.size ≤ w7.heap.size ∧ w7.heap.size ≤ w8.heap.size ∧ w8.heap.size ≤ w9.heap.size ∧ w9.heap.size ≤ w10.heap.size ∧ w10.heap.size ≤ w11.heap.size ∧ w11.heap.size ≤ w12.heap.size) := ⟨Z1.out, Z2.out, Z3.out, Z4.out, Z5.out, Z6.out, Z7.out, Z8.out, Z9.out, Z10.out, Z11.out⟩
  clear Z1 Z2 Z3 Z4 Z5 Z6 Z7 Z8 Z9 Z10 Z11
  have Ra := hide' (ownZ_of Oa.out)
  have Rb := hide' (ownZ_of Ob.out)
  have Rc := hide' (ownZ_of Oc.out)
  have Rd := hide' (ownZ_of Od.out)
  have Rm := hide' (ownZ_of Om.out)
  have Rx := hide' (ownZ_of Ox.out)
  have Rs := hide' (ownZ_of Os.out)
  clear Oa Ob Oc Od Om Ox Os
  have Dba : Hid (∀ k, ub.ownBlock = some k → ¬ ua.ownBlock = some k) := fun k e e2 => by
    obtain ⟨y1, y2, y3, y4, y5, y6, y7, y8, y9, y10, y11⟩ := zz.out
    have := bandb.out k e
    have := banda.out k e2
    omega
  have Dca : Hid (∀ k, uc.ownBlock = some k → ¬ ua.ownBlock = some k) := fun k e e2 => by
    obtain ⟨y1, y2, y3, y4, y5, y6, y7, y8, y9, y10, y11⟩ := zz.out
    have := bandc.out k e
    have := banda.out k e2
    omega
  have Dda : Hid (∀ k, ud.ownBlock = some k → ¬ ua.ownBlock = some k) := fun k e e2 => by
    obtain ⟨y1, y2, y3, y4, y5, y6, y7, y8, y9, y10, y11⟩ := zz.out
    have := bandd.out k e
    have := banda.out k e2
    omega
  have Dma : Hid (∀ k, um.ownBlock = some k → ¬ ua.ownBlock = some k) := fun k e e2 => by
    obtain ⟨y1, y2, y3, y4, y5, y6, y7, y8, y9, y10, y11⟩ := zz.out
    have := bandm.out k e
    have := banda.out k e2
    omega
  have Dxa : Hid (∀ k, ux.ownBlock = some k → ¬ ua.ownBlock = some k) := fun k e e2 => by
    obtain ⟨y1, y2, y3, y4, y5, y6, y7, y8, y9, y10, y11⟩ := zz.out
    have := bandx.out k e
    have := banda.out k e2
    omega
  have Dsa : Hid (∀ k, us.ownBlock = some k → ¬ ua.ownBlock = some k) := fun k e e2 => by
    obtain ⟨y1, y2, y3, y4, y5, y6, y7, y8, y9, y10, y11⟩ := zz.out
    have := bands.out k e
    have := banda.out k e2
    omega
  have Dac : Hid (∀ k, ua.ownBlock = some k → ¬ uc.ownBlock = some k) := fun k e e2 => by
    obtain ⟨y1, y2, y3, y4, y5, y6, y7, y8, y9, y10, y11⟩ := zz.out
    have := banda.out k e
    have := bandc.out k e2
    omega
  have Dbc : Hid (∀ k, ub.ownBlock = some k → ¬ uc.ownBlock = some k) := fun k e e2 => by
    obtain ⟨y1, y2, y3, y4, y5, y6, y7, y8, y9, y10, y11⟩ := zz.out
    have := bandb.out k e
    have := bandc.out k e2
    omega
  have Ddc : Hid (∀ k, ud.ownBlock = some k → ¬ uc.ownBlock = some k) := fun k e e2 => by
    obtain ⟨y1, y2, y3, y4, y5, y6, y7, y8, y9, y10, y11⟩ := zz.out
    have := bandd.out k e
    have := bandc.out k e2
    omega
  have Dmc : Hid (∀ k, um.ownBlock = some k → ¬ uc.ownBlock = some k) := fun k e e2 => by
    obtain ⟨y1, y2, y3, y4, y5, y6, y7, y8, y9, y10, y11⟩ := zz.out
    have := bandm.out k e
    have := bandc.out k e2
    omega
  have Dxc : Hid (∀ k, ux.ownBlock = some k → ¬ uc.ownBlock = some k) := fun k e e2 => by
    obtain ⟨y1, y2, y3, y4, y5, y6, y7, y8, y9, y10, y11⟩ := zz.out
    have := bandx.out k e
    have := bandc.out k e2
    omega
  have Dsc : Hid (∀ k, us.ownBlock = some k → ¬ uc.ownBlock = some k) := fun k e e2 => by
    obtain ⟨y1, y2, y3, y4, y5, y6, y7, y8, y9, y10, y11⟩ := zz.out
    have := bands.out k e
    have := bandc.out k e2
    omega
  have La : Hid (∀ k, ua.ownBlock = some k → w.heap.size ≤ k) := fun k e => by
    obtain ⟨y1, y2, y3, y4, y5, y6, y7, y8, y9, y10, y11⟩ := zz.out
    have := banda.out k e
    have := S1.out
    omega
  have Lc : Hid (∀ k, uc.ownBlock = some k → w.heap.size ≤ k) := fun k e => by
    obtain ⟨y1, y2, y3, y4, y5, y6, y7, y8, y9, y10, y11⟩ := zz.out
    have := bandc.out k e
    have := S1.out
    omega
  clear zz S1 banda bandb bandc bandd bandm bandx bands
  go_wp2_with fail
  refine (markedC ua mg.length 0 _ ⟨_, Ra.out⟩ (Nat.zero_le _) (by omega)).mono ?_
  rintro e w13 ⟨rfl, hf⟩
  have BB13 := hide' (B12.out.trans (below_far hf w.heap.size B12.out.size La.out))
  have B13 := BB13
  replace Rb := hide' (ownZ_far Rb.out hf Dba.out)
  replace Rc := hide' (ownZ_far Rc.out hf Dca.out)
  replace Rd := hide' (ownZ_far Rd.out hf Dda.out)
  replace Rm := hide' (ownZ_far Rm.out hf Dma.out)
  replace Rx := hide' (ownZ_far Rx.out hf Dxa.out)
  replace Rs := hide' (ownZ_far Rs.out hf Dsa.out)
  clear hf Ra B12 BB13
  go_wp2_with fail
  refine (markedC uc ak.length 0 _ ⟨_, Rc.out⟩ (Nat.zero_le _) (by omega)).mono ?_
  rintro e w14 ⟨rfl, hf⟩
  have BB14 := hide' (B13.out.trans (below_far hf w.heap.size B13.out.size Lc.out))
  have B14 := BB14
  replace Rb := hide' (ownZ_far Rb.out hf Dbc.out)
  replace Rd := hide' (ownZ_far Rd.out hf Ddc.out)
  replace Rm := hide' (ownZ_far Rm.out hf Dmc.out)
  replace Rx := hide' (ownZ_far Rx.out hf Dxc.out)
  replace Rs := hide' (ownZ_far Rs.out hf Dsc.out)
  clear hf Rc B13 BB14
  have Hb := hide' (ownZ_holds Rb.out)
  have Hd := hide' (ownZ_holds Rd.out)
  have Hm := hide' (ownZ_holds Rm.out)
  have Hx := hide' (ownZ_holds Rx.out)
  have Hs := hide' (ownZ_holds Rs.out)
  clear Rb Rd Rm Rx Rs
  go_wp2_with fail
  refine (sameFv _ _ mg _ Hb.out Hm.out (by omega)).mono ?_
  rintro e w15 ⟨rfl, hb⟩
  have B15 := hide' (bt' B14.out hb)
  replace Hb := hide' (holdsF_mono Hb.out hb)
  replace Hd := hide' (holdsF_mono Hd.out hb)
  replace Hm := hide' (holdsF_mono Hm.out hb)
  replace Hx := hide' (holdsF_mono Hx.out hb)
  replace Hs := hide' (holdsF_mono Hs.out hb)
  clear hb B14
  go_wp2_with fail
  refine (sameFv _ _ ak _ Hd.out Hx.out (by omega)).mono ?_
  rintro e w16 ⟨rfl, hb⟩
  have B16 := hide' (bt' B15.out hb)
  replace Hb := hide' (holdsF_mono Hb.out hb)
  replace Hd := hide' (holdsF_mono Hd.out hb)
  replace Hm := hide' (holdsF_mono Hm.out hb)
  replace Hx := hide' (holdsF_mono Hx.out hb)
  replace Hs := hide' (holdsF_mono Hs.out hb)
  clear hb B15
  go_wp2_with fail
  refine (sameFv _ _ sf _ (holdsF_mono HV.out B16.out) Hs.out (by omega)).mono ?_
  rintro e w17 ⟨rfl, hb⟩
  have B17 := hide' (bt' B16.out hb)
  clear hb B16
  go_wp2_with fail
  go_ret
  exact ⟨rfl, B17.out⟩
end Go.Proofs.YtikokjclhpgocabDoor
