/- The walk of FieldsMemory. -/
import Derived.Test.YtfefihnmmlbfjabDoorFdAq
import Derived.Test.YtfefihnmmlbfjabDoorFdU
import Derived.Test.YtfefihnmmlbfjabDoorFdY
import Derived.Test.YtfefihnmmlbfjabDoorFdPs
import Derived.Test.YtfefihnmmlbfjabDoorFdPq
namespace Go.Proofs.YtfefihnmmlbfjabDoor
open Go.RowKit
def OwnZ (v : Value) (ps : FL) (w : World) : Prop := w.ownsRow 0 43 2 v ps.length (cellsF ps)
theorem ownZ_of {w0 w : World} {v : Value} {ps : FL} (h : OwnF w0 v ps w) : OwnZ v ps w := by
  obtain ⟨hl, h1 | ⟨g, cap, cur, e, _, hr⟩⟩ := h.1
  · exact ⟨hl, .inl h1⟩
  · exact ⟨hl, .inr ⟨g, cap, cur, e, Nat.zero_le _, hr⟩⟩
theorem rowB_of {w0 w : World} {v : Value} {ps : List UInt8} (h : Own w0 v ps w) : RowB v ps.length (ps.map B) w := by
  obtain ⟨hl, h1 | ⟨g, cap, cur, e, _, hr⟩⟩ := h.1
  · exact ⟨hl, .inl h1⟩
  · exact ⟨hl, .inr ⟨g, cap, cur, e, Nat.zero_le _, hr⟩⟩
theorem ownZ_far {v : Value} {ps : FL} {w w' : World} {S : Nat → Prop} (h : OwnZ v ps w) (hf : Far S w w') (hn : ∀ k, v.ownBlock = some k → ¬ S k) : OwnZ v ps w' := by
  have hlt := World.ownsRow.lt h
  obtain ⟨hl, h1 | ⟨g, cap, cur, rfl, hb, hg, hr⟩⟩ := h
  · exact ⟨hl, .inl h1⟩
  · exact ⟨hl, .inr ⟨g, cap, cur, rfl, hb, by rw [hf.2.2.2.2 g (hlt g rfl).2 (hn g rfl)]; exact hg, hr⟩⟩
theorem ownZ_holds {v : Value} {ps : FL} {w : World} (h : OwnZ v ps w) : HoldsF w v ps := by
  have hb : Below (0 : Nat) { w with heap := #[] } w := ⟨rfl, rfl, rfl, Nat.zero_le _, fun k hk => absurd hk (Nat.not_lt_zero k)⟩
  exact holdsF_own (w0 := { w with heap := #[] }) ⟨h, hb⟩
theorem apart2 (w : World) (p q : Value) (n : Nat) (ys zs : List Value) (hp : RowB p n ys w) (hq : RowB q n zs w) (hd : ∀ k, p.ownBlock = some k → q.ownBlock ≠ some k) (hn : n ≤ 100000000) :
    Calls Tryd.prog 19 #[.slice (some ⟨w.heap.size, 0, none⟩) 2 2] (w.alloc (.cells #[p, q] 22)) fun e w' => e = .returned (.bool true) ∧ Far (fun k => p.ownBlock = some k ∨ q.ownBlock = some k) w w' := by
  have fa := far_alloc w (.cells #[p, q] 22)
  have c := apartC w.heap.size (fun i => if i = 0 then p else q) (fun _ => n) (w.alloc (.cells #[p, q] 22)) ?_ ?_ ?_ ?_ (fun _ _ => hn)
  · refine c.mono ?_
    rintro e w' ⟨rfl, hf⟩
    refine ⟨rfl, far_trans (T := Sp (fun i => if i = 0 then p else q)) ⟨fa.1, fa.2.1, fa.2.2.1, fa.2.2.2.1, fun k hk _ => fa.2.2.2.2 k hk (fun e => e)⟩ hf ?_⟩
    rintro k _ ⟨i, hi, e⟩
    dsimp only at e
    by_cases h0 : i = 0
    · rw [if_pos h0] at e; exact Or.inl e
    · rw [if_neg h0] at e; exact Or.inr e
  · intro i hi
    match i, hi with
    | 0, _ => simp
    | 1, _ => simp
  · intro i hi
    match i, hi with
    | 0, _ => intro e; have := (World.ownsRow.lt hp _ e).2; omega
    | 1, _ => intro e; have := (World.ownsRow.lt hq _ e).2; omega
  · intro i hi
    match i, hi with
    | 0, _ => exact ⟨ys, rowB_far hp fa (fun _ _ e => e)⟩
    | 1, _ => exact ⟨zs, rowB_far hq fa (fun _ _ e => e)⟩
  · intro i j k hi hj e1 e2
    match i, j, hi, hj with
    | 0, 0, _, _ => rfl
    | 1, 1, _, _ => rfl
    | 0, 1, _, _ => exact absurd e2 (hd k e1)
    | 1, 0, _, _ => exact absurd e1 (hd k e2)
namespace fieldsMemory
set_option maxRecDepth 20000 in
set_option maxHeartbeats 16000000 in
theorem walk (vb v : Value) (a : ByteArray) (bs : List UInt8) (fs : FL) (w : World) (hvb : HoldsB w vb bs) (hv : HoldsF w v fs) (hl : bs.length ≤ 1048576) (hb : bulkF fs ≤ 1048576) (ha : a.size ≤ 1048576) (E : Env w) :
    Calls Tryd.prog 4 #[vb, v, .string a] w fun e w' => e = .returned (.bool true) ∧ Below w.heap.size w w' := by
  have HV := hide' hv
  have HB := hide' hvb
  have EV := hide' E
  have c0 := hide' (aliveC w E)
  obtain ⟨n, hn⟩ : ∃ y, y = a.data.toList := ⟨_, rfl⟩
  have nl0 : n.length ≤ 1048576 := by rw [hn]; simpa using ha
  have nl : n.length ≤ 140737488351232 := by omega
  obtain rfl : a = ⟨n.toArray⟩ := by rw [hn, ba_eta]
  have pb := print_bulk fs
  have FT := hide' (show Fit fs from fun f hf => by have := bulkF_mem fs f hf; omega)
  have fl := bulkF_len fs
  have al : (withoutOf fs [n]).length ≤ 2000000 := Nat.le_trans (without_len _ _) (by omega)
  have cl : (putOf fs n [118]).length ≤ 1048577 := Nat.le_trans (put_len _ _ _) (by omega)
  have xl : (parseOf bs).1.length ≤ 100 := parse_len bs
  have pl : (printP fs).1.length ≤ 2097152 := by
    unfold printP
    split
    · simp
    · split
      · simp
      · show (printOf fs).length ≤ _
        omega
  clear hv hvb E hn ha
  go_enter Tryd.func4, Tryd.ntmps4
  go_wp2_with fail
  refine c0.out.mono ?_
  rintro e w1 ⟨rfl, b1⟩
  have B1 := hide' b1
  have S1 := hide' b1.size
  clear c0 b1
  go_wp2_with fail
  refine (copyF _ fs _ (holdsF_mono HV.out B1.out) (by omega)).mono ?_
  rintro e w2 ⟨uo, rfl, ho⟩
  have n1 := hide' ho.2
  have B2 := hide' (bt' B1.out n1.out)
  have Z1 := hide' n1.out.size
  have Oo := hide' ho
  have bando := hide' ho.1.lt
  clear ho
  clear n1 B1
  go_wp2_with fail
  refine (withoutTok uo _ fs [n] _ (holdsF_mono (holdsF_own Oo.out) (below_alloc' w2 (.cells #[S n] 9))) (holds_lit1 w2 n) FT.out (one_fit nl) (by omega) (by simp)).mono ?_
  rintro e w3 ⟨ua, rfl, ho⟩
  have ho := ownF_base ho (below_alloc' w2 (.cells #[S n] 9))
  have n2 := hide' ho.2
  have B3 := hide' (bt' B2.out n2.out)
  have Z2 := hide' n2.out.size
  replace Oo := hide' (ownF_mono Oo.out n2.out)
  have Oa := hide' ho
  have banda := hide' ho.1.lt
  clear ho
  clear n2 B2
  go_wp2_with fail
  refine (withoutTok uo _ fs [n] _ (holdsF_mono (holdsF_own Oo.out) (below_alloc' w3 (.cells #[S n] 9))) (holds_lit1 w3 n) FT.out (one_fit nl) (by omega) (by simp)).mono ?_
  rintro e w4 ⟨ub, rfl, ho⟩
  have ho := ownF_base ho (below_alloc' w3 (.cells #[S n] 9))
  have n3 := hide' ho.2
  have B4 := hide' (bt' B3.out n3.out)
  have Z3 := hide' n3.out.size
  replace Oo := hide' (ownF_mono Oo.out n3.out)
  replace Oa := hide' (ownF_mono Oa.out n3.out)
  have Ob := hide' ho
  have bandb := hide' ho.1.lt
  clear ho
  clear n3 B3
  go_wp2_with fail
  refine (putTok uo fs n [118] _ (holdsF_own Oo.out) FT.out nl (by decide) (by omega)).mono ?_
  rintro e w5 ⟨uc, rfl, ho⟩
  have n4 := hide' ho.2
  have B5 := hide' (bt' B4.out n4.out)
  have Z4 := hide' n4.out.size
  replace Oo := hide' (ownF_mono Oo.out n4.out)
  replace Oa := hide' (ownF_mono Oa.out n4.out)
  replace Ob := hide' (ownF_mono Ob.out n4.out)
  have Oc := hide' ho
  have bandc := hide' ho.1.lt
  clear ho
  clear n4 B4
  go_wp2_with fail
  refine (putTok uo fs n [118] _ (holdsF_own Oo.out) FT.out nl (by decide) (by omega)).mono ?_
  rintro e w6 ⟨ud, rfl, ho⟩
  have n5 := hide' ho.2
  have B6 := hide' (bt' B5.out n5.out)
  have Z5 := hide' n5.out.size
  replace Oo := hide' (ownF_mono Oo.out n5.out)
  replace Oa := hide' (ownF_mono Oa.out n5.out)
  replace Ob := hide' (ownF_mono Ob.out n5.out)
  replace Oc := hide' (ownF_mono Oc.out n5.out)
  have Od := hide' ho
  have bandd := hide' ho.1.lt
  clear ho
  clear n5 B5
  go_wp2_with fail
  refine (parseC _ bs _ (holdsB_mono HB.out B6.out) (env_below EV.out B6.out) (by omega)).mono ?_
  rintro e w7 ⟨ux, rfl, ho⟩
  have n6 := hide' ho.2
  have B7 := hide' (bt' B6.out n6.out)
  have Z6 := hide' n6.out.size
  replace Oo := hide' (ownF_mono Oo.out n6.out)
  replace Oa := hide' (ownF_mono Oa.out n6.out)
  replace Ob := hide' (ownF_mono Ob.out n6.out)
  replace Oc := hide' (ownF_mono Oc.out n6.out)
  replace Od := hide' (ownF_mono Od.out n6.out)
  have Ox := hide' ho
  have bandx := hide' ho.1.lt
  clear ho
  clear n6 B6
  go_wp2_with fail
  refine (parseC _ bs _ (holdsB_mono HB.out B7.out) (env_below EV.out B7.out) (by omega)).mono ?_
  rintro e w8 ⟨uy, rfl, ho⟩
  have n7 := hide' ho.2
  have B8 := hide' (bt' B7.out n7.out)
  have Z7 := hide' n7.out.size
  replace Oo := hide' (ownF_mono Oo.out n7.out)
  replace Oa := hide' (ownF_mono Oa.out n7.out)
  replace Ob := hide' (ownF_mono Ob.out n7.out)
  replace Oc := hide' (ownF_mono Oc.out n7.out)
  replace Od := hide' (ownF_mono Od.out n7.out)
  replace Ox := hide' (ownF_mono Ox.out n7.out)
  have Oy := hide' ho
  have bandy := hide' ho.1.lt
  clear ho
  clear n7 B7
  go_wp2_with fail
  refine (printTok uo fs _ (holdsF_own Oo.out) FT.out (by omega) (by omega)).mono ?_
  rintro e w9 ⟨up, rfl, ho⟩
  have n8 := hide' ho.2
  have B9 := hide' (bt' B8.out n8.out)
  have Z8 := hide' n8.out.size
  replace Oo := hide' (ownF_mono Oo.out n8.out)
  replace Oa := hide' (ownF_mono Oa.out n8.out)
  replace Ob := hide' (ownF_mono Ob.out n8.out)
  replace Oc := hide' (ownF_mono Oc.out n8.out)
  replace Od := hide' (ownF_mono Od.out n8.out)
  replace Ox := hide' (ownF_mono Ox.out n8.out)
  replace Oy := hide' (ownF_mono Oy.out n8.out)
  have Op := hide' ho
  have bandp := hide' ho.1.lt
  clear ho
  clear n8 B8
  go_wp2_with fail
  refine (printTok uo fs _ (holdsF_own Oo.out) FT.out (by omega) (by omega)).mono ?_
  rintro e w10 ⟨uq, rfl, ho⟩
  have n9 := hide' ho.2
  have B10 := hide' (bt' B9.out n9.out)
  have Z9 := hide' n9.out.size
  replace Oo := hide' (ownF_mono Oo.out n9.out)
  replace Oa := hide' (ownF_mono Oa.out n9.out)
  replace Ob := hide' (ownF_mono Ob.out n9.out)
  replace Oc := hide' (ownF_mono Oc.out n9.out)
  replace Od := hide' (ownF_mono Od.out n9.out)
  replace Ox := hide' (ownF_mono Ox.out n9.out)
  replace Oy := hide' (ownF_mono Oy.out n9.out)
  replace Op := hide' (own_mono Op.out n9.out)
  have Oq := hide' ho
  have bandq := hide' ho.1.lt
  clear ho
  clear n9 B9
  go_wp2_with fail
  refine (withoutRef _ _ fs [n] _ (holdsF_mono (holdsF_mono HV.out B10.out) (below_alloc' w10 (.cells #[S n] 9))) (holds_lit1 w10 n) FT.out (one_fit nl) (by omega) (by simp)).mono ?_
  rintro e w11 ⟨uw, rfl, ho⟩
  have ho := ownF_base ho (below_alloc' w10 (.cells #[S n] 9))
  have n10 := hide' ho.2
  have B11 := hide' (bt' B10.out n10.out)
  have Z10 := hide' n10.out.size
  replace Oo := hide' (ownF_mono Oo.out n10.out)
  replace Oa := hide' (ownF_mono Oa.out n10.out)
  replace Ob := hide' (ownF_mono Ob.out n10.out)
  replace Oc := hide' (ownF_mono Oc.out n10.out)
  replace Od := hide' (ownF_mono Od.out n10.out)
  replace Ox := hide' (ownF_mono Ox.out n10.out)
  replace Oy := hide' (ownF_mono Oy.out n10.out)
  replace Op := hide' (own_mono Op.out n10.out)
  replace Oq := hide' (own_mono Oq.out n10.out)
  have Ow := hide' ho
  have bandw := hide' ho.1.lt
  clear ho
  clear n10 B10
  go_wp2_with fail
  refine (putRef _ fs n [118] _ (holdsF_mono HV.out B11.out) FT.out nl (by omega)).mono ?_
  rintro e w12 ⟨uz, rfl, ho⟩
  have n11 := hide' ho.2
  have B12 := hide' (bt' B11.out n11.out)
  have Z11 := hide' n11.out.size
  replace Oo := hide' (ownF_mono Oo.out n11.out)
  replace Oa := hide' (ownF_mono Oa.out n11.out)
  replace Ob := hide' (ownF_mono Ob.out n11.out)
  replace Oc := hide' (ownF_mono Oc.out n11.out)
  replace Od := hide' (ownF_mono Od.out n11.out)
  replace Ox := hide' (ownF_mono Ox.out n11.out)
  replace Oy := hide' (ownF_mono Oy.out n11.out)
  replace Op := hide' (own_mono Op.out n11.out)
  replace Oq := hide' (own_mono Oq.out n11.out)
  replace Ow := hide' (ownF_mono Ow.out n11.out)
  have Oz := hide' ho
  have bandz := hide' ho.1.lt
  clear ho
  clear n11 B11
  go_wp2_with fail
  refine (parseRef _ bs _ (holdsB_mono HB.out B12.out) (by omega)).mono ?_
  rintro e w13 ⟨uv, rfl, ho⟩
  have n12 := hide' ho.2
  have B13 := hide' (bt' B12.out n12.out)
  have Z12 := hide' n12.out.size
  replace Oo := hide' (ownF_mono Oo.out n12.out)
  replace Oa := hide' (ownF_mono Oa.out n12.out)
  replace Ob := hide' (ownF_mono Ob.out n12.out)
  replace Oc := hide' (ownF_mono Oc.out n12.out)
  replace Od := hide' (ownF_mono Od.out n12.out)
  replace Ox := hide' (ownF_mono Ox.out n12.out)
  replace Oy := hide' (ownF_mono Oy.out n12.out)
  replace Op := hide' (own_mono Op.out n12.out)
  replace Oq := hide' (own_mono Oq.out n12.out)
  replace Ow := hide' (ownF_mono Ow.out n12.out)
  replace Oz := hide' (ownF_mono Oz.out n12.out)
  have Ov := hide' ho
  have bandv := hide' ho.1.lt
  clear ho
  clear n12 B12
  go_wp2_with fail
  refine (printRef _ fs _ (holdsF_mono HV.out B13.out) FT.out (by omega) (by omega)).mono ?_
  rintro e w14 ⟨uu, rfl, ho⟩
  have n13 := hide' ho.2
  have B14 := hide' (bt' B13.out n13.out)
  have Z13 := hide' n13.out.size
  replace Oo := hide' (ownF_mono Oo.out n13.out)
  replace Oa := hide' (ownF_mono Oa.out n13.out)
  replace Ob := hide' (ownF_mono Ob.out n13.out)
  replace Oc := hide' (ownF_mono Oc.out n13.out)
  replace Od := hide' (ownF_mono Od.out n13.out)
  replace Ox := hide' (ownF_mono Ox.out n13.out)
  replace Oy := hide' (ownF_mono Oy.out n13.out)
  replace Op := hide' (own_mono Op.out n13.out)
  replace Oq := hide' (own_mono Oq.out n13.out)
  replace Ow := hide' (ownF_mono Ow.out n13.out)
  replace Oz := hide' (ownF_mono Oz.out n13.out)
  replace Ov := hide' (ownF_mono Ov.out n13.out)
  have Ou := hide' ho
  have bandu := hide' ho.1.lt
  clear ho
  clear n13 B13
  generalize (parseOf bs).2 = er
  generalize (printP fs).2 = er2
  generalize withoutOf fs [n] = fa at Oa Ob Ow al
  generalize putOf fs n [118] = fc at Oc Od Oz cl
  generalize (parseOf bs).1 = fx at Ox Oy Ov xl
  generalize (printP fs).1 = fp at Op Oq Ou pl
  go_wp2_with fail
  refine (sameFe _ _ fa _ (holdsF_own Oa.out) (holdsF_own Ow.out) (by omega)).mono ?_
  rintro e w15 ⟨rfl, hb⟩
  have n14 := hide' hb
  clear hb
  have B15 := hide' (bt' B14.out n14.out)
  have Z14 := hide' n14.out.size
  replace Oo := hide' (ownF_mono Oo.out n14.out)
  replace Oa := hide' (ownF_mono Oa.out n14.out)
  replace Ob := hide' (ownF_mono Ob.out n14.out)
  replace Oc := hide' (ownF_mono Oc.out n14.out)
  replace Od := hide' (ownF_mono Od.out n14.out)
  replace Ox := hide' (ownF_mono Ox.out n14.out)
  replace Oy := hide' (ownF_mono Oy.out n14.out)
  replace Op := hide' (own_mono Op.out n14.out)
  replace Oq := hide' (own_mono Oq.out n14.out)
  replace Ow := hide' (ownF_mono Ow.out n14.out)
  replace Oz := hide' (ownF_mono Oz.out n14.out)
  replace Ov := hide' (ownF_mono Ov.out n14.out)
  replace Ou := hide' (own_mono Ou.out n14.out)
  clear n14 B14
  go_wp2_with fail
  refine (sameFe _ _ fc _ (holdsF_own Oc.out) (holdsF_own Oz.out) (by omega)).mono ?_
  rintro e w16 ⟨rfl, hb⟩
  have n15 := hide' hb
  clear hb
  have B16 := hide' (bt' B15.out n15.out)
  have Z15 := hide' n15.out.size
  replace Oo := hide' (ownF_mono Oo.out n15.out)
  replace Oa := hide' (ownF_mono Oa.out n15.out)
  replace Ob := hide' (ownF_mono Ob.out n15.out)
  replace Oc := hide' (ownF_mono Oc.out n15.out)
  replace Od := hide' (ownF_mono Od.out n15.out)
  replace Ox := hide' (ownF_mono Ox.out n15.out)
  replace Oy := hide' (ownF_mono Oy.out n15.out)
  replace Op := hide' (own_mono Op.out n15.out)
  replace Oq := hide' (own_mono Oq.out n15.out)
  replace Ow := hide' (ownF_mono Ow.out n15.out)
  replace Oz := hide' (ownF_mono Oz.out n15.out)
  replace Ov := hide' (ownF_mono Ov.out n15.out)
  replace Ou := hide' (own_mono Ou.out n15.out)
  clear n15 B15
  go_wp2_with fail
  refine (sameFe _ _ fx _ (holdsF_own Ox.out) (holdsF_own Ov.out) (by omega)).mono ?_
  rintro e w17 ⟨rfl, hb⟩
  have n16 := hide' hb
  clear hb
  have B17 := hide' (bt' B16.out n16.out)
  have Z16 := hide' n16.out.size
  replace Oo := hide' (ownF_mono Oo.out n16.out)
  replace Oa := hide' (ownF_mono Oa.out n16.out)
  replace Ob := hide' (ownF_mono Ob.out n16.out)
  replace Oc := hide' (ownF_mono Oc.out n16.out)
  replace Od := hide' (ownF_mono Od.out n16.out)
  replace Ox := hide' (ownF_mono Ox.out n16.out)
  replace Oy := hide' (ownF_mono Oy.out n16.out)
  replace Op := hide' (own_mono Op.out n16.out)
  replace Oq := hide' (own_mono Oq.out n16.out)
  replace Ow := hide' (ownF_mono Ow.out n16.out)
  replace Oz := hide' (ownF_mono Oz.out n16.out)
  replace Ov := hide' (ownF_mono Ov.out n16.out)
  replace Ou := hide' (own_mono Ou.out n16.out)
  clear n16 B16
  go_wp2_with fail
  refine (sameBe _ _ fp _ (holdsB_own Op.out) (holdsB_own Ou.out) (by omega)).mono ?_
  rintro e w18 ⟨rfl, hb⟩
  have n17 := hide' hb
  clear hb
  have B18 := hide' (bt' B17.out n17.out)
  have Z17 := hide' n17.out.size
  replace Oo := hide' (ownF_mono Oo.out n17.out)
  replace Oa := hide' (ownF_mono Oa.out n17.out)
  replace Ob := hide' (ownF_mono Ob.out n17.out)
  replace Oc := hide' (ownF_mono Oc.out n17.out)
  replace Od := hide' (ownF_mono Od.out n17.out)
  replace Ox := hide' (ownF_mono Ox.out n17.out)
  replace Oy := hide' (ownF_mono Oy.out n17.out)
  replace Op := hide' (own_mono Op.out n17.out)
  replace Oq := hide' (own_mono Oq.out n17.out)
  replace Ow := hide' (ownF_mono Ow.out n17.out)
  replace Oz := hide' (ownF_mono Oz.out n17.out)
  replace Ov := hide' (ownF_mono Ov.out n17.out)
  replace Ou := hide' (own_mono Ou.out n17.out)
  clear n17 B17
  go_wp2_with fail
  refine (sameBe _ _ fp _ (holdsB_own Oq.out) (holdsB_own Ou.out) (by omega)).mono ?_
  rintro e w19 ⟨rfl, hb⟩
  have n18 := hide' hb
  clear hb
  have B19 := hide' (bt' B18.out n18.out)
  have Z18 := hide' n18.out.size
  replace Oo := hide' (ownF_mono Oo.out n18.out)
  replace Oa := hide' (ownF_mono Oa.out n18.out)
  replace Ob := hide' (ownF_mono Ob.out n18.out)
  replace Oc := hide' (ownF_mono Oc.out n18.out)
  replace Od := hide' (ownF_mono Od.out n18.out)
  replace Ox := hide' (ownF_mono Ox.out n18.out)
  replace Oy := hide' (ownF_mono Oy.out n18.out)
  replace Op := hide' (own_mono Op.out n18.out)
  replace Oq := hide' (own_mono Oq.out n18.out)
  replace Ow := hide' (ownF_mono Ow.out n18.out)
  replace Oz := hide' (ownF_mono Oz.out n18.out)
  replace Ov := hide' (ownF_mono Ov.out n18.out)
  replace Ou := hide' (own_mono Ou.out n18.out)
  clear n18 B18
  have zz : Hid (w1.heap.size ≤ w2.heap.size ∧ w2.heap.size ≤ w3.heap.size ∧ w3.heap.size ≤ w4.heap.size ∧ w4.heap.size ≤ w5.heap.size ∧ w5.heap.size ≤ w6.heap.size ∧ w6.heap.size ≤ w7.heap.size ∧ w7.heap.size ≤ w8.heap.size ∧ w8.heap.size ≤ w9.heap.size ∧ w9.heap.size ≤ w10.heap.size ∧ w10.heap.size ≤ w11.heap.size ∧ w11.heap.size ≤ w12.heap.size ∧ w12.heap.size ≤ w13.heap.size ∧ w13.heap.size ≤ w14.heap.size ∧ w14.heap.size ≤ w15.heap.size ∧ w15.heap.size ≤ w16.heap.size ∧ w16.heap.size ≤ w17.heap.size ∧ w17.heap.size ≤ w18.heap.size ∧ w18.heap.size ≤ w19.heap.size) := ⟨Z1.out, Z2.out, Z3.out, Z4.out, Z5.out, Z6.out, Z7.out, Z8.out, Z9.out, Z10.out, Z11.out, Z12.out, Z13.out, Z14.out, Z15.out, Z16.out, Z17.out, Z18.out⟩
  clear Z1 Z2 Z3 Z4 Z5 Z6 Z7 Z8 Z9 Z10 Z11 Z12 Z13 Z14 Z15 Z16 Z17 Z18
  have dis : Hid (∀ k, (uo.ownBlock = some k → w1.heap.size ≤ k ∧ k < w2.heap.size) ∧ (ua.ownBlock = some k → w2.heap.size ≤ k ∧ k < w3.heap.size) ∧ (ub.ownBlock = some k → w3.heap.size ≤ k ∧ k < w4.heap.size) ∧ (uc.ownBlock = some k → w4.heap.size ≤ k ∧ k < w5.heap.size) ∧ (ud.ownBlock = some k → w5.heap.size ≤ k ∧ k < w6.heap.size) ∧ (ux.ownBlock = some k → w6.heap.size ≤ k ∧ k < w7.heap.size) ∧ (uy.ownBlock = some k → w7.heap.size ≤ k ∧ k < w8.heap.size) ∧ (up.ownBlock = some k → w8.heap.size ≤ k ∧ k < w9.heap.size) ∧ (uq.ownBlock = some k → w9.heap.size ≤ k ∧ k < w10.heap.size) ∧ (uw.ownBlock = some k → w10.heap.size ≤ k ∧ k < w11.heap.size) ∧ (uz.ownBlock = some k → w11.heap.size ≤ k ∧ k < w12.heap.size) ∧ (uv.ownBlock = some k → w12.heap.size ≤ k ∧ k < w13.heap.size)) := fun k => ⟨bando.out k, banda.out k, bandb.out k, bandc.out k, bandd.out k, bandx.out k, bandy.out k, bandp.out k, bandq.out k, bandw.out k, bandz.out k, bandv.out k⟩
  clear bando banda bandb bandc bandd bandx bandy bandp bandq bandw bandz bandv
  have Ro := hide' (ownZ_of Oo.out)
  have Ra := hide' (ownZ_of Oa.out)
  have Rb := hide' (ownZ_of Ob.out)
  have Rc := hide' (ownZ_of Oc.out)
  have Rd := hide' (ownZ_of Od.out)
  have Rx := hide' (ownZ_of Ox.out)
  have Ry := hide' (ownZ_of Oy.out)
  have Rp := hide' (rowB_of Op.out)
  have Rq := hide' (rowB_of Oq.out)
  have Rw := hide' (ownZ_of Ow.out)
  have Rz := hide' (ownZ_of Oz.out)
  have Rv := hide' (ownZ_of Ov.out)
  clear Oo Oa Ob Oc Od Ox Oy Op Oq Ow Oz Ov Ou
  have D : Hid (∀ k, (uo.ownBlock = some k → ua.ownBlock ≠ some k ∧ uc.ownBlock ≠ some k ∧ ux.ownBlock ≠ some k ∧ up.ownBlock ≠ some k ∧ uq.ownBlock ≠ some k) ∧ (ua.ownBlock = some k → uc.ownBlock ≠ some k ∧ ux.ownBlock ≠ some k ∧ up.ownBlock ≠ some k ∧ uq.ownBlock ≠ some k) ∧ (ub.ownBlock = some k → ua.ownBlock ≠ some k ∧ uc.ownBlock ≠ some k ∧ ux.ownBlock ≠ some k ∧ up.ownBlock ≠ some k ∧ uq.ownBlock ≠ some k) ∧ (uc.ownBlock = some k → ua.ownBlock ≠ some k ∧ ux.ownBlock ≠ some k ∧ up.ownBlock ≠ some k ∧ uq.ownBlock ≠ some k) ∧ (ud.ownBlock = some k → ua.ownBlock ≠ some k ∧ uc.ownBlock ≠ some k ∧ ux.ownBlock ≠ some k ∧ up.ownBlock ≠ some k ∧ uq.ownBlock ≠ some k) ∧ (ux.ownBlock = some k → ua.ownBlock ≠ some k ∧ uc.ownBlock ≠ some k ∧ up.ownBlock ≠ some k ∧ uq.ownBlock ≠ some k) ∧ (uy.ownBlock = some k → ua.ownBlock ≠ some k ∧ uc.ownBlock ≠ some k ∧ ux.ownBlock ≠ some k ∧ up.ownBlock ≠ some k ∧ uq.ownBlock ≠ some k) ∧ (up.ownBlock = some k → ua.ownBlock ≠ some k ∧ uc.ownBlock ≠ some k ∧ ux.ownBlock ≠ some k ∧ uq.ownBlock ≠ some k) ∧ (uq.ownBlock = some k → ua.ownBlock ≠ some k ∧ uc.ownBlock ≠ some k ∧ ux.ownBlock ≠ some k ∧ up.ownBlock ≠ some k) ∧ (uw.ownBlock = some k → ua.ownBlock ≠ some k ∧ uc.ownBlock ≠ some k ∧ ux.ownBlock ≠ some k ∧ up.ownBlock ≠ some k ∧ uq.ownBlock ≠ some k) ∧ (uz.ownBlock = some k → ua.ownBlock ≠ some k ∧ uc.ownBlock ≠ some k ∧ ux.ownBlock ≠ some k ∧ up.ownBlock ≠ some k ∧ uq.ownBlock ≠ some k) ∧ (uv.ownBlock = some k → ua.ownBlock ≠ some k ∧ uc.ownBlock ≠ some k ∧ ux.ownBlock ≠ some k ∧ up.ownBlock ≠ some k ∧ uq.ownBlock ≠ some k)) := by
    intro k
    obtain ⟨g_o, g_a, g_b, g_c, g_d, g_x, g_y, g_p, g_q, g_w, g_z, g_v⟩ := dis.out k
    obtain ⟨y1, y2, y3, y4, y5, y6, y7, y8, y9, y10, y11, y12, y13, y14, y15, y16, y17, y18⟩ := zz.out
    refine ⟨fun e => ⟨fun e2 => by have := g_o e; have := g_a e2; omega, fun e2 => by have := g_o e; have := g_c e2; omega, fun e2 => by have := g_o e; have := g_x e2; omega, fun e2 => by have := g_o e; have := g_p e2; omega, fun e2 => by have := g_o e; have := g_q e2; omega⟩, fun e => ⟨fun e2 => by have := g_a e; have := g_c e2; omega, fun e2 => by have := g_a e; have := g_x e2; omega, fun e2 => by have := g_a e; have := g_p e2; omega, fun e2 => by have := g_a e; have := g_q e2; omega⟩, fun e => ⟨fun e2 => by have := g_b e; have := g_a e2; omega, fun e2 => by have := g_b e; have := g_c e2; omega, fun e2 => by have := g_b e; have := g_x e2; omega, fun e2 => by have := g_b e; have := g_p e2; omega, fun e2 => by have := g_b e; have := g_q e2; omega⟩, fun e => ⟨fun e2 => by have := g_c e; have := g_a e2; omega, fun e2 => by have := g_c e; have := g_x e2; omega, fun e2 => by have := g_c e; have := g_p e2; omega, fun e2 => by have := g_c e; have := g_q e2; omega⟩, fun e => ⟨fun e2 => by have := g_d e; have := g_a e2; omega, fun e2 => by have := g_d e; have := g_c e2; omega, fun e2 => by have := g_d e; have := g_x e2; omega, fun e2 => by have := g_d e; have := g_p e2; omega, fun e2 => by have := g_d e; have := g_q e2; omega⟩, fun e => ⟨fun e2 => by have := g_x e; have := g_a e2; omega, fun e2 => by have := g_x e; have := g_c e2; omega, fun e2 => by have := g_x e; have := g_p e2; omega, fun e2 => by have := g_x e; have := g_q e2; omega⟩, fun e => ⟨fun e2 => by have := g_y e; have := g_a e2; omega, fun e2 => by have := g_y e; have := g_c e2; omega, fun e2 => by have := g_y e; have := g_x e2; omega, fun e2 => by have := g_y e; have := g_p e2; omega, fun e2 => by have := g_y e; have := g_q e2; omega⟩, fun e => ⟨fun e2 => by have := g_p e; have := g_a e2; omega, fun e2 => by have := g_p e; have := g_c e2; omega, fun e2 => by have := g_p e; have := g_x e2; omega, fun e2 => by have := g_p e; have := g_q e2; omega⟩, fun e => ⟨fun e2 => by have := g_q e; have := g_a e2; omega, fun e2 => by have := g_q e; have := g_c e2; omega, fun e2 => by have := g_q e; have := g_x e2; omega, fun e2 => by have := g_q e; have := g_p e2; omega⟩, fun e => ⟨fun e2 => by have := g_w e; have := g_a e2; omega, fun e2 => by have := g_w e; have := g_c e2; omega, fun e2 => by have := g_w e; have := g_x e2; omega, fun e2 => by have := g_w e; have := g_p e2; omega, fun e2 => by have := g_w e; have := g_q e2; omega⟩, fun e => ⟨fun e2 => by have := g_z e; have := g_a e2; omega, fun e2 => by have := g_z e; have := g_c e2; omega, fun e2 => by have := g_z e; have := g_x e2; omega, fun e2 => by have := g_z e; have := g_p e2; omega, fun e2 => by have := g_z e; have := g_q e2; omega⟩, fun e => ⟨fun e2 => by have := g_v e; have := g_a e2; omega, fun e2 => by have := g_v e; have := g_c e2; omega, fun e2 => by have := g_v e; have := g_x e2; omega, fun e2 => by have := g_v e; have := g_p e2; omega, fun e2 => by have := g_v e; have := g_q e2; omega⟩⟩
  have LOW : Hid (∀ k, (ua.ownBlock = some k ∨ uc.ownBlock = some k ∨ ux.ownBlock = some k ∨ up.ownBlock = some k ∨ uq.ownBlock = some k) → w1.heap.size ≤ k) := by
    intro k hk
    obtain ⟨g_o, g_a, g_b, g_c, g_d, g_x, g_y, g_p, g_q, g_w, g_z, g_v⟩ := dis.out k
    obtain ⟨y1, y2, y3, y4, y5, y6, y7, y8, y9, y10, y11, y12, y13, y14, y15, y16, y17, y18⟩ := zz.out
    rcases hk with e | e | e | e | e
    · have := g_a e; omega
    · have := g_c e; omega
    · have := g_x e; omega
    · have := g_p e; omega
    · have := g_q e; omega
  clear dis
  have FF := hide' (far_refl (fun k => ua.ownBlock = some k ∨ uc.ownBlock = some k ∨ ux.ownBlock = some k ∨ up.ownBlock = some k ∨ uq.ownBlock = some k) w19)
  go_wp2_with fail
  refine (markedC ua fa.length 0 _ ⟨_, Ra.out⟩ (Nat.zero_le _) (by omega)).mono ?_
  rintro e w20 ⟨rfl, hf⟩
  have f19 := hide' hf
  clear hf
  replace FF := hide' (far_trans FF.out f19.out (fun k _ e => Or.inl e))
  replace Ro := hide' (ownZ_far Ro.out f19.out (fun k e e2 => ((D.out k).1 e).1 e2))
  replace Rb := hide' (ownZ_far Rb.out f19.out (fun k e e2 => ((D.out k).2.2.1 e).1 e2))
  replace Rc := hide' (ownZ_far Rc.out f19.out (fun k e e2 => ((D.out k).2.2.2.1 e).1 e2))
  replace Rd := hide' (ownZ_far Rd.out f19.out (fun k e e2 => ((D.out k).2.2.2.2.1 e).1 e2))
  replace Rx := hide' (ownZ_far Rx.out f19.out (fun k e e2 => ((D.out k).2.2.2.2.2.1 e).1 e2))
  replace Ry := hide' (ownZ_far Ry.out f19.out (fun k e e2 => ((D.out k).2.2.2.2.2.2.1 e).1 e2))
  replace Rp := hide' (rowB_far Rp.out f19.out (fun k e e2 => ((D.out k).2.2.2.2.2.2.2.1 e).1 e2))
  replace Rq := hide' (rowB_far Rq.out f19.out (fun k e e2 => ((D.out k).2.2.2.2.2.2.2.2.1 e).1 e2))
  replace Rw := hide' (ownZ_far Rw.out f19.out (fun k e e2 => ((D.out k).2.2.2.2.2.2.2.2.2.1 e).1 e2))
  replace Rz := hide' (ownZ_far Rz.out f19.out (fun k e e2 => ((D.out k).2.2.2.2.2.2.2.2.2.2.1 e).1 e2))
  replace Rv := hide' (ownZ_far Rv.out f19.out (fun k e e2 => ((D.out k).2.2.2.2.2.2.2.2.2.2.2 e).1 e2))
  clear f19 Ra
  go_wp2_with fail
  refine (markedC uc fc.length 0 _ ⟨_, Rc.out⟩ (Nat.zero_le _) (by omega)).mono ?_
  rintro e w21 ⟨rfl, hf⟩
  have f20 := hide' hf
  clear hf
  replace FF := hide' (far_trans FF.out f20.out (fun k _ e => Or.inr (Or.inl e)))
  replace Ro := hide' (ownZ_far Ro.out f20.out (fun k e e2 => ((D.out k).1 e).2.1 e2))
  replace Rb := hide' (ownZ_far Rb.out f20.out (fun k e e2 => ((D.out k).2.2.1 e).2.1 e2))
  replace Rd := hide' (ownZ_far Rd.out f20.out (fun k e e2 => ((D.out k).2.2.2.2.1 e).2.1 e2))
  replace Rx := hide' (ownZ_far Rx.out f20.out (fun k e e2 => ((D.out k).2.2.2.2.2.1 e).2.1 e2))
  replace Ry := hide' (ownZ_far Ry.out f20.out (fun k e e2 => ((D.out k).2.2.2.2.2.2.1 e).2.1 e2))
  replace Rp := hide' (rowB_far Rp.out f20.out (fun k e e2 => ((D.out k).2.2.2.2.2.2.2.1 e).2.1 e2))
  replace Rq := hide' (rowB_far Rq.out f20.out (fun k e e2 => ((D.out k).2.2.2.2.2.2.2.2.1 e).2.1 e2))
  replace Rw := hide' (ownZ_far Rw.out f20.out (fun k e e2 => ((D.out k).2.2.2.2.2.2.2.2.2.1 e).2.1 e2))
  replace Rz := hide' (ownZ_far Rz.out f20.out (fun k e e2 => ((D.out k).2.2.2.2.2.2.2.2.2.2.1 e).2.1 e2))
  replace Rv := hide' (ownZ_far Rv.out f20.out (fun k e e2 => ((D.out k).2.2.2.2.2.2.2.2.2.2.2 e).2.1 e2))
  clear f20 Rc
  go_wp2_with fail
  refine (markedC ux fx.length 0 _ ⟨_, Rx.out⟩ (Nat.zero_le _) (by omega)).mono ?_
  rintro e w22 ⟨rfl, hf⟩
  have f21 := hide' hf
  clear hf
  replace FF := hide' (far_trans FF.out f21.out (fun k _ e => Or.inr (Or.inr (Or.inl e))))
  replace Ro := hide' (ownZ_far Ro.out f21.out (fun k e e2 => ((D.out k).1 e).2.2.1 e2))
  replace Rb := hide' (ownZ_far Rb.out f21.out (fun k e e2 => ((D.out k).2.2.1 e).2.2.1 e2))
  replace Rd := hide' (ownZ_far Rd.out f21.out (fun k e e2 => ((D.out k).2.2.2.2.1 e).2.2.1 e2))
  replace Ry := hide' (ownZ_far Ry.out f21.out (fun k e e2 => ((D.out k).2.2.2.2.2.2.1 e).2.2.1 e2))
  replace Rp := hide' (rowB_far Rp.out f21.out (fun k e e2 => ((D.out k).2.2.2.2.2.2.2.1 e).2.2.1 e2))
  replace Rq := hide' (rowB_far Rq.out f21.out (fun k e e2 => ((D.out k).2.2.2.2.2.2.2.2.1 e).2.2.1 e2))
  replace Rw := hide' (ownZ_far Rw.out f21.out (fun k e e2 => ((D.out k).2.2.2.2.2.2.2.2.2.1 e).2.2.1 e2))
  replace Rz := hide' (ownZ_far Rz.out f21.out (fun k e e2 => ((D.out k).2.2.2.2.2.2.2.2.2.2.1 e).2.2.1 e2))
  replace Rv := hide' (ownZ_far Rv.out f21.out (fun k e e2 => ((D.out k).2.2.2.2.2.2.2.2.2.2.2 e).2.2.1 e2))
  clear f21 Rx
  have al22 := hide' (far_alloc w22 (.cells #[up, uq] 22))
  have AP := hide' (apart2 w22 up uq fp.length _ _ Rp.out Rq.out (fun k e => ((D.out k).2.2.2.2.2.2.2.1 e).2.2.2) (by omega))
  obtain ⟨sp1, sp2, rfl, _⟩ := rowB_form Rp.out
  obtain ⟨sq1, sq2, rfl, _⟩ := rowB_form Rq.out
  go_wp2_with fail
  refine AP.out.mono ?_
  rintro e w23 ⟨rfl, hf⟩
  have f22 := hide' hf
  clear hf AP
  replace FF := hide' (far_trans FF.out f22.out (fun k _ e => e.elim (fun e => Or.inr (Or.inr (Or.inr (Or.inl e)))) (fun e => Or.inr (Or.inr (Or.inr (Or.inr e))))))
  have Ho := hide' (ownZ_holds (ownZ_far Ro.out f22.out (fun k e e2 => e2.elim (fun e2 => ((D.out k).1 e).2.2.2.1 e2) (fun e2 => ((D.out k).1 e).2.2.2.2 e2))))
  have Hb := hide' (ownZ_holds (ownZ_far Rb.out f22.out (fun k e e2 => e2.elim (fun e2 => ((D.out k).2.2.1 e).2.2.2.1 e2) (fun e2 => ((D.out k).2.2.1 e).2.2.2.2 e2))))
  have Hd := hide' (ownZ_holds (ownZ_far Rd.out f22.out (fun k e e2 => e2.elim (fun e2 => ((D.out k).2.2.2.2.1 e).2.2.2.1 e2) (fun e2 => ((D.out k).2.2.2.2.1 e).2.2.2.2 e2))))
  have Hy := hide' (ownZ_holds (ownZ_far Ry.out f22.out (fun k e e2 => e2.elim (fun e2 => ((D.out k).2.2.2.2.2.2.1 e).2.2.2.1 e2) (fun e2 => ((D.out k).2.2.2.2.2.2.1 e).2.2.2.2 e2))))
  have Hw := hide' (ownZ_holds (ownZ_far Rw.out f22.out (fun k e e2 => e2.elim (fun e2 => ((D.out k).2.2.2.2.2.2.2.2.2.1 e).2.2.2.1 e2) (fun e2 => ((D.out k).2.2.2.2.2.2.2.2.2.1 e).2.2.2.2 e2))))
  have Hz := hide' (ownZ_holds (ownZ_far Rz.out f22.out (fun k e e2 => e2.elim (fun e2 => ((D.out k).2.2.2.2.2.2.2.2.2.2.1 e).2.2.2.1 e2) (fun e2 => ((D.out k).2.2.2.2.2.2.2.2.2.2.1 e).2.2.2.2 e2))))
  have Hv := hide' (ownZ_holds (ownZ_far Rv.out f22.out (fun k e e2 => e2.elim (fun e2 => ((D.out k).2.2.2.2.2.2.2.2.2.2.2 e).2.2.2.1 e2) (fun e2 => ((D.out k).2.2.2.2.2.2.2.2.2.2.2 e).2.2.2.2 e2))))
  clear Rp Rq f22 al22 Ro Rb Rd Ry Rw Rz Rv
  have BB : Hid (Below w.heap.size w w23) := by
    unfold Hid
    obtain ⟨y1, y2, y3, y4, y5, y6, y7, y8, y9, y10, y11, y12, y13, y14, y15, y16, y17, y18⟩ := zz.out
    have b := B19.out
    have s1 := S1.out
    exact b.trans (below_far FF.out w.heap.size b.size (fun k hk => by have := LOW.out k hk; omega))
  clear FF LOW D zz S1 B19
  go_wp2_with fail
  refine (sameFe _ _ fa _ Hb.out Hw.out (by omega)).mono ?_
  rintro e w24 ⟨rfl, hb⟩
  replace BB := hide' (bt' BB.out hb)
  replace Ho := hide' (holdsF_mono Ho.out hb)
  replace Hb := hide' (holdsF_mono Hb.out hb)
  replace Hd := hide' (holdsF_mono Hd.out hb)
  replace Hy := hide' (holdsF_mono Hy.out hb)
  replace Hw := hide' (holdsF_mono Hw.out hb)
  replace Hz := hide' (holdsF_mono Hz.out hb)
  replace Hv := hide' (holdsF_mono Hv.out hb)
  clear hb
  go_wp2_with fail
  refine (sameFe _ _ fc _ Hd.out Hz.out (by omega)).mono ?_
  rintro e w25 ⟨rfl, hb⟩
  replace BB := hide' (bt' BB.out hb)
  replace Ho := hide' (holdsF_mono Ho.out hb)
  replace Hb := hide' (holdsF_mono Hb.out hb)
  replace Hd := hide' (holdsF_mono Hd.out hb)
  replace Hy := hide' (holdsF_mono Hy.out hb)
  replace Hw := hide' (holdsF_mono Hw.out hb)
  replace Hz := hide' (holdsF_mono Hz.out hb)
  replace Hv := hide' (holdsF_mono Hv.out hb)
  clear hb
  go_wp2_with fail
  refine (sameFe _ _ fx _ Hy.out Hv.out (by omega)).mono ?_
  rintro e w26 ⟨rfl, hb⟩
  replace BB := hide' (bt' BB.out hb)
  replace Ho := hide' (holdsF_mono Ho.out hb)
  replace Hb := hide' (holdsF_mono Hb.out hb)
  replace Hd := hide' (holdsF_mono Hd.out hb)
  replace Hy := hide' (holdsF_mono Hy.out hb)
  replace Hw := hide' (holdsF_mono Hw.out hb)
  replace Hz := hide' (holdsF_mono Hz.out hb)
  replace Hv := hide' (holdsF_mono Hv.out hb)
  clear hb
  go_wp2_with fail
  refine (sameFe _ _ fs _ Ho.out (holdsF_mono HV.out BB.out) (by omega)).mono ?_
  rintro e w27 ⟨rfl, hb⟩
  replace BB := hide' (bt' BB.out hb)
  clear hb
  go_wp2_with fail
  go_ret
  exact ⟨rfl, BB.out⟩
end fieldsMemory
end Go.Proofs.YtfefihnmmlbfjabDoor
