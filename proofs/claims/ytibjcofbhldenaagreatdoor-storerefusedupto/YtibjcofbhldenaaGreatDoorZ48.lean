/- The walk of StoreRefused. -/
import Derived.Deep.RegionHeld3
import Derived.Test.YtibjcofbhldenaaGreatDoorZ46
import Derived.Test.YtibjcofbhldenaaGreatDoorZ44
import Derived.Test.YtibjcofbhldenaaGreatDoorZ47
import Derived.Test.YtibjcofbhldenaaGreatDoorZ40
import Derived.Test.YtibjcofbhldenaaGreatDoorZ15
import Derived.Test.YtibjcofbhldenaaGreatDoorZ45
namespace Go.Proofs.YtibjcofbhldenaaGreatDoor
open Go.RowKit Go.Maps
set_option maxRecDepth 20000
theorem openBad (g : Nat) (slots : Int) (h : slots < 0 ∨ 4096 < slots) (W : World) :
    Calls Tryz.prog 10 #[lptr g, .int .i64 slots] W fun e W' => e = .returned (.tuple #[.pointer none, .int .i64 131]) ∧ W' = W := by
  by_cases h0 : slots < 0
  · have q : decide (slots < 0) = true := by simpa using h0
    go_enter Tryz.func10, Tryz.ntmps10
    go_wp2_with fail
    go_ret2
    exact ⟨rfl, rfl⟩
  · have q : decide (slots < 0) = false := by simpa using h0
    have q2 : decide (4096 < slots) = true := by simp; omega
    go_enter Tryz.func10, Tryz.ntmps10
    go_wp2_with fail
    go_ret2
    exact ⟨rfl, rfl⟩
theorem holdsSp_parts {w : World} {v : Value} {os : List Sp} (h : HoldsSp w v os) : ∃ ao cap b off, v = .slice ao os.length cap ∧ (0 < os.length → ao = some ⟨b, off, none⟩ ∧ b < w.heap.size ∧ ∀ j (h : j < os.length), ∃ lv bv, EnAt w b (off + j * 10) os[j].1 lv bv ∧ HoldsF w lv os[j].1.r.fs ∧ HoldsB w bv os[j].1.body) := by
  obtain ⟨ao, cap, rfl, h0, hcp, hc⟩ := h
  by_cases hne : os = []
  · subst hne; exact ⟨ao, cap, 0, 0, rfl, fun h => absurd h (by simp)⟩
  · obtain ⟨b, off, e, hlt, hcell⟩ := hc hne
    exact ⟨ao, cap, b, off, rfl, fun _ => ⟨e, hlt, fun j hj => by
      obtain ⟨lv, bv, h1, h2, h3, _⟩ := hcell j hj
      exact ⟨lv, bv, h1, h2, h3⟩⟩⟩
set_option maxHeartbeats 4000000
theorem refusedW (room slots : Int) (v : Value) (os : List Sp) (e : En) (lv bv : Value) (W : World) (E : Env W) (T : Tab W) (hv : HoldsSp W v os) (hF : HoldsF W lv e.r.fs) (hY : HoldsB W bv e.body) (hos : ∀ x ∈ os, Bnd x.1 ∧ x.1.key.length + x.1.vary.length ≤ 1048576) (hol : os.length ≤ 1000000000) (he : Bnd e) (hek : e.key.length + e.vary.length ≤ 1048576) :
    Calls Tryz.prog 6 #[.int .i64 room, .int .i64 slots, v, entV e lv bv] W fun x w' => x = .returned (.bool true) ∧ Below W.heap.size W w' := by
  obtain ⟨la, lc, _, _, e1, -⟩ := holdsF_parts hF
  obtain ⟨ba, bc, e2, -⟩ := holdsB_parts hY
  have BZ : Hid (Below W.heap.size W (W.alloc (.cells (entL e lv bv).toArray 59))) := below_alloc' W _
  have KB : Hid (Blk W.heap.size (W.alloc (.cells (entL e lv bv).toArray 59)) (entL e lv bv)) := by
    have := cells_lit W (entL e lv bv).toArray 59
    exact this
  have HV := hide' (holdsSp_mono hv BZ.out)
  have HFF := hide' (holdsF_mono hF BZ.out)
  have HYY := hide' (holdsB_mono hY BZ.out)
  have HE := hide' (env_below E BZ.out)
  have HT := hide' (tab_below T BZ.out)
  have HOS := hide' hos
  have HEB := hide' he
  subst e1 e2
  obtain ⟨va, vc, b, off, rfl, -⟩ := holdsSp_parts hv
  clear hv hF hY E T hos he
  unfold entL at BZ KB HV HFF HYY HE HT
  obtain ⟨w0, hw0⟩ : ∃ w0, w0 = (W.alloc (.cells [.string ⟨e.key.toArray⟩, .string ⟨e.vary.toArray⟩, .int .i64 e.r.s, .string ⟨e.r.r.toArray⟩, .int .i64 e.r.k, .slice la e.r.fs.length lc, .slice ba e.body.length bc, .int .i64 e.a, .int .i64 e.g].toArray 59)) := ⟨_, rfl⟩
  have HW0 := hide' hw0
  rw [← hw0] at BZ KB HV HFF HYY HE HT
  have CA := hide' (aliveSC w0 HE.out HT.out)
  rw [HW0.out] at CA
  unfold entV
  clear hw0
  go_enter Tryz.func6, Tryz.ntmps6
  go_wp2_with fail
  refine CA.out.mono ?_
  rintro x w1 ⟨rfl, b1⟩
  rw [← HW0.out] at b1
  have B1 := hide' b1
  clear b1 CA HW0
  by_cases r0 : room < 0
  · have d0 : decide (room < 0) = true := by simpa using r0
    go_wp2_with fail
    go_ret
    exact ⟨rfl, BZ.out.trans (B1.out.mono BZ.out.size)⟩
  have d0 : decide (room < 0) = false := by simpa using r0
  by_cases r1 : 1073741824 < room
  · have d1 : decide (1073741824 < room) = true := by simpa using r1
    go_wp2_with fail
    go_ret
    exact ⟨rfl, BZ.out.trans (B1.out.mono BZ.out.size)⟩
  have d1 : decide (1073741824 < room) = false := by simpa using r1
  have CN := hide' (newC (.slice none 0 0) [] room (.slice none 0 0) [] (-1) w1 ⟨none, 0, rfl, fun _ => rfl, Nat.le_refl _, fun h => absurd rfl h⟩ ⟨none, 0, rfl, fun _ => rfl, Nat.le_refl _, fun h => absurd rfl h⟩ (fun f h => by cases h) (by decide) (by decide) (fun z h => by cases h))
  go_wp2_with fail
  refine CN.out.mono ?_
  intro x w2 np
  obtain ⟨nb, ⟨ne, _⟩ | ⟨_, g, o, rfl, hD, hO⟩⟩ := np
  · exfalso
    apply ne
    unfold newE
    rw [if_neg (by omega)]
    rfl
  have B2 := hide' (B1.out.trans (nb.mono B1.out.size))
  have HD : Hid (Dsk o g (sE room (-1) 0) w2) := hD
  have HO : Hid (∀ k, o.has k → w0.heap.size ≤ k) := fun k hk => Nat.le_trans B1.out.size (hO k hk)
  clear nb hD hO CN d0 d1 B1
  by_cases hs : slots < 0 ∨ 4096 < slots
  · have CO := hide' (openBad g slots hs w2)
    go_wp2_with fail
    refine CO.out.mono ?_
    rintro x w3 ⟨rfl, ew⟩
    rw [ew]
    clear ew CO
    go_wp2_with fail
    go_ret
    exact ⟨rfl, BZ.out.trans (B2.out.mono BZ.out.size)⟩
  obtain ⟨n, rfl⟩ : ∃ n : Nat, slots = (n : Int) := ⟨slots.toNat, by omega⟩
  have hn : n ≤ 4096 := by omega
  have CO := hide' (openNew (R := room) (n := n) HD.out hn (fun W' h => by
    have hb := B2.out.trans (h.below B2.out.size HO.out)
    exact ⟨env_below HE.out hb, tab_below HT.out hb⟩))
  clear hs
  go_wp2_with fail
  refine CO.out.mono ?_
  rintro x w3 ⟨lb, sb, tm, o', rfl, hs, hg, h1, h2, h3⟩
  have U3 := hide' (stU_new B2.out HO.out hs hg h1 h3)
  clear hs hg h1 h2 h3 CO HO HD B2
  have CC := hide' (cut13C _ os w3 (holdsSp_mono HV.out U3.out.b) hol)
  go_wp2_with fail
  refine CC.out.mono ?_
  rintro x w4 ⟨u, rfl, hu0, ew⟩
  rw [ew]
  have hu := hu0 w0 HV.out
  obtain ⟨ts, hts⟩ : ∃ ts, ts = os.take 60 := ⟨_, rfl⟩
  rw [← hts] at hu
  have HTS : Hid (∀ x ∈ ts, Bnd x.1 ∧ x.1.key.length + x.1.vary.length ≤ 1048576) := fun x hx => HOS.out x (List.mem_of_mem_take (by rw [← hts]; exact hx))
  have hn60 : ts.length ≤ 60 := by rw [hts, List.length_take]; omega
  obtain ⟨ua, uc, b2, off2, eu, hc⟩ := holdsSp_parts hu
  subst eu
  have HC := hide' hc
  clear hc hu hu0 hts ew w4 CC HOS HV hol
  obtain ⟨m, hm⟩ : ∃ m, m = ts.length := ⟨_, rfl⟩
  have N : Hid (ts.length = m) := hm.symm
  rw [← hm] at hn60 ⊢
  clear hm
  have hroom : Hid (0 ≤ room) := by unfold Hid; omega
  go_wp2_with fail
  go_loopw [12] (fun iv wr => ∃ (i : Nat) (q : LSt × NL), iv = .int .i64 (i : Int) ∧ i ≤ m ∧ Hid (PI room n i q) ∧ Hid (StU w0 g lb sb tm n q wr)) (fun iv _ => m - (intOf iv).toNat)
  case atStart => exact ⟨0, _, rfl, Nat.zero_le _, pi_new hroom.out n, U3⟩
  case round =>
    obtain ⟨i, q, rfl, hi, P, U⟩ := hrel
    by_cases hlt : i < m
    · have G : Hid (i < ts.length) := by unfold Hid; rw [N.out]; exact hlt
      obtain ⟨hao, hblt, hcell⟩ := HC.out (by rw [N.out]; omega)
      subst hao
      obtain ⟨lv, bv, h1, h2, h3⟩ := hcell i G.out
      obtain ⟨h4, h5⟩ := HTS.out _ (List.getElem_mem G.out)
      obtain ⟨c0, c1, c2, c3, c4, c5, c6, c7, c8⟩ := enAt_mono h1 U.out.b hblt
      have CE := hide' (copyEB h4 lv bv wr (holdsF_mono h2 U.out.b) (holdsB_mono h3 U.out.b))
      have CP : Hid (∀ W2 lu bu, OwnF wr lu (ts[i]'G.out).1.r.fs W2 → Own wr bu (ts[i]'G.out).1.body W2 → Calls Tryz.prog 19 #[lptr sb, entV (ts[i]'G.out).1 lu bu] W2 fun x W' => x = .returned (.int .i64 (putT n (ts[i]'G.out).1 q).2) ∧ StU w0 g lb sb tm n (putT n (ts[i]'G.out).1 q).1 W' ∧ Off (fun j => w0.heap.size ≤ j ∧ j < wr.heap.size) W2 W') := fun W2 lu bu hf hy => putK U.out hf.2 P.out.inv P.out.bf _ lu bu (holdsF_own hf) (holdsB_own hy) h4 (by omega) (by omega) HT.out hn (pi_hm P.out (by omega) _ h5) (pi_sml P.out) (by have := P.out.len; omega)
      have PN := hide' (pi_step hn P.out (by omega) _ h5)
      obtain ⟨fa, fc, _, _, e1, -⟩ := holdsF_parts h2
      obtain ⟨ya, yc, e2, -⟩ := holdsB_parts h3
      clear h1 h2 h3 h4 h5 hcell
      generalize (ts[i]'G.out).1 = z at c0 c1 c2 c3 c4 c5 c6 c7 c8 CE CP PN e1 e2
      subst e1 e2
      unfold entV at CE CP
      go_wp2_with fail
      refine CE.out.mono ?_
      rintro x w5 ⟨lu, bu, rfl, hf, hy⟩
      have CP2 := hide' (CP.out w5 lu bu hf hy)
      obtain ⟨xa, xc, _, _, e1, -⟩ := holdsF_parts (holdsF_own hf)
      obtain ⟨za, zc, e2⟩ := row_sl hy.1
      subst e1 e2
      clear hf hy CP CE c0 c1 c2 c3 c4 c5 c6 c7 c8
      go_wp2_with fail
      refine CP2.out.mono ?_
      rintro x w6 ⟨rfl, u6, -⟩
      have U6 := hide' u6
      clear u6 CP2 U P
      go_wp2_with fail
      go_roundw
      case rel => exact ⟨i + 1, _, by go_num, by omega, PN, U6⟩
      case measure => simp [intOf]; omega
    · obtain rfl : i = m := by omega
      clear HC HTS N
      obtain ⟨wq, ewq⟩ : ∃ x, x = wr := ⟨_, rfl⟩
      subst ewq
      obtain ⟨o3, s3, ho3⟩ := U.out.s
      have CI := hide' (idsSC s3 (pi_sml P.out) (by have := P.out.len; omega))
      clear s3 ho3
      go_wp2_with fail
      refine CI.out.mono ?_
      rintro x w5 ⟨iv, rfl, hi5⟩
      have U5 := hide' (stU_below U.out hi5.2)
      have LQ : Hid (wq.heap.size ≤ w5.heap.size) := hi5.2.size
      have IO := hide' hi5
      obtain ⟨ia, ic, bi, oi, hv, hc⟩ := holds_partsC (holds_own hi5)
      have C := hide' hc
      rw [List.length_map] at hv
      subst hv
      obtain ⟨L, hL⟩ : ∃ L, L = q.2.length := ⟨_, rfl⟩
      have N : Hid (q.2.length = L) := hL.symm
      rw [← hL]
      have hL60 : L ≤ 60 := by rw [hL]; have := P.out.len; omega
      clear hL hi5 hc CI
      go_wp2_with fail
      go_loopw [14, 15] (fun bvv kv wr => ∃ (k : Nat) (es : EL), kv = .int .i64 (k : Int) ∧ Hid (k = es.length) ∧ k ≤ L ∧ Hid (Bef w5 q bvv es wr)) (fun _ kv _ => L - (intOf kv).toNat)
      case atStart => exact ⟨0, [], rfl, rfl, Nat.zero_le _, bef_new w5 q⟩
      case round =>
        obtain ⟨k, es, rfl, hke, hk, BE⟩ := hrel
        by_cases hlt : k < L
        · have G : Hid (k < q.2.length) := by unfold Hid; rw [N.out]; exact hlt
          obtain ⟨hao, hblt, hcell⟩ := C.out (by rw [List.length_map, N.out]; omega)
          subst hao
          have ck : wr.cell? ⟨bi, oi + k, none⟩ = some (.string ⟨(q.2[k]'G.out).1.toArray⟩) := by
            rw [BE.out.own.2.cell (p := ⟨bi, oi + k, none⟩) hblt]
            have := hcell k (by rw [List.length_map]; exact G.out)
            rw [List.getElem_map] at this
            exact this
          have hsz := inv_ids P.out.inv _ (List.getElem_mem G.out)
          obtain ⟨en, hen, hbn⟩ := get_in hn P.out.inv (List.getElem_mem G.out)
          have CG := hide' (getU (stU_below U5.out BE.out.own.2) P.out.bf (by rw [Nat.max_eq_right (by omega)]; omega) ⟨(q.2[k]'G.out).1.toArray⟩ (by rw [size_l]; omega) HE.out HT.out)
          rw [show (⟨(q.2[k]'G.out).1.toArray⟩ : ByteArray).data.toList = (q.2[k]'G.out).1 from rfl, hen] at CG
          have HEN : Hid (∀ h : es.length < q.2.length, getT (q.2[es.length]'h).1 q.1.1 q.2 = (en, true)) := fun h => by have := hke.out; subst this; exact hen
          have HBN := hide' hbn
          clear hcell hen hbn
          generalize (q.2[k]'G.out).1 = id at ck hsz CG
          go_wp2_with fail
          refine CG.out.mono ?_
          rintro x w6 ⟨lv2, bv2, rfl, hf, hy⟩
          have HF6 := hide' hf
          have HY6 := hide' hy
          obtain ⟨xa, xc, _, _, e1, -⟩ := holdsF_parts (holdsF_own hf)
          obtain ⟨za, zc, e2⟩ := row_sl hy.1
          clear hf hy CG ck
          unfold entV
          dsimp only at e1 e2 HF6 HY6 ⊢
          subst e1 e2
          have BE6 := hide' (bef_below BE.out HF6.out.2)
          have U6 := hide' (stU_below (stU_below U5.out BE.out.own.2) HF6.out.2)
          have OW6 := hide' (ownE_mono BE6.out.own (below_alloc' w6 (.cells #[.string ⟨en.key.toArray⟩, .string ⟨en.vary.toArray⟩, .int .i64 en.r.s, .string ⟨en.r.r.toArray⟩, .int .i64 en.r.k, .slice xa en.r.fs.length xc, .slice za en.body.length zc, .int .i64 en.a, .int .i64 en.g] 59)))
          have kes : es.length ≤ 60 := by have := hke.out; omega
          go_wp2_with (first
            | (at_builtin; refine appE rfl (.tmp 91) (.tmp 93) rfl w5 _ es rfl (by exact OW6.out) (en, .slice xa en.r.fs.length xc, .slice za en.body.length zc) ⟨_, _, _, rfl⟩ ⟨_, _, _, rfl⟩ rfl (by simp) (by omega) ?_; intro v7 w7 ho7 hf7; have O7 := hide' ho7; have F7 := hide' hf7; clear ho7 hf7))
          have hlq : es.length < q.2.length := by have := hke.out; have := N.out; omega
          have BE7 := hide' (bef_app BE.out hlq HF6.out HY6.out (bt' (below_alloc' w6 (.cells #[.string ⟨en.key.toArray⟩, .string ⟨en.vary.toArray⟩, .int .i64 en.r.s, .string ⟨en.r.r.toArray⟩, .int .i64 en.r.k, .slice xa en.r.fs.length xc, .slice za en.body.length zc, .int .i64 en.a, .int .i64 en.g] 59)) (below_alloc' _ _)) (HEN.out hlq) O7.out F7.out)
          go_roundw
          case rel => exact ⟨k + 1, _, by go_num, by unfold Hid; rw [List.length_append, ← hke.out]; rfl, by omega, BE7⟩
          case measure => simp [intOf]; omega
        · obtain rfl : k = L := by omega
          have EL1 : Hid (es.length = q.2.length) := by unfold Hid; rw [N.out]; exact hke.out.symm
          obtain ⟨w7, ew7⟩ : ∃ w7, w7 = wr := ⟨_, rfl⟩
          subst ew7
          have U7 := hide' (stU_below U5.out BE.out.own.2)
          obtain ⟨o7, s7, ho7⟩ := U7.out.s
          have CLs := hide' (listC s7.log.dsk (bd_mono (bf_bd P.out.bf) (by rw [Nat.max_eq_right (by omega)]; omega)))
          clear s7 ho7
          go_wp2_with fail
          refine CLs.out.mono ?_
          rintro x w8 ⟨lv8, rfl, hl8⟩
          have U8 := hide' (stU_below U7.out hl8.2)
          have BE8 := hide' (bef_below BE.out hl8.2)
          obtain ⟨xa, xc, _, _, e8, _⟩ := holds_partsC (holds_own hl8)
          rw [e8]
          clear hl8 e8 CLs U7 BE o7
          obtain ⟨FN, hFN⟩ : ∃ FN, FN = q.1.1.list.length := ⟨_, rfl⟩
          have FL : Hid (q.1.1.list.length = FN) := hFN.symm
          rw [← hFN]
          clear hFN
          obtain ⟨⟨d0, d1, d2, d3, d4, d5, d6, d7, d8⟩, -⟩ := cells_nine (cells_below KB.out U8.out.b)
          have CE := hide' (copyEB HEB.out (.slice la e.r.fs.length lc) (.slice ba e.body.length bc) w8 (holdsF_mono HFF.out U8.out.b) (holdsB_mono HYY.out U8.out.b))
          unfold entV at CE
          go_wp2_with fail
          refine CE.out.mono ?_
          rintro x w9 ⟨lu, bu, rfl, hf, hy⟩
          have HF9 := hide' (holdsF_own hf)
          have HY9 := hide' (holdsB_own hy)
          have U9 := hide' (stU_below U8.out hf.2)
          have BE9 := hide' (bef_below BE8.out hf.2)
          have BQ9 := hide' (bt' IO.out.2 BE9.out.own.2)
          have CP := hide' (putK U.out BQ9.out P.out.inv P.out.bf e lu bu HF9.out HY9.out HEB.out (by omega) (by omega) HT.out hn (pi_hm P.out (by omega) e hek) (pi_sml P.out) (by have := P.out.len; omega))
          obtain ⟨ya, yc, _, _, e1, -⟩ := holdsF_parts (holdsF_own hf)
          obtain ⟨yb, yd, e2⟩ := row_sl hy.1
          subst e1 e2
          unfold entV at CP
          clear hf hy CE d0 d1 d2 d3 d4 d5 d6 d7 d8 U8 BE8
          go_wp2_with fail
          refine CP.out.mono ?_
          rintro x w10 ⟨rfl, u10, hoff⟩
          have U10 := hide' u10
          have OFF := hide' hoff
          have RSM := hide' (fun h => refused_same hn P.out.inv e h)
          have PQ := hide' (pi_step hn P.out (by omega) e hek)
          clear CP u10 hoff HF9 HY9 U9
          generalize putT n e q = RR at U10 RSM PQ ⊢
          obtain ⟨q', z⟩ := RR
          dsimp only at U10 RSM PQ ⊢
          by_cases hz : z = 0
          · subst hz
            go_wp2_with fail
            go_ret
            exact ⟨rfl, BZ.out.trans (U10.out.b.mono BZ.out.size)⟩
          · obtain ⟨sm1, sm2, sm3⟩ := RSM.out hz
            have SM1 := hide' sm1
            have SM3 := hide' sm3
            have SML : Hid (q'.1.1.list.length = FN) := by unfold Hid; rw [sm2]; exact FL.out
            have hzd : decide (z = 0) = false := by simpa using hz
            have hzb : (z == 0) = false := by simpa using hz
            clear sm1 sm2 sm3 RSM
            have zw : w0.heap.size ≤ wq.heap.size := U.out.b.size
            have ID9 := hide' (ownS_mono IO.out BE9.out.own.2)
            have ID10 : Hid (OwnS w0 (.slice ia q.2.length ic) (q.2.map (fun p => p.1)) w10) := ⟨row_base (row_offZ ID9.out.1 OFF.out (fun b e hs => by have := row_above ID9.out.1 b e; omega)) zw, U10.out.b⟩
            obtain ⟨oe, sl⟩ := bef_off BE9.out OFF.out (fun k hk => by have := LQ.out; omega) (by have := LQ.out; omega) U10.out.b
            have OE10 := hide' oe
            have SL10 := hide' sl
            have GE : Hid (∀ j (h : j < es.length) (hq : j < q.2.length), getT (q.2[j]'hq).1 q'.1.1 q'.2 = ((es[j]'h).1, true) ∧ Bnd (es[j]'h).1) := fun j h hq => by
              have h1 := BE9.out.ent j h hq
              obtain ⟨en2, h2, h3⟩ := get_in hn P.out.inv (List.getElem_mem hq)
              rw [h1] at h2
              refine ⟨(SM3.out _ (List.getElem_mem hq)).trans h1, ?_⟩
              rw [(Prod.mk.inj h2).1]; exact h3
            have HSZ : Hid (∀ j (hq : j < q.2.length), (q.2[j]'hq).1.length ≤ 8193) := fun j hq => inv_ids P.out.inv _ (List.getElem_mem hq)
            clear oe sl BE9 OFF ID9 BQ9 IO C U5 LQ U P SM3
            obtain ⟨o10, s10, ho10⟩ := U10.out.s
            have CI2 := idsSC s10 (pi_sml PQ.out) (by have := PQ.out.len; omega)
            rw [SM1.out] at CI2
            replace CI2 := hide' CI2
            clear s10 ho10
            rw [N.out] at ID10
            go_wp2_with fail
            refine CI2.out.mono ?_
            rintro x w11 ⟨iv2, rfl, hi2⟩
            have U11 := hide' (stU_below U10.out hi2.2)
            have ID11 := hide' (ownS_mono ID10.out hi2.2)
            have OE11 := hide' (ownE_mono OE10.out hi2.2)
            have SL11 := hide' (fun p hp => slE_below (SL10.out p hp) hi2.2)
            have CST := hide' ((sameTexts iv2 _ _ _ w11 (holds_own hi2) (holds_own ID11.out) (by rw [List.length_map, N.out]; omega) (by rw [List.length_map, N.out]; omega)).mono (show ∀ (e : Ending) (w' : World), _ → e = .returned (.bool true) ∧ Below w11.heap.size w11 w' from by
              rintro e w' ⟨rfl, nn, rfl⟩
              exact ⟨by simp, below_drewN _ _⟩))
            obtain ⟨i2a, i2c, _, _, e2, _⟩ := holds_partsC (holds_own hi2)
            rw [List.length_map, N.out] at e2
            rw [e2] at CST ⊢
            clear hi2 e2 CI2 U10 ID10 OE10 SL10 o10
            go_wp2_with fail
            refine CST.out.mono ?_
            rintro x w12 ⟨rfl, b12⟩
            have U12 := hide' (stU_below U11.out b12)
            have ID12 := hide' (ownS_mono ID11.out b12)
            have OE12 := hide' (ownE_mono OE11.out b12)
            have SL12 := hide' (fun p hp => slE_below (SL11.out p hp) b12)
            clear b12 CST U11 ID11 OE11 SL11
            obtain ⟨o12, s12, ho12⟩ := U12.out.s
            have BD := hide' (bf_bd PQ.out.bf)
            have CL2 := hide' (listC s12.log.dsk (bd_mono BD.out (by rw [Nat.max_eq_right (by omega)]; omega)))
            clear s12 ho12
            go_wp2_with fail
            refine CL2.out.mono ?_
            rintro x w13 ⟨lv13, rfl, hl13⟩
            have U13 := hide' (stU_below U12.out hl13.2)
            have ID13 := hide' (ownS_mono ID12.out hl13.2)
            have OE13 := hide' (ownE_mono OE12.out hl13.2)
            have SL13 := hide' (fun p hp => slE_below (SL12.out p hp) hl13.2)
            obtain ⟨l13a, l13c, _, _, e13, _⟩ := holds_partsC (holds_own hl13)
            rw [SML.out] at e13
            rw [e13]
            clear hl13 e13 CL2 U12 ID12 OE12 SL12 o12
            obtain ⟨o13, s13, ho13⟩ := U13.out.s
            have CU := usedC s13.log.dsk (bd_mono BD.out (by rw [Nat.max_eq_right (by omega)]; omega))
            have hun := PQ.out.ur.used
            generalize (q'.1.1.used : Int) = Un at CU hun
            replace CU := hide' CU
            clear s13 ho13
            have hud : decide (room < Un) = false := by simp; omega
            have hun2 : ¬ room < Un := by omega
            go_wp2_with fail
            refine CU.out.mono ?_
            rintro x w14 ⟨rfl, b14⟩
            have U14 := hide' (stU_below U13.out b14)
            have ID14 := hide' (ownS_mono ID13.out b14)
            have OE14 := hide' (ownE_mono OE13.out b14)
            have SL14 := hide' (fun p hp => slE_below (SL13.out p hp) b14)
            clear b14 CU U13 ID13 OE13 SL13 o13
            have CI3 : Hid (0 < k → ∃ b o, ia = some ⟨b, o, none⟩ ∧ b < w14.heap.size ∧ ∀ j (h : j < q.2.length), w14.cell? ⟨b, o + j, none⟩ = some (.string ⟨(q.2[j]'h).1.toArray⟩)) := by
              intro hp
              obtain ⟨ao', cap', hv', hc'⟩ := holds_own ID14.out
              simp only [Value.slice.injEq] at hv'
              obtain ⟨e1, -, -⟩ := hv'
              subst e1
              obtain ⟨b', o', e2, hb', hcell'⟩ := hc' (fun h => by have h1 := congrArg List.length h; rw [List.length_map, N.out] at h1; simp at h1; omega)
              refine ⟨b', o', e2, hb', fun j h => ?_⟩
              have := hcell' j (by rw [List.length_map]; exact h)
              rw [List.getElem_map] at this
              exact this
            obtain ⟨ea, ecap, hve, -, -, hce⟩ := holdsE_own OE14.out
            have ESL : Hid (es.length = k) := by unfold Hid; rw [EL1.out, N.out]
            rw [ESL.out] at hve
            have CE3 := hide' hce
            subst hve
            clear hce ID14
            go_wp2_with fail
            clear hun hud hun2
            go_loopw [19] (fun iv wr => ∃ j : Nat, iv = .int .i64 (j : Int) ∧ j ≤ k ∧ Hid (Below w14.heap.size w14 wr)) (fun iv _ => k - (intOf iv).toNat)
            case atStart => exact ⟨0, rfl, Nat.zero_le _, Below.refl _ _⟩
            case round =>
              obtain ⟨j, rfl, hj, HW⟩ := hrel
              obtain ⟨w15, ew15⟩ : ∃ x, x = wr := ⟨_, rfl⟩
              subst ew15
              by_cases hjt : j < k
              · have Gj : Hid (j < q.2.length) := by unfold Hid; rw [N.out]; exact hjt
                have Ge : Hid (j < es.length) := by unfold Hid; rw [ESL.out]; exact hjt
                obtain ⟨ib, io, hia, hib, hic⟩ := CI3.out (by omega)
                subst hia
                have ck : w15.cell? ⟨ib, io + j, none⟩ = some (.string ⟨(q.2[j]'Gj.out).1.toArray⟩) := by
                  rw [HW.out.cell (p := ⟨ib, io + j, none⟩) hib]; exact hic j Gj.out
                obtain ⟨eb, eo, hea, heb, hee⟩ := CE3.out (fun h => by have := Ge.out; rw [h] at this; simp at this)
                subst hea
                have EN := hide' (enAt_mono (hee j Ge.out) HW.out heb)
                have hsz := HSZ.out j Gj.out
                obtain ⟨ge1, ge2⟩ := GE.out j Ge.out Gj.out
                have CG := getU (stU_below U14.out HW.out) PQ.out.bf (by rw [Nat.max_eq_right (by omega)]; omega) ⟨(q.2[j]'Gj.out).1.toArray⟩ (by rw [size_l]; omega) HE.out HT.out
                rw [show (⟨(q.2[j]'Gj.out).1.toArray⟩ : ByteArray).data.toList = (q.2[j]'Gj.out).1 from rfl, ge1] at CG
                replace CG := hide' CG
                have SLJ := hide' (slE_below (SL14.out _ (List.getElem_mem Ge.out)) HW.out)
                obtain ⟨sf1, sb1⟩ := slE_holds SLJ.out (bt' U14.out.b HW.out)
                have BN := hide' ge2
                have SF1 := hide' sf1
                have SB1 := hide' sb1
                clear hic hee ge1 ge2 sf1 sb1 SLJ
                generalize (q.2[j]'Gj.out).1 = id at ck hsz CG
                generalize es[j]'Ge.out = pe at EN CG BN SF1 SB1
                obtain ⟨⟨key, vary, ⟨s, r, kk, fs⟩, body, a, gg⟩, plv, pbv⟩ := pe
                dsimp only at EN CG BN SF1 SB1
                obtain ⟨pa, pc, _, _, e1, -⟩ := holdsF_parts SF1.out
                obtain ⟨pb, pd, e2, -⟩ := holdsB_parts SB1.out
                subst e1 e2
                have CS := hide' (fun lva bva W (h1 : HoldsF W lva fs) (h2 : HoldsB W bva body) (h3 : HoldsF W (.slice pa fs.length pc) fs) (h4 : HoldsB W (.slice pb body.length pd) body) => sameEB BN.out lva (.slice pa fs.length pc) bva (.slice pb body.length pd) W h1 h3 h2 h4)
                unfold RdPostS entV at CG
                unfold entV at CS
                dsimp only at CG CS
                have ENc := EN.out
                unfold EnAt at ENc
                dsimp only at ENc
                generalize (⟨key.toArray⟩ : ByteArray) = K at CG CS ENc
                generalize (⟨vary.toArray⟩ : ByteArray) = V at CG CS ENc
                generalize (⟨r.toArray⟩ : ByteArray) = R at CG CS ENc
                go_wp2_with fail
                refine CG.out.mono ?_
                rintro x w16 ⟨lv2, bv2, rfl, hf, hy⟩
                have HF6 := hide' (holdsF_own hf)
                have HY6 := hide' (holdsB_own hy)
                have B16 := hide' hf.2
                obtain ⟨xa2, xc2, _, _, e1, -⟩ := holdsF_parts (holdsF_own hf)
                obtain ⟨za2, zc2, e2⟩ := row_sl hy.1
                subst e1 e2
                clear hf hy CG ck
                go_wp2_with fail
                have BL := hide' (cells_lit w16 #[.string K, .string V, .int .i64 s, .string R, .int .i64 kk, .slice xa2 fs.length xc2, .slice za2 body.length zc2, .int .i64 a, .int .i64 gg] 59)
                have B17 := hide' (bt' B16.out (below_alloc' w16 (.cells #[.string K, .string V, .int .i64 s, .string R, .int .i64 kk, .slice xa2 fs.length xc2, .slice za2 body.length zc2, .int .i64 a, .int .i64 gg] 59)))
                have X17 := hide' (holdsF_mono HF6.out (below_alloc' w16 (.cells #[.string K, .string V, .int .i64 s, .string R, .int .i64 kk, .slice xa2 fs.length xc2, .slice za2 body.length zc2, .int .i64 a, .int .i64 gg] 59)))
                have Y17 := hide' (holdsB_mono HY6.out (below_alloc' w16 (.cells #[.string K, .string V, .int .i64 s, .string R, .int .i64 kk, .slice xa2 fs.length xc2, .slice za2 body.length zc2, .int .i64 a, .int .i64 gg] 59)))
                obtain ⟨zb, ezb⟩ : ∃ zb, zb = w16.heap.size := ⟨_, rfl⟩
                have ZB : Hid (w16.heap.size = zb) := ezb.symm
                rw [ZB.out] at BL ⊢
                clear ezb HF6 HY6
                generalize w16.alloc (.cells #[.string K, .string V, .int .i64 s, .string R, .int .i64 kk, .slice xa2 fs.length xc2, .slice za2 body.length zc2, .int .i64 a, .int .i64 gg] 59) = w17 at BL B17 X17 Y17 ⊢
                have hebl : eb < w15.heap.size := Nat.lt_of_lt_of_le heb HW.out.size
                have C18 : Hid (∀ W, Below w17.heap.size w17 W → W.cell? ⟨zb, 0, none⟩ = some (.string K) ∧ W.cell? ⟨zb, 1, none⟩ = some (.string V) ∧ W.cell? ⟨zb, 2, none⟩ = some (.int .i64 s) ∧ W.cell? ⟨zb, 3, none⟩ = some (.string R) ∧ W.cell? ⟨zb, 4, none⟩ = some (.int .i64 kk) ∧ W.cell? ⟨zb, 5, none⟩ = some (.slice xa2 fs.length xc2) ∧ W.cell? ⟨zb, 6, none⟩ = some (.slice za2 body.length zc2) ∧ W.cell? ⟨zb, 7, none⟩ = some (.int .i64 a) ∧ W.cell? ⟨zb, 8, none⟩ = some (.int .i64 gg) ∧ W.cell? ⟨eb, eo + j * 9, none⟩ = some (.string K) ∧ W.cell? ⟨eb, eo + j * 9 + 1, none⟩ = some (.string V) ∧ W.cell? ⟨eb, eo + j * 9 + 2, none⟩ = some (.int .i64 s) ∧ W.cell? ⟨eb, eo + j * 9 + 3, none⟩ = some (.string R) ∧ W.cell? ⟨eb, eo + j * 9 + 4, none⟩ = some (.int .i64 kk) ∧ W.cell? ⟨eb, eo + j * 9 + 5, none⟩ = some (.slice pa fs.length pc) ∧ W.cell? ⟨eb, eo + j * 9 + 6, none⟩ = some (.slice pb body.length pd) ∧ W.cell? ⟨eb, eo + j * 9 + 7, none⟩ = some (.int .i64 a) ∧ W.cell? ⟨eb, eo + j * 9 + 8, none⟩ = some (.int .i64 gg)) := by
                  intro W hW
                  obtain ⟨⟨d0, d1, d2, d3, d4, d5, d6, d7, d8⟩, -⟩ := cells_nine (cells_below BL.out hW)
                  have c : ∀ o, W.cell? ⟨eb, o, none⟩ = w15.cell? ⟨eb, o, none⟩ := fun o => (bt' B17.out hW).cell (p := ⟨eb, o, none⟩) hebl
                  obtain ⟨f0, f1, f2, f3, f4, f5, f6, f7, f8⟩ := ENc
                  exact ⟨d0, d1, d2, d3, d4, d5, d6, d7, d8, (c _).trans f0, (c _).trans f1, (c _).trans f2, (c _).trans f3, (c _).trans f4, (c _).trans f5, (c _).trans f6, (c _).trans f7, (c _).trans f8⟩
                have CSP : Hid (∀ W, Below w17.heap.size w17 W → Calls Tryz.prog 20 #[.agg #[.string K, .string V, .int .i64 s, .string R, .int .i64 kk, .slice xa2 fs.length xc2, .slice za2 body.length zc2, .int .i64 a, .int .i64 gg], .agg #[.string K, .string V, .int .i64 s, .string R, .int .i64 kk, .slice pa fs.length pc, .slice pb body.length pd, .int .i64 a, .int .i64 gg]] W (fun e W' => e = .returned (.bool true) ∧ Below w17.heap.size w17 W' ∧ W'.cell? ⟨zb, 0, none⟩ = some (.string K) ∧ W'.cell? ⟨zb, 1, none⟩ = some (.string V) ∧ W'.cell? ⟨zb, 2, none⟩ = some (.int .i64 s) ∧ W'.cell? ⟨zb, 3, none⟩ = some (.string R) ∧ W'.cell? ⟨zb, 4, none⟩ = some (.int .i64 kk) ∧ W'.cell? ⟨zb, 5, none⟩ = some (.slice xa2 fs.length xc2) ∧ W'.cell? ⟨zb, 6, none⟩ = some (.slice za2 body.length zc2) ∧ W'.cell? ⟨zb, 7, none⟩ = some (.int .i64 a) ∧ W'.cell? ⟨zb, 8, none⟩ = some (.int .i64 gg) ∧ W'.cell? ⟨eb, eo + j * 9, none⟩ = some (.string K) ∧ W'.cell? ⟨eb, eo + j * 9 + 1, none⟩ = some (.string V) ∧ W'.cell? ⟨eb, eo + j * 9 + 2, none⟩ = some (.int .i64 s) ∧ W'.cell? ⟨eb, eo + j * 9 + 3, none⟩ = some (.string R) ∧ W'.cell? ⟨eb, eo + j * 9 + 4, none⟩ = some (.int .i64 kk) ∧ W'.cell? ⟨eb, eo + j * 9 + 5, none⟩ = some (.slice pa fs.length pc) ∧ W'.cell? ⟨eb, eo + j * 9 + 6, none⟩ = some (.slice pb body.length pd) ∧ W'.cell? ⟨eb, eo + j * 9 + 7, none⟩ = some (.int .i64 a) ∧ W'.cell? ⟨eb, eo + j * 9 + 8, none⟩ = some (.int .i64 gg))) := by
                  intro W hW
                  refine (CS.out _ _ W (holdsF_mono X17.out hW) (holdsB_mono Y17.out hW) (holdsF_mono SF1.out (bt' B17.out hW)) (holdsB_mono SB1.out (bt' B17.out hW))).mono ?_
                  rintro e W' ⟨rfl, hb⟩
                  exact ⟨rfl, bt' hW hb, C18.out _ (bt' hW hb)⟩
                obtain ⟨g0, g1, g2, g3, g4, g5, g6, g7, g8, g9, g10, g11, g12, g13, g14, g15, g16, g17⟩ := C18.out w17 (Below.refl _ _)
                have hj0 : (0 : Int) ≤ (j : Int) := by omega
                have hj2 : (j : Int) < (k : Int) := by omega
                clear ENc CS BL X17 Y17 SF1 SB1 EN C18
                go_region_held3 (fun w' => w'.cell? ⟨zb, 0, none⟩ = some (.string K) ∧ w'.cell? ⟨zb, 1, none⟩ = some (.string V) ∧ w'.cell? ⟨zb, 2, none⟩ = some (.int .i64 s) ∧ w'.cell? ⟨zb, 3, none⟩ = some (.string R) ∧ w'.cell? ⟨zb, 4, none⟩ = some (.int .i64 kk) ∧ w'.cell? ⟨zb, 5, none⟩ = some (.slice xa2 fs.length xc2) ∧ w'.cell? ⟨zb, 6, none⟩ = some (.slice za2 body.length zc2) ∧ w'.cell? ⟨zb, 7, none⟩ = some (.int .i64 a) ∧ w'.cell? ⟨zb, 8, none⟩ = some (.int .i64 gg) ∧ w'.cell? ⟨eb, eo + j * 9, none⟩ = some (.string K) ∧ w'.cell? ⟨eb, eo + j * 9 + 1, none⟩ = some (.string V) ∧ w'.cell? ⟨eb, eo + j * 9 + 2, none⟩ = some (.int .i64 s) ∧ w'.cell? ⟨eb, eo + j * 9 + 3, none⟩ = some (.string R) ∧ w'.cell? ⟨eb, eo + j * 9 + 4, none⟩ = some (.int .i64 kk) ∧ w'.cell? ⟨eb, eo + j * 9 + 5, none⟩ = some (.slice pa fs.length pc) ∧ w'.cell? ⟨eb, eo + j * 9 + 6, none⟩ = some (.slice pb body.length pd) ∧ w'.cell? ⟨eb, eo + j * 9 + 7, none⟩ = some (.int .i64 a) ∧ w'.cell? ⟨eb, eo + j * 9 + 8, none⟩ = some (.int .i64 gg)) (go_keep)
                  (first
                    | (go_at_call 20; refine (CSP.out _ ((Below.refl _ _).drew)).mono ?_; rintro x w18 ⟨rfl, b18, g0, g1, g2, g3, g4, g5, g6, g7, g8, g9, g10, g11, g12, g13, g14, g15, g16, g17⟩; have B18 := hide' b18; clear b18))
                have HW2 := hide' (bt' (bt' HW.out B17.out) B18.out)
                clear g0 g1 g2 g3 g4 g5 g6 g7 g8 g9 g10 g11 g12 g13 g14 g15 g16 g17
                go_wp2_with fail
                go_roundw
                case rel => exact ⟨j + 1, by go_num, by omega, HW2⟩
                case measure => simp [intOf]; omega
              · go_wp2_with fail
                go_ret
                exact ⟨rfl, BZ.out.trans ((bt' U14.out.b HW.out).mono BZ.out.size)⟩
theorem refusedWW (room slots : Int) (v : Value) (os : List Sp) (e : En) (lv bv : Value) (W : World) (hv : HoldsSp W v os) (hF : HoldsF W lv e.r.fs) (hY : HoldsB W bv e.body) (hb : bulkSp os + (e.key.length + e.vary.length + e.r.r.length + bulkF e.r.fs + e.body.length + 5) ≤ 1048576) (E : Env W) (T : Tab W) :
    Calls Tryz.prog 6 #[.int .i64 room, .int .i64 slots, v, entV e lv bv] W fun x w' => x = .returned (.bool true) ∧ Below W.heap.size W w' := by
  have hl := bulkSp_len os
  exact refusedW room slots v os e lv bv W E T hv hF hY (fun x hx => by
    have h := bulkSp_mem os x hx
    exact ⟨bnd_of (n := bulkSp os) (by omega) (by omega), by omega⟩) (by omega) (bnd_of (n := 1048576) (by omega) (by decide)) (by omega)
end Go.Proofs.YtibjcofbhldenaaGreatDoor
