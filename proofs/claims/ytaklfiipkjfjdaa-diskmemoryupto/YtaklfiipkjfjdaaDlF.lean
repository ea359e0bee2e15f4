/- The contract of Left. -/
import Derived.Test.YtaklfiipkjfjdaaDlE
import Derived.Deep.RegionHeldLaw
namespace Go.Proofs.Ytaklfiipkjfjdaa
open Go.RowKit Go.Maps
/-- a number of the first changes, and the cut of the slice -/
theorem takeC {W : World} {pa : Option Addr} {n pc : Nat} {vs : List Value} (h : W.ownsRow 0 91 1 (.slice pa n pc) n vs) (i : Nat) (hi : i ≤ n) : ∀ w, Sem.run Try.prog (Instr.slice 68 (.slice pa n pc) none (some (.int .i64 (i : Int))) none) w = .ok (.slice pa i pc) w := by
  intro w
  rcases h.2 with ⟨e, hn⟩ | ⟨x, cap, cur, e, _, _, hr⟩
  · cases e
    obtain rfl : i = 0 := by omega
    exact takeC_none w
  · cases e
    exact takeC_run x n pc i hi hr.1 w
theorem tbl_below {W W' : World} {m : Nat} {fb : Nat → Nat} {l : NL} (h : Tbl W m fb l) (hb : Below W.heap.size W W') : Tbl W' m fb l := by
  have hlt := World.ownsMap.lt h
  obtain ⟨es, clock, hh, F, hn, hD⟩ := h
  exact ⟨es, clock, by rw [hb.block m hlt]; exact hh, F, hn, hD⟩
theorem firm_cnt {s : Dk} (h : Wf s) (i : Nat) : s.firm.getD i 0 ≤ (s.data.getD i []).length := h.firm i
/-- the files of some names, one by one -/
theorem step_appFi {ops : Array Oper} {o : Oper} {a : Act} {K : Act → World → Prop} {Q : Exit → Act → World → Prop} {E : Prop} {wl : World} {y : ByteArray} {dv : Value} (hgd : o.guard = none) (s x : Operand)
    (ho : o.op = .call { callee := .builtin .append, args := #[s, x], argTypes := #[22, 22] }) (n0 : Nat) (v : Value) (j : Nat) (ps : List (Nm × Value)) (hs : a.eval s = v) (hown : (wl.alloc (.cells #[.string y, dv] 43)).ownsRow n0 43 2 v j (cellsFi ps))
    (hx : a.eval x = .slice (some ⟨wl.heap.size, 0, none⟩) 1 1) (h1 : dv.oneCell' = true) (hj : j ≤ 1000000000) (hn0 : n0 ≤ wl.heap.size)
    (h : ∀ g cap w', w'.ownsRow n0 43 2 (.slice (some ⟨g, 0, none⟩) (j + 1) cap) (j + 1) (cellsFi ps ++ [.string y, dv]) → (wl.alloc (.cells #[.string y, dv] 43)).grownBy w' v.ownBlock → (v.ownBlock = some g ∨ g = wl.heap.size + 1) → K (a.put o.dst (.slice (some ⟨g, 0, none⟩) (j + 1) cap)) w') :
    if Region.wanted o (yielded ops a.tmps) = true then Oper.wp Try.prog o a (wl.alloc (.cells #[.string y, dv] 43)) K Q else E := by
  obtain ⟨i0, hi, hz0, hz1, hz2⟩ := info_parts Try.info43
  refine step_append_lies _ hgd s x 22 ho n0 43 i0 (.agg #[.string ⟨#[]⟩, .slice none 0 0]) 2 40 Try.underlying22 hi hz0 hz1 hz2 rfl (by decide) v j (cellsFi ps) hs hown ⟨wl.heap.size, 0, none⟩ 1 1 [.string y, dv] hx rfl ?_ ?_ (by decide) (by unfold maxLen; omega) (by omega) (by simp; omega) (wl.heap.size + 1) (by simp) (fun g cap w' r1 r2 r3 _ => h g cap w' r1 r2 r3)
  · intro i u hu
    match i, hu with
    | 0, hu => simp at hu; subst hu; simp [Addr.add]
    | 1, hu => simp at hu; subst hu; simp [Addr.add]
  · intro u hu
    simp only [List.mem_cons, List.not_mem_nil, or_false] at hu
    rcases hu with rfl | rfl
    · rfl
    · exact h1
def filesOf (s : Dk) (keep : List Int) (l : NL) : FL := l.map (fun p => (p.1, (s.data.getD p.2 []).take (leftLen s keep p.2)))
theorem files_step (s : Dk) (keep : List Int) (l : NL) (j : Nat) (h : j < l.length) : filesOf s keep (l.take (j + 1)) = filesOf s keep (l.take j) ++ [((l[j]).1, (s.data.getD (l[j]).2 []).take (leftLen s keep (l[j]).2))] := by
  unfold filesOf
  rw [List.take_succ_eq_append_getElem h, List.map_append]
  rfl
theorem left_step (s : Dk) (keep : List Int) (l : NL) (j : Nat) (h : j < l.length) : (l.take (j + 1)).map (fun p => (p.1, (s.data.getD p.2 []).take (leftLen s keep p.2))) = (l.take j).map (fun p => (p.1, (s.data.getD p.2 []).take (leftLen s keep p.2))) ++ [((l[j]).1, (s.data.getD (l[j]).2 []).take (leftLen s keep (l[j]).2))] := by
  rw [List.take_succ_eq_append_getElem h, List.map_append]
  rfl
set_option maxRecDepth 20000 in
set_option maxHeartbeats 8000000 in
theorem leftC {o : Ow} {g : Nat} {s : Dk} {W : World} (h : Dsk o g s W) (k : Int) (kv : Value) (keep : List Int) (hk : HoldsI W kv keep) (hkr : -9223372036854775808 ≤ k ∧ k ≤ 9223372036854775807) (hkb : ∀ z ∈ keep, -9223372036854775808 ≤ z ∧ z ≤ 9223372036854775807) (hB : Bd 90000000 s) :
    Calls Try.prog 17 #[.pointer (some ⟨g, 0, none⟩), .agg #[.int .i64 k, kv]] W fun e W' => ∃ v, e = .returned v ∧ HoldsFi (mask (fun x => x < W.heap.size) W') v (s.left k keep) ∧ Below W.heap.size W W' := by
  obtain ⟨m0, m1, m2, pv, fb, cs, v⟩ := h
  obtain ⟨vs, hr, hch, hpw⟩ := v.pend
  obtain ⟨pa, pc, hpv⟩ := row_sl hr
  subst hpv
  obtain ⟨ka, kc, hkv, _⟩ := id hk
  subst hkv
  have hcl : cs.length ≤ 90000000 := by have h1 := v.sc.1; have h2 := hB.2.2.2.2.1; rw [h1, scan_len] at h2; omega
  have hsl : s.safe.length ≤ 900000000 := by have := hB.2.2.2.1; omega
  -- how many changes are done
  obtain ⟨q, hq1, hq2⟩ : ∃ q : Nat, ((q : Nat) : Int) = max 0 (min k ((cs.length : Nat) : Int)) ∧ q = min k.toNat cs.length := ⟨min k.toNat cs.length, by omega, rfl⟩
  have hqn : q ≤ cs.length := by omega
  have SL := takeC hr q hqn
  have hng : W.heap.size ≠ g := by have := v.blk.2; omega
  -- the fate's block
  have b0 := below_alloc' W (.cells #[.int .i64 k, .slice ka keep.length kc] 58)
  have z0 : (W.alloc (.cells #[.int .i64 k, .slice ka keep.length kc] 58)).heap.size = W.heap.size + 1 := by simp
  have F0 : Blk W.heap.size (W.alloc (.cells #[.int .i64 k, .slice ka keep.length kc] 58)) [.int .i64 k, .slice ka keep.length kc] := by simpa using cells_lit W #[.int .i64 k, .slice ka keep.length kc] 58
  have V0 := dkV_below v b0
  have CM := hide' (mcloneC V0.safe)
  have V := hide' v
  have B0 := hide' b0
  have HF0 := hide' F0
  have HK := hide' hk
  have HKB := hide' hkb
  have HB := hide' hB
  have HSP : Hid (s.left k keep = (appAll (cs.take q) s.safe).map (fun p => (p.1, (s.data.getD p.2 []).take (leftLen s keep p.2)))) := by
    unfold Hid Dk.left
    rw [left_names v.sc k, hq2]
  have hwn : WfN s (appAll (cs.take q) s.safe) := by
    have := leftNames_wf v.wf k
    rw [left_names v.sc k, ← hq2] at this
    exact this
  have HWN := hide' hwn
  obtain ⟨n, hn⟩ : ∃ n, n = cs.length := ⟨_, rfl⟩
  have HN := hide' hn
  have HR := hide' hr
  have HCH := hide' hch
  have HPW := hide' hpw
  have c6 := (cells_eight V0.blk).1.2.2.2.2.2.2.1
  have c7 := (cells_eight V0.blk).1.2.2.2.2.2.2.2
  rw [← hn] at c7 hq1 hqn SL hcl
  obtain ⟨N, hNk⟩ : ∃ N, N = keep.length := ⟨_, rfl⟩
  have HNK := hide' hNk
  rw [← hNk] at HF0 HK CM B0 c6 c7 ⊢
  clear v V0 hr hch hpw hk hkb hB hwn F0 b0 z0 hn hNk hq2
  go_enter Try.func17, Try.ntmps17
  go_wp2_with fail
  refine CM.out.mono ?_
  rintro e w1 ⟨rfl, hT1, hb1⟩
  have V1 := hide' (dkV_below (dkV_below V.out B0.out) hb1)
  have F1 := hide' (cells_below HF0.out hb1)
  have T1 := hide' hT1
  have BW1 := hide' (B0.out.trans (hb1.mono B0.out.size))
  obtain ⟨M, hM⟩ : ∃ M, M = (W.alloc (.cells #[.int .i64 k, .slice ka N kc] 58)).heap.size := ⟨_, rfl⟩
  have HM := hide' hM
  rw [← hM] at T1 ⊢
  have hMW : W.heap.size < M := by rw [hM]; simp
  clear hT1 hb1 hM c6 c7
  have c7 := (cells_eight V1.out.blk).1.2.2.2.2.2.2.2
  have e0 := (F1.out.1 0 (by simp)).1
  have e1 := (F1.out.1 1 (by simp)).1
  simp only [List.getElem_cons_zero, List.getElem_cons_succ] at e0 e1
  rw [← HN.out] at c7
  have CU : Hid (∀ x, Calls Try.prog 44 #[.int .i64 k, .int .i64 (n : Int)] (w1.drewN x) fun e w' => e = .returned (.int .i64 (q : Int)) ∧ w' = w1.drewN x) := fun x => by have := upToC k (n : Int) (w1.drewN x); rw [← hq1] at this; exact this
  clear hq1
  go_wp2_with fail
  go_quiet (first | (go_at_call 44; refine Calls.quiet_of_same (CU.out _)))
  have V2 := hide' (dkV_drew V1.out nq)
  have F2 := hide' (cells_below F1.out (below_drewN w1 nq))
  have T2 : Hid (Tbl (w1.drewN nq) M fb s.safe) := T1.out
  have BW2 := hide' (BW1.out.trans ((below_drewN w1 nq).mono BW1.out.size))
  have hM2 : M < (w1.drewN nq).heap.size := T2.out.lt
  have HR2 : Hid ((w1.drewN nq).ownsRow 0 91 1 (.slice pa cs.length pc) cs.length vs ∧ ∀ i (h : i < cs.length), ∃ v, vs[i]? = some v ∧ ChgV o fb (w1.drewN nq) v cs[i]) := by
    have sm := same_below (o := o) (R := fun _ => True) BW2.out V.out.lt
    exact ⟨row_same HR.out sm HPW.out trivial, fun i hi => by obtain ⟨v, e1, e2⟩ := HCH.out i hi; exact ⟨v, e1, chg_same e2 sm trivial⟩⟩
  clear c7 e0 e1 V1 F1 T1 BW1 CU SL HR HCH
  generalize w1.drewN nq = w2 at V2 F2 T2 BW2 HR2 hM2 ⊢
  have hoM : o M = none := none_of_lt V.out.lt (by omega)
  -- where the changes lie, whatever was done to the new table
  have CELL : Hid (∀ wr j (hj : j < cs.length), w2.grownBy wr (some M) → ∃ pb cv, pa = some ⟨pb, 0, none⟩ ∧ wr.cell? ⟨pb, j, none⟩ = some cv ∧ ChgV o fb wr cv cs[j]) := fun wr j hj h => by
    have hs : Same o (fun _ => True) w2 wr := same_new h V2.out.lt (.inr hoM)
    obtain ⟨cv, e1, e2⟩ := HR2.out.2 j hj
    have hr2 := row_same HR2.out.1 hs HPW.out trivial
    rcases hr2.2 with ⟨_, e⟩ | ⟨x, cap, cur, hv, _⟩
    · omega
    · cases hv
      refine ⟨x, cv, rfl, ?_, chg_same e2 hs trivial⟩
      rw [hr2.cellAt j (by omega)]
      exact e1
  have hcap : ∀ b, o b = some .cap → b ≠ M := fun b e e2 => by rw [e2, hoM] at e; cases e
  go_wp2_with fail
  go_loopw [7, 30] (fun _ i wr => ∃ j : Nat, j ≤ q ∧ i = .int .i64 j ∧ Hid (Tbl wr M fb (appAll (cs.take j) s.safe)) ∧ Hid (w2.grownBy wr (some M))) (fun _ i _ => q - (intOf i).toNat)
  case atStart => exact ⟨0, by omega, rfl, T2, ⟨rfl, rfl, rfl, Nat.le_refl _, fun _ _ _ => rfl⟩⟩
  case round =>
    obtain ⟨j, hj, rfl, HT, HG⟩ := hrel
    by_cases hlt' : j < q
    · have hlt : j < cs.length := by have := HN.out; omega
      obtain ⟨pb, cv, hpa, hcell, hcv⟩ := CELL.out wr j hlt HG.out
      have hbd := app_bound cs s.safe j hsl (by have := HN.out; omega)
      subst hpa
      rcases chg_cases hcv with ⟨x, k1, bf, bn, hc, hl, rfl, h1, h2, o1, o2⟩ | ⟨x, bn, hc, hl, rfl, h2, o2⟩ | ⟨x, y, k1, ba, bf, bb, hc, l1, l2, rfl, h1, h2, h3, o1, o2, o3⟩
      · have CC := hide' (putC HT.out hbd hl h1 h2)
        have CJ := hide' hc
        clear hcv h1 h2 o1 o2 hl hc
        go_wp2_with (go_at_call 49; refine CC.out.mono ?_; rintro e w4 ⟨rfl, t2, g2⟩; have T4 := hide' t2; have G4 := hide' (HG.out.andThen g2 (fun x hx => .inr hx)); clear t2 g2)
        go_roundw
        case rel => exact ⟨j + 1, by omega, by go_num, by unfold Hid; rw [take_succ_app cs s.safe j hlt, CJ.out]; exact T4.out, G4⟩
        case measure => simp [intOf]; omega
      · have CC := hide' (delC HT.out hl h2)
        have CJ := hide' hc
        clear hcv h2 o2 hl hc
        go_wp2_with (go_at_call 53; refine CC.out.mono ?_; rintro e w4 ⟨rfl, t2, g2⟩; have T4 := hide' t2; have G4 := hide' (HG.out.andThen g2 (fun x hx => .inr hx)); clear t2 g2)
        go_roundw
        case rel => exact ⟨j + 1, by omega, by go_num, by unfold Hid; rw [take_succ_app cs s.safe j hlt, CJ.out]; exact T4.out, G4⟩
        case measure => simp [intOf]; omega
      · have CC := hide' (mvC HT.out hbd l1 l2 h1 h2 h3 (hcap bf o2) (hcap bb o3))
        have CJ := hide' hc
        clear hcv h1 h2 h3 o1 o2 o3 l1 l2 hc
        go_wp2_with (go_at_call 52; refine CC.out.mono ?_; rintro e w4 ⟨rfl, t2, g2⟩; have T4 := hide' t2; have G4 := hide' (HG.out.andThen g2 (fun x hx => .inr hx)); clear t2 g2)
        go_roundw
        case rel => exact ⟨j + 1, by omega, by go_num, by unfold Hid; rw [take_succ_app cs s.safe j hlt, CJ.out]; exact T4.out, G4⟩
        case measure => simp [intOf]; omega
    · have ej : j = q := by omega
      rw [ej] at HT
      clear ej
      have V3 := hide' (dkV_off V2.out (off_grown (S := fun k => k = M) HG.out (fun k e => (Option.some.inj e).symm)) (fun k e => by rw [e]; exact hoM))
      have F3 : Hid (Blk W.heap.size wr [.int .i64 k, .slice ka N kc]) := by
        have e := HG.out.block W.heap.size F2.out.2 (fun e => by have := Option.some.inj e; omega)
        exact ⟨fun i hi => ⟨by rw [World.cell?_of_block (w := w2) (a := ⟨W.heap.size, i, none⟩) e]; exact (F2.out.1 i hi).1, by rw [World.frozen?_of_block (w := w2) (a := ⟨W.heap.size, i, none⟩) e]; exact (F2.out.1 i hi).2⟩, Nat.lt_of_lt_of_le F2.out.2 HG.out.size⟩
      have BW3 : Hid (Below W.heap.size W wr) := BW2.out.trans ⟨HG.out.os, HG.out.tape, HG.out.output, HG.out.size, fun i hi => HG.out.block i (by have := BW2.out.size; omega) (fun e => by have := Option.some.inj e; omega)⟩
      have CR := hide' (risingC HT.out HWN.out.1 (by have h1 := app_bound cs s.safe q hsl (by have := HN.out; omega); exact h1))
      have hll := app_bound cs s.safe q hsl (by have := HN.out; omega)
      generalize appAll (cs.take q) s.safe = l at HT HWN HSP CR hll
      go_wp2_with fail
      refine CR.out.mono ?_
      rintro e w3 ⟨lv, rfl, ho⟩
      have HO : Hid (OwnS wr lv (l.map (fun p => p.1)) w3) := ho
      have V4 := hide' (dkV_below V3.out ho.2)
      have F4 := hide' (cells_below F3.out ho.2)
      have T4 := hide' (tbl_below HT.out ho.2)
      have BW4 := hide' (BW3.out.trans (ho.2.mono BW3.out.size))
      have HK4 := hide' (holdsI_mono HK.out (BW3.out.trans (ho.2.mono BW3.out.size)))
      have hWs : W.heap.size < w3.heap.size := F4.out.2
      clear ho V3 F3 HT BW3 CR HG
      by_cases hz : l = []
      · obtain ⟨la, lc, hlv⟩ := row_sl HO.out.1
        have e0 : (l.map (fun p => p.1)).length = 0 := by rw [hz]; rfl
        rw [e0] at hlv
        subst hlv
        have E : Hid (s.left k keep = []) := by unfold Hid; rw [HSP.out, hz]; rfl
        clear hz e0 hll
        go_wp2_with fail
        go_rounds 1
        go_ret
        rw [E.out]
        exact ⟨_, rfl, ⟨none, 0, rfl, fun _ => rfl, Nat.le_refl _, fun h => absurd rfl h⟩, BW4.out⟩
      · have hpos : 0 < (l.map (fun p => p.1)).length := by rw [List.length_map]; exact List.length_pos_iff.2 hz
        obtain ⟨lb, lc, hlv, hcells⟩ := ownS_slice HO.out hpos
        rw [List.length_map] at hlv
        obtain ⟨L, hL⟩ : ∃ L, L = l.length := ⟨_, rfl⟩
        have HL := hide' hL
        rw [← hL] at hlv hll
        subst hlv
        have HC := hide' hcells
        clear hz hpos hL hcells
        go_wp2_with fail
        go_loopw [8, 10, 41] (fun u _ i wx => ∃ (j : Nat) (xa : Option Addr) (xc : Nat), j ≤ L ∧ i = .int .i64 j ∧ u = .slice xa j xc ∧ Hid (FilW w3.heap.size (.slice xa j xc) (filesOf s keep (l.take j)) wx) ∧ Hid (Below w3.heap.size w3 wx)) (fun _ _ i _ => L - (intOf i).toNat)
        case atStart => exact ⟨0, none, 0, by omega, rfl, rfl, fil_nil _ _, Below.refl _ _⟩
        case round =>
          obtain ⟨j, xa, xc, hj2, rfl, rfl, HFI, HBL⟩ := hrel
          by_cases hlt : j < L
          · have hjl : j < l.length := by rw [← HL.out]; exact hlt
            have wj := HWN.out.2 (l[j]'hjl) (List.getElem_mem hjl)
            have aj : atN l (l[j]'hjl).1 = some (l[j]'hjl).2 := at_mem HWN.out.1 (List.getElem_mem hjl)
            have FS := hide' (files_step s keep l j hjl)
            have y1 : wr.cell? ⟨lb, j, none⟩ = some (.string ⟨((l[j]'hjl).1).toArray⟩) := by
              have hc := (HC.out j (by rw [List.length_map]; exact hjl)).1
              rw [List.getElem_map] at hc
              rw [HBL.out.cell (p := ⟨lb, j, none⟩) (by have := cell_lt hc; exact this)]
              exact hc
            have ysz : (⟨((l[j]'hjl).1).toArray⟩ : ByteArray).size ≤ 140737488351232 := by rw [size_l]; have := good_len wj.2; omega
            have ydt : (⟨((l[j]'hjl).1).toArray⟩ : ByteArray).data.toList = (l[j]'hjl).1 := by simp
            have LK : Hid (∀ Wx, Below wr.heap.size wr Wx → (Instr.lookup 67 (.map (some M)) (.string ⟨((l[j]'hjl).1).toArray⟩) false).run Try.prog Wx = .ok (.pointer (some ⟨fb (l[j]'hjl).2, 0, none⟩)) Wx) := fun Wx hb => look_one (tbl_below T4.out (HBL.out.trans (hb.mono HBL.out.size))) ysz (by rw [ydt]; exact aj)
            have KP : Hid (∀ Wx, Below wr.heap.size wr Wx → Wx.cell? ⟨W.heap.size, 1, none⟩ = some (.slice ka N kc)) := fun Wx hb => by
              have := (cells_below F4.out (HBL.out.trans (hb.mono HBL.out.size))).1 1 (by simp)
              simpa using this.1
            have CL : Hid (∀ Wx, Below wr.heap.size wr Wx → Calls Try.prog 45 #[.pointer (some ⟨fb (l[j]'hjl).2, 0, none⟩), .slice ka N kc] Wx fun e w' => ∃ ua ul uc, e = .returned (.slice ua ul uc) ∧ Hid (Below wr.heap.size wr w' ∧ HoldsB (mask (fun x => x < wr.heap.size) w') (.slice ua ul uc) ((s.data.getD (l[j]'hjl).2 []).take (leftLen s keep (l[j]'hjl).2))) ∧ w'.cell? ⟨W.heap.size, 1, none⟩ = some (.slice ka N kc) ∧ (Instr.lookup 67 (.map (some M)) (.string ⟨((l[j]'hjl).1).toArray⟩) false).run Try.prog w' = .ok (.pointer (some ⟨fb (l[j]'hjl).2, 0, none⟩)) w') := by
              intro Wx hb
              have hb3 := HBL.out.trans (hb.mono HBL.out.size)
              have fa := (dkV_below V4.out hb3).files _ wj.1
              have hk2 := holdsI_mono HK4.out hb3
              refine (fleftC fa (V4.out.wf.firm _) (.slice ka N kc) keep (by rw [HNK.out] at hk2 ⊢; exact hk2) HKB.out (by have := HB.out.2.2.2.2.2 (l[j]'hjl).2; omega) (by have h1 := wj.1; have h2 := HB.out.2.1; omega)).mono ?_
              rintro e w' ⟨u, rfl, ho⟩
              obtain ⟨ua, uc, hu, _⟩ := holdsB_own ho
              have hbw := hb.trans (ho.2.mono hb.size)
              refine ⟨ua, _, uc, by rw [hu], ⟨hbw, ?_⟩, KP.out w' hbw, LK.out w' hbw⟩
              rw [← hu]
              exact own_mask ho hb.size
            have CK : Hid (∀ Wx, Below wr.heap.size wr Wx → Calls Try.prog 29 #[.string ⟨((l[j]'hjl).1).toArray⟩] Wx fun e w' => e = .returned (.string ⟨((l[j]'hjl).1).toArray⟩) ∧ Hid (Below wr.heap.size wr w' ∧ Below Wx.heap.size Wx w') ∧ w'.cell? ⟨W.heap.size, 1, none⟩ = some (.slice ka N kc) ∧ (Instr.lookup 67 (.map (some M)) (.string ⟨((l[j]'hjl).1).toArray⟩) false).run Try.prog w' = .ok (.pointer (some ⟨fb (l[j]'hjl).2, 0, none⟩)) w') := fun Wx hb => (clone _ Wx ysz).mono (by
              rintro e w' ⟨rfl, hb2⟩
              have hbw := hb.trans (hb2.mono hb.size)
              exact ⟨rfl, ⟨hbw, hb2⟩, KP.out w' hbw, LK.out w' hbw⟩)
            have l0 := LK.out wr.drew ((Below.refl _ _).drew)
            have k0 := KP.out wr (Below.refl _ _)
            obtain ⟨ps, p1, p2, p3⟩ := HFI.out
            have e9 : ps.length = j := by rw [p2]; unfold filesOf; rw [List.length_map, List.length_take]; omega
            have P1 := hide' p1
            have P23 := hide' (And.intro p2 p3)
            have E9 := hide' e9
            have XY : Hid (S (l[j]'hjl).1 = .string ⟨((l[j]'hjl).1).toArray⟩) := rfl
            generalize (l[j]'hjl).1 = nmj at FS y1 ysz ydt LK CL CK l0 XY
            generalize (⟨nmj.toArray⟩ : ByteArray) = y at y1 ysz ydt LK CL CK l0 XY
            generalize (l[j]'hjl).2 = noj at FS LK CL CK l0
            generalize (s.data.getD noj []).take (leftLen s keep noj) = dj at FS CL
            clear p1 p2 p3 e9 wj aj LK KP ydt
            have APP : Hid (∀ (wl : World) (dv : Value), Below wr.heap.size wr wl → (wl.alloc (.cells #[.string y, dv] 43)).ownsRow w3.heap.size 43 2 (.slice xa j xc) j (cellsFi ps)) := fun wl dv hb => by
              have h0 := row_below (row_below P1.out hb) (below_alloc' wl (.cells #[.string y, dv] 43))
              rw [E9.out] at h0
              exact h0
            have KQ : Hid (∀ Wx, Below w3.heap.size w3 Wx → Wx.cell? ⟨W.heap.size, 1, none⟩ = some (.slice ka N kc)) := fun Wx hb => by
              have := (cells_below F4.out hb).1 1 (by simp)
              simpa using this.1
            have HS3 : Hid (∀ wl : World, Below wr.heap.size wr wl → w3.heap.size ≤ wl.heap.size) := fun wl hb => Nat.le_trans HBL.out.size hb.size
            have FIN : Hid (∀ (wl w6 : World) (dv : Value) (gb gc : Nat), Below wr.heap.size wr wl → HoldsB (mask (fun x => x < wr.heap.size) wl) dv dj → w6.ownsRow w3.heap.size 43 2 (.slice (some ⟨gb, 0, none⟩) (j + 1) gc) (j + 1) (cellsFi ps ++ [.string y, dv]) → (wl.alloc (.cells #[.string y, dv] 43)).grownBy w6 (Value.slice xa j xc).ownBlock → ((Value.slice xa j xc).ownBlock = some gb ∨ gb = wl.heap.size + 1) → FilW w3.heap.size (.slice (some ⟨gb, 0, none⟩) (j + 1) gc) (filesOf s keep (l.take (j + 1))) w6 ∧ Below w3.heap.size w3 w6) := by
              intro wl w6 dv gb gc hb hd hr hg hat
              have ba := below_alloc' wl (.cells #[.string y, dv] 43)
              have hbx := hb.trans (ba.mono hb.size)
              have za : (wl.alloc (.cells #[.string y, dv] 43)).heap.size = wl.heap.size + 1 := by simp
              obtain ⟨ps2, q1, q2, q3⟩ := fil_below HFI.out hbx
              have sub1 : Sub (mask (fun k => k < w3.heap.size ∨ (Value.slice xa j xc).ownBlock = some k) wr) (mask (fun k => k < w3.heap.size ∨ (Value.slice xa j xc).ownBlock = some k) (wl.alloc (.cells #[.string y, dv] 43))) := off_mask (off_of hbx) (fun k hk => .inl hk)
              have row1 := row_below P1.out hbx
              have hvb : ∀ k, (Value.slice xa j xc).ownBlock = some k → k < wr.heap.size := fun k e => (P1.out.lt k e).2
              have hd2 : HoldsB (mask (fun k => k < w3.heap.size ∨ (Value.slice xa j xc).ownBlock = some k) (wl.alloc (.cells #[.string y, dv] 43))) dv dj := by
                refine holdsB_sub ?_ hd
                refine Sub.trans (mask_mono (S := fun k => k < w3.heap.size ∨ (Value.slice xa j xc).ownBlock = some k) (fun k hk => ?_)) (off_mask (off_of ba) (fun k hk => .inl hk))
                rcases hk with hk | hk
                · have := HBL.out.size; omega
                · exact hvb k hk
              have fr := fil_app (nm := nmj) (d := dj) hd2 ps ⟨row1, P23.out.1, fun i p f e1 e2 => by obtain ⟨x1, x2⟩ := P23.out.2 i p f e1 e2; exact ⟨x1, holdsB_sub sub1 x2⟩⟩ (g := gb) (cap := gc) (by rw [E9.out, XY.out]; exact hr) hg (by rw [za]; exact hat)
              rw [E9.out, ← FS.out] at fr
              refine ⟨fr, ?_⟩
              have h0 := HBL.out.trans (hbx.mono HBL.out.size)
              exact Below.grown h0 hg (by have := HBL.out.size; have := hbx.size; omega) (fun k e => (P1.out.lt k e).1)
            go_wp2_with fail
            go_region_held_law (fun w' => w'.cell? ⟨W.heap.size, 1, none⟩ = some (.slice ka N kc)) (go_keep)
              (first
                | (go_at_call 29; refine (CK.out _ ?_).mono ?_; (first | exact (Below.refl _ _).drew | exact Below.refl _ _ | exact B5.out.1); rintro e w4 ⟨rfl, B4, x4, l4⟩)
                | (go_at_call 45; refine (CL.out _ ?_).mono ?_; (first | exact (Below.refl _ _).drew | exact Below.refl _ _ | exact B4.out.1); rintro e w5 ⟨ua, ul, uc, rfl, B5, x5, l5⟩)
                | (refine step_appFi (by rfl) (.tmp 45) (.tmp 55) (by rfl) w3.heap.size (.slice xa j xc) j ps (by rfl) (APP.out w5 _ B5.out.1) (by rfl) rfl (by omega) (HS3.out w5 B5.out.1) ?_; intro gb gc w6 r6 g6 a6; have FR := hide' (FIN.out w5 w6 _ gb gc B5.out.1 B5.out.2 r6 g6 a6); have z6 : w6.cell? ⟨W.heap.size, 1, none⟩ = some (.slice ka N kc) := KQ.out w6 FR.out.2; clear r6 g6 a6))
            all_goals
              go_wp2_with fail
              go_roundw
              case rel => exact ⟨j + 1, some ⟨gb, 0, none⟩, gc, by omega, by go_num, rfl, FR.out.1, FR.out.2⟩
              case measure => simp [intOf]; omega
          · have ej : l.take j = l := List.take_of_length_le (by rw [← HL.out]; omega)
            have EJ := hide' ej
            clear ej
            go_wp2_with fail
            go_ret
            refine ⟨_, rfl, ?_, BW4.out.trans (HBL.out.mono (by omega))⟩
            have h1 := fil_holds HFI.out
            rw [EJ.out] at h1
            rw [HSP.out]
            exact holdsFi_sub (mask_mono (fun x hx => by omega)) h1
end Go.Proofs.Ytaklfiipkjfjdaa
