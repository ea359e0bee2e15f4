/- The contract of CopyFate. The contract of the laws' step: the op as it is meant. The contract of read. The contracts of the store's rewrite and tidy. The contract of CopyFiles. -/
import Derived.Deep.QuietTactic
import Derived.BigQuiet
import Derived.Deep.RegionHeldLaw
import Derived.Test.YtibjcofbhldenaaGreatDoorZ36
import Derived.Test.YtibjcofbhldenaaGreatDoorZ37
import Derived.Test.YtibjcofbhldenaaGreatDoorZ34
import Derived.Test.YtibjcofbhldenaaGreatDoorZ31
import Derived.Test.YtibjcofbhldenaaGreatDoorZ29
namespace Go.Proofs.YtibjcofbhldenaaGreatDoor
open Go.RowKit
end Go.Proofs.YtibjcofbhldenaaGreatDoor
namespace Go.Proofs.YtibjcofbhldenaaGreatDoor
open Go.RowKit
def meant (a : Int) : Int := if a < 1 ∨ 6 < a then 6 else a
end Go.Proofs.YtibjcofbhldenaaGreatDoor
namespace Go.Proofs.YtibjcofbhldenaaGreatDoor
open Go.RowKit Go.Shelf
set_option maxRecDepth 20000
noncomputable def sndK (bs : List UInt8) : Nat := Classical.choose (stops_ex bs)
theorem sndK_stops (bs : List UInt8) : Stops bs (sndK bs) := Classical.choose_spec (stops_ex bs)
noncomputable def rdT (st : LSt) : (LSt × Int) × RL :=
  if (st.1.read lgN).2 = 90 then (beginT st, [])
  else if (st.1.read lgN).2 ≠ 0 then ((st, (st.1.read lgN).2), [])
  else if atR (st.1.read lgN).1 (sndK (st.1.read lgN).1) = (st.1.read lgN).1.length then ((st, 0), repR (st.1.read lgN).1 (sndK (st.1.read lgN).1))
  else (rewT (repR (st.1.read lgN).1 (sndK (st.1.read lgN).1)) st, repR (st.1.read lgN).1 (sndK (st.1.read lgN).1))
theorem dec_n (l : List UInt8) (h : (decOf l).n ≠ 0) : (decOf l).n = 15 + (decOf l).id.length := by
  obtain ⟨h1, h2, _⟩ := dec_plain l h
  obtain ⟨_, _, _, _, h5⟩ := enc_inv h1
  have := congrArg List.length h5
  rw [recL_len, List.length_take] at this
  omega
theorem bulkR_app (a b : RL) : bulkR (a ++ b) = bulkR a + bulkR b := by
  induction a with
  | nil => simp [bulkR]
  | cons r a ih => simp only [List.cons_append, bulkR, ih]; omega
theorem bulk_rep {bs : List UInt8} : ∀ K, (∀ i, i < K → okR bs i) → bulkR (repR bs K) = atR bs K := by
  intro K
  induction K with
  | zero => intro _; rfl
  | succ K ih =>
    intro h
    rw [repR_succ, bulkR_app, ih (fun i hi => h i (by omega)), atR_succ]
    have := dec_n _ (h K (by omega)).1
    show _ + (15 + (recR bs K).id.length + 0) = _ + (recR bs K).n
    unfold recR at this ⊢
    omega
theorem read_len {m : Nat} {s : Dk} (h : Bd m s) (nm : Nm) : (s.read nm).1.length ≤ m := by
  unfold Dk.read
  split
  · exact Nat.zero_le _
  · split
    · exact Nat.zero_le _
    · cases atN s.now nm with
      | none => exact Nat.zero_le _
      | some k => exact h.2.2.2.2.2 k
theorem rsd_own {o : Ow} {g lb : Nat} {s : Dk} {c : Int} {W0 W : World} {v : Value} {rs : RL} (h : LogS o g lb s c W0) (ho : OwnR W0 v rs W) : Rsd o lb W0.heap.size v rs W := by
  refine ⟨holdsR_own ho, fun ad n c' e => ?_⟩
  subst e
  have hx := ho.1.lt ad.block (by
    obtain ⟨hl, h1 | ⟨gg, cap, cur, hv, _⟩⟩ := id ho.1
    · cases h1.1
    · simp only [Value.slice.injEq, Option.some.injEq] at hv; rw [hv.1]; rfl)
  exact ⟨none_of_lt (dsk_lt h.dsk) hx.1, by have := h.blk.2; omega, hx.1, hx.2⟩
theorem rsd_low {o : Ow} {lb n0 n1 : Nat} {v : Value} {rs : RL} {W : World} (h : Rsd o lb n0 v rs W) (hn : n1 ≤ n0) : Rsd o lb n1 v rs W :=
  ⟨h.1, fun ad n c e => by obtain ⟨p1, p2, p3, p4⟩ := h.2 ad n c e; exact ⟨p1, p2, by omega, p4⟩⟩
theorem own_loR {w0 w : World} {ao : Option Addr} {vl vc : Nat} {bs : List UInt8} (ho : Own w0 (.slice ao vl vc) bs w) : ∀ ad, ao = some ad → ad.block < w.heap.size := by
  intro ad e
  subst e
  exact (ho.1.lt ad.block (by
    obtain ⟨hl, h1 | ⟨gg, cap, cur, hv, _⟩⟩ := id ho.1
    · cases h1.1
    · simp only [Value.slice.injEq, Option.some.injEq] at hv; rw [hv.1]; rfl)).2
set_option maxHeartbeats 2000000 in
theorem readG {o : Ow} {g lb : Nat} {s : Dk} {c : Int} {W : World} (h : LogS o g lb s c W) (m : Nat) (hm : 13 * m + 40 ≤ 80000000) (hB : Bd m s) :
    Calls Tryz.prog 83 #[lptr lb] W fun e W' => RdPost o g lb (rdT (s, c)) W e W' ∧ Bd (13 * m + 40) (rdT (s, c)).1.1.1 := by
  by_cases hr : (s.read lgN).2 = 90
  · refine (readNone h m (by omega) hB hr).mono ?_
    rintro e W' ⟨p1, p2⟩
    have R : rdT (s, c) = (beginT (s, c), []) := by unfold rdT; rw [if_pos hr]
    rw [R]
    exact ⟨p1, bd_mono p2 (by omega)⟩
  · have CR := hide' (readC h.dsk lgB (by decide) (bd_mono hB (by omega)))
    have RLE := hide' (read_len hB lgN)
    obtain ⟨c0, _, _⟩ := logS_cells h
    have H := hide' h
    have HB := hide' hB
    clear h hB
    obtain ⟨bs, hbs⟩ : ∃ bs, bs = (s.read lgN).1 := ⟨_, rfl⟩
    obtain ⟨y, hy⟩ : ∃ y, y = (s.read lgN).2 := ⟨_, rfl⟩
    have e1 : (s.read (lgB).data.toList).1 = bs := hbs.symm
    have e2 : (s.read (lgB).data.toList).2 = y := hy.symm
    rw [e1, e2] at CR
    rw [← hbs] at RLE
    by_cases hz : y = 0
    · obtain ⟨K, hKe⟩ : ∃ K, K = sndK bs := ⟨_, rfl⟩
      have hK : Stops bs K := by rw [hKe]; exact sndK_stops bs
      have hbk := bulk_rep K hK.1
      have hal := atR_le bs K
      have HKS := hide' hK
      by_cases ha : atR bs K = bs.length
      · have R : Hid (rdT (s, c) = (((s, c), 0), repR bs K)) := by
          unfold Hid rdT; rw [if_neg hr, if_neg (by rw [← hy, hz]; exact fun h => h rfl)]; dsimp only; rw [← hbs, ← hKe, if_pos ha]
        have HA := hide' ha
        have HR := hide' hr
        subst hz
        clear hr hK hKe hbk hal ha e1 e2 hbs hy
        go_enter Tryz.func83, Tryz.ntmps83
        go_wp2_with fail
        refine CR.out.mono ?_
        rintro e w1 ⟨v, rfl, hv⟩
        obtain ⟨va, vc, hve⟩ := row_sl hv.1
        obtain ⟨N, hN⟩ : ∃ N, N = bs.length := ⟨_, rfl⟩
        rw [← hN] at hve
        subst hve
        have CP := hide' (replayC va N vc bs w1 (holdsB_own hv) (by have := RLE.out; omega) (own_loR hv))
        have B1 := hide' hv.2
        have H1 := hide' (logS_below H.out hv.2)
        have HN := hide' hN
        clear hv hN
        go_wp2_with fail
        refine CP.out.mono ?_
        rintro e w2 ⟨L, r, rfl, hL, ho⟩
        obtain rfl := stops_one hL HKS.out
        have H2 := hide' (logS_below H1.out ho.2)
        have RS := hide' (rsd_own H1.out ho)
        have BB := hide' (B1.out.trans (ho.2.mono B1.out.size))
        rw [HA.out, ← HN.out]
        clear ho hL CP CR
        go_wp2_with fail
        go_ret2
        rw [R.out]
        exact ⟨⟨r, o, rfl, H2.out, growL_below BB.out, rsd_low RS.out B1.out.size⟩, bd_mono HB.out (by omega)⟩
      · have R : Hid (rdT (s, c) = (rewT (repR bs K) (s, c), repR bs K)) := by
          unfold Hid rdT; rw [if_neg hr, if_neg (by rw [← hy, hz]; exact fun h => h rfl)]; dsimp only; rw [← hbs, ← hKe, if_neg ha]
        obtain ⟨A, hA⟩ : ∃ A, A = atR bs K := ⟨_, rfl⟩
        obtain ⟨N, hN⟩ : ∃ N, N = bs.length := ⟨_, rfl⟩
        have hne : ¬ (A : Int) = (N : Int) := by rw [hA, hN]; omega
        have hne1 : ((A : Int) == (N : Int)) = false := by simpa using hne
        have hne2 : ¬ A = N := by omega
        have hne3 : decide (A = N) = false := by simpa using hne2
        have HA : Hid (atR bs K = A) := hA.symm
        have HN := hide' hN
        have HBK := hide' hbk
        have HAL := hide' hal
        subst hz
        clear hr hK hKe hbk hal ha e1 e2 hbs hy hA hN
        go_enter Tryz.func83, Tryz.ntmps83
        go_wp2_with fail
        refine CR.out.mono ?_
        rintro e w1 ⟨v, rfl, hv⟩
        obtain ⟨va, vc, hve⟩ := row_sl hv.1
        rw [← HN.out] at hve
        subst hve
        have CP := hide' (replayC va N vc bs w1 (holdsB_own hv) (by have := RLE.out; omega) (own_loR hv))
        have B1 := hide' hv.2
        have H1 := hide' (logS_below H.out hv.2)
        clear hv
        go_wp2_with fail
        refine CP.out.mono ?_
        rintro e w2 ⟨L, r, rfl, hL, ho⟩
        obtain rfl := stops_one hL HKS.out
        obtain ⟨ra, rc, hre⟩ := ownR_sl ho
        rw [repR_len] at hre
        subst hre
        have h2 := logS_below H1.out ho.2
        have RS := hide' (rsd_low (rsd_own H1.out ho) B1.out.size)
        have CW := hide' (rewriteC h2 m HB.out ra L rc (repR bs L) (holdsR_own ho) (by rw [HBK.out]; have h1 := HAL.out; have h2 := RLE.out; omega))
        have BB := hide' (B1.out.trans (ho.2.mono B1.out.size))
        rw [HA.out]
        clear ho hL CP CR h2
        go_wp2_with fail
        refine CW.out.mono ?_
        rintro e w3 ⟨P, hbd⟩
        have PP := hide' P
        have HBD := hide' hbd
        obtain ⟨rfl, _⟩ := P
        clear hbd
        go_wp2_with fail
        go_ret2
        rw [R.out]
        obtain ⟨_, o', hl, hg⟩ := PP.out
        exact ⟨⟨_, o', rfl, hl, (growL_below BB.out).trans hg, rsd_grow RS.out hg⟩, bd_mono HBD.out (by rw [HBK.out]; have h1 := HAL.out; have h2 := RLE.out; omega)⟩
    · have R : Hid (rdT (s, c) = (((s, c), y), [])) := by
        unfold Hid rdT; rw [if_neg hr, if_pos (by rw [← hy]; exact hz), hy]
      have y0 : decide (y = 0) = false := by simpa using hz
      have y9' : ¬ y = 90 := by rw [hy]; exact hr
      have y9 : decide (y = 90) = false := by simpa using y9'
      have y91 : (y == 90) = false := by simpa using y9'
      clear hr e1 e2 hbs hy
      go_enter Tryz.func83, Tryz.ntmps83
      go_wp2_with fail
      refine CR.out.mono ?_
      rintro e w1 ⟨v, rfl, hv⟩
      have B1 := hide' hv.2
      have H1 := hide' (logS_below H.out hv.2)
      clear hv
      go_wp2_with fail
      go_ret2
      rw [R.out]
      exact ⟨⟨_, o, rfl, H1.out, growL_below B1.out, rsd_nil _ _ _ _⟩, bd_mono HB.out (by omega)⟩
end Go.Proofs.YtibjcofbhldenaaGreatDoor
namespace Go.Proofs.YtibjcofbhldenaaGreatDoor
open Go.RowKit Go.Maps
/-- one record for each id of the table -/
def recsOf (t : NL) : RL := t.map (fun p => ((0 : Int), (1 : Int), (p.2 : Int), p.1))
theorem recs_len (t : NL) : (recsOf t).length = t.length := by simp [recsOf]
theorem recs_next (t : NL) (k : Nat) (h : k < t.length) : recsOf (t.take (k + 1)) = recsOf (t.take k) ++ [(0, 1, (t[k].2 : Int), t[k].1)] := by
  unfold recsOf
  rw [List.take_succ_eq_append_getElem h, List.map_append]
  rfl
/-- ids short enough to be texts -/
def SmlT (t : NL) : Prop := ∀ p ∈ t, p.1.length ≤ 1000000
set_option maxRecDepth 20000
set_option maxHeartbeats 2000000
theorem rewSC {o : Ow} {g lb sb tm : Nat} {slots : Int} {s : Dk} {c : Int} {t : NL} {W : World} (h : StoS o g lb sb tm slots s c t W) (m : Nat) (hB : Bd m s) (hm : m + 4 * (8 + 3 * bulkR (recsOf t)) ≤ 80000000) (ht : SmlT t) (htl : t.length ≤ 1000000) :
    Calls Tryz.prog 87 #[lptr sb] W fun e W' => TPost o g lb sb tm slots (((rewT (recsOf t) (s, c)).1, t), (rewT (recsOf t) (s, c)).2) W e W' ∧ Bd (m + 4 * (8 + 3 * bulkR (recsOf t))) (rewT (recsOf t) (s, c)).1.1 := by
  have CI := hide' (idsC h (by omega))
  have H := hide' h
  have BB := hide' hB
  have TT := hide' ht
  have SS := hide' h.srt
  clear h hB ht
  go_enter Tryz.func87, Tryz.ntmps87
  go_wp2_with fail
  refine CI.out.mono ?_
  rintro e w1 ⟨v, rfl, ho⟩
  have HS1 := hide' (stoS_below H.out ho.2)
  have B1 := hide' ho.2
  obtain ⟨ao, ca, b, off, hv, hc⟩ := holds_partsC (holds_own ho)
  have C := hide' hc
  rw [hv]
  clear ho hv hc CI H
  obtain ⟨n, en⟩ : ∃ n, n = t.length := ⟨_, rfl⟩
  have N : Hid (t.length = n) := en.symm
  rw [List.length_map, N.out]
  rw [N.out] at htl
  clear en
  go_wp2_with fail
  go_loopw [3, 9] (fun v i wr => ∃ (vo : Value) (k : Nat), vo = v ∧ k ≤ n ∧ i = .int .i64 k ∧ OwnR w1 vo (recsOf (t.take k)) wr) (fun _ i _ => n - (intOf i).toNat)
  case atStart => exact ⟨_, 0, rfl, Nat.zero_le _, rfl, ownR_nil w1 w1 (Below.refl _ _)⟩
  case round =>
    obtain ⟨vo, k, rfl, hk, rfl, ho⟩ := hrel
    have HS2 := hide' (stoS_below HS1.out ho.2)
    have hrl : (recsOf (t.take k)).length ≤ k := by rw [recs_len]; exact List.length_take_le _ _
    by_cases hlt : k < n
    · have G : Hid (k < t.length) := by unfold Hid; rw [N.out]; exact hlt
      obtain ⟨hao, hblt, hcell⟩ := C.out (by rw [List.length_map]; have := G.out; omega)
      subst hao
      have ck : wr.cell? ⟨b, off + k, none⟩ = some (.string ⟨(t[k]'G.out).1.toArray⟩) := by
        rw [ho.2.cell (p := ⟨b, off + k, none⟩) hblt]
        have := hcell k (by rw [List.length_map]; exact G.out)
        rw [List.getElem_map] at this
        exact this
      have hsz : (⟨(t[k]'G.out).1.toArray⟩ : ByteArray).size ≤ 140737488351232 := by rw [size_l]; have := TT.out _ (List.getElem_mem G.out); omega
      have hlk := tbi_one HS2.out.tab hsz (at_mem SS.out (name := (t[k]'G.out).1) (k := (t[k]'G.out).2) (List.getElem_mem G.out))
      have R := hide' (recs_next t k G.out)
      obtain ⟨-, -, -, c3⟩ := stoS_cells HS2.out
      clear hcell
      generalize (t[k]'G.out).1 = q1 at ck hsz hlk R
      generalize (t[k]'G.out).2 = q2 at hlk R
      generalize recsOf (t.take k) = acc at ho hrl R
      go_wp2_with (at_builtin; refine appR rfl (.tmp 13) (.tmp 22) rfl w1 _ _ rfl ho (0, 1, (q2 : Int), q1) rfl rfl rfl rfl rfl (by simp) (by omega) ?_; intro v5 w5 ho5)
      go_roundw
      case rel => exact ⟨_, k + 1, rfl, by omega, by go_num, by rw [R.out]; exact ho5⟩
      case measure => simp [intOf]; omega
    · have E : Hid (t.take k = t) := List.take_of_length_le (by rw [N.out]; omega)
      rw [E.out] at ho
      have HR := hide' (holdsR_own ho)
      obtain ⟨ra, rc, hvo, _⟩ := holdsR_own ho
      have CW := hide' (rewriteC HS2.out.log m BB.out ra (recsOf t).length rc (recsOf t) (by rw [← hvo]; exact HR.out) hm)
      have B3 := hide' (B1.out.trans (ho.2.mono B1.out.size))
      rw [hvo] at HR ⊢
      obtain ⟨-, c1, -, -⟩ := stoS_cells HS2.out
      clear ho hvo HR hrl
      generalize (recsOf t).length = rl at CW ⊢
      go_wp2_with fail
      refine CW.out.mono ?_
      rintro e w3 ⟨p1, p2⟩
      have P := hide' (tpost_log HS2.out p1)
      have BD := hide' p2
      obtain ⟨rfl, -⟩ := p1
      obtain ⟨-, o3, S3, G3⟩ := P.out
      have HS3 := hide' S3
      have HG3 := hide' ((growT_below (lb := lb) (tm := tm) (o := o) B3.out).trans G3)
      clear P S3 G3 p2
      go_wp2_with fail
      go_ret
      exact ⟨⟨rfl, o3, HS3.out, HG3.out⟩, BD.out⟩
/-- tidy: a log with many records is written anew -/
def tidyT (t : NL) (st : LSt) : LSt := if 2 * (t.length : Int) + 16 < st.2 then (rewT (recsOf t) st).1 else st
theorem tidyC {o : Ow} {g lb sb tm : Nat} {slots : Int} {s : Dk} {c : Int} {t : NL} {W : World} (h : StoS o g lb sb tm slots s c t W) (m : Nat) (hB : Bd m s) (hm : m + 4 * (8 + 3 * bulkR (recsOf t)) ≤ 80000000) (ht : SmlT t) (htl : t.length ≤ 1000000) :
    Calls Tryz.prog 40 #[lptr sb] W fun e W' => e = .returned (.tuple #[]) ∧ (∃ o', StoS o' g lb sb tm slots (tidyT t (s, c)).1 (tidyT t (s, c)).2 t W' ∧ GrowT lb tm o W o' W') ∧ Bd (m + 4 * (8 + 3 * bulkR (recsOf t))) (tidyT t (s, c)).1 := by
  have CR := hide' (fun n => rewSC (stoS_below h (below_drewN W n)) m hB hm ht htl)
  have CC := hide' (fun n => countC (logS_below h.log (below_drewN W n)))
  have CC0 := hide' (countC h.log)
  have hlen := fun n => tbi_len (stoS_below h (below_drewN W n)).tab 3
  have hlen0 := fun n => tbi_len (stoS_below h (below_drewN W n)).tab 0
  have hl1 := tbi_len (stoS_below h (below_drewN W 1)).tab 3
  have H := hide' h
  have BB := hide' hB
  obtain ⟨c0, c1, c2, c3⟩ := stoS_cells h
  have F : Hid (tidyT t (s, c) = if 2 * (t.length : Int) + 16 < c then (rewT (recsOf t) (s, c)).1 else (s, c)) := rfl
  clear h hB ht
  generalize t.length = n at hlen hlen0 hl1 htl F
  by_cases hg : 2 * (n : Int) + 16 < c
  · rw [if_pos hg] at F
    go_enter Tryz.func40, Tryz.ntmps40
    go_wp2_with fail
    go_quiet (first | (go_at_call 55; first | exact Calls.quiet_of_same (CC.out _) | exact Calls.quiet_of_same CC0.out))
    go_wp2_with fail
    refine (CR.out _).mono ?_
    rintro e w1 ⟨⟨rfl, o1, S1, G1⟩, b1⟩
    have HS := hide' S1
    have HG := hide' ((growT_below (lb := lb) (tm := tm) (o := o) (below_drewN W _)).trans G1)
    have BD := hide' b1
    clear S1 G1 b1
    go_wp2_with fail
    go_end0
    rw [F.out]
    exact ⟨rfl, ⟨o1, HS.out, HG.out⟩, BD.out⟩
  · rw [if_neg hg] at F
    go_enter Tryz.func40, Tryz.ntmps40
    go_wp2_with fail
    go_quiet (first | (go_at_call 55; first | exact Calls.quiet_of_same (CC.out _) | exact Calls.quiet_of_same CC0.out))
    go_wp2_with fail
    go_end0
    rw [F.out]
    exact ⟨rfl, ⟨o, stoS_below H.out (below_drewN W _), growT_below (below_drewN W _)⟩, bd_mono BB.out (by omega)⟩
end Go.Proofs.YtibjcofbhldenaaGreatDoor
namespace Go.Proofs.YtibjcofbhldenaaGreatDoor
open Go.RowKit
end Go.Proofs.YtibjcofbhldenaaGreatDoor
