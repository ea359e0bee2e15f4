/- The contract of the document's Decode. -/
import Derived.Test.YtenegcoapejbmaaGreatDoorObQ
import Derived.Test.YtenegcoapejbmaaGreatDoorObT
import Derived.Test.YtenegcoapejbmaaGreatDoorObK
import Derived.Test.YtenegcoapejbmaaGreatDoorObH
import Derived.Test.YtenegcoapejbmaaGreatDoorHdU
import Derived.Deep.RegionHeldLaw
import Derived.Deep.DeepCutAuto
namespace Go.Proofs.YtenegcoapejbmaaGreatDoor
open Go.RowKit
/-- the loop's state -/
structure DecI (bs : List UInt8) (w W0 : World) (q k pos : Nat) (pv : Value) (us : List Value) (wr : World) : Prop where
  told : ∃ ds, secsN k (bs.drop 3) = some (ds, bs.drop pos) ∧ ∀ i, i < k → HoldsB w (us.getD i (.bool false)) (ds.getD i [])
  len : us.length = k
  sl : ∀ x ∈ us, Sls x
  row : RowV W0.heap.size pv us wr
  res : Blk q wr Z9
  bel : Below W0.heap.size W0 wr
  le : pos ≤ bs.length
theorem decI_step {bs : List UInt8} {w W0 : World} {q k pos : Nat} {pv pv' : Value} {us : List Value} {wr w' : World} (h : DecI bs w W0 q k pos pv us wr) (hq : q < W0.heap.size) {d : List UInt8} {pos' : Nat} (hs : secR (bs.drop pos) = some (d, bs.drop pos')) {u : Value} (hu : HoldsB w u d)
    (hr : RowV W0.heap.size pv' (us ++ [u]) w') (hb : Below W0.heap.size wr w') (hp : pos' ≤ bs.length) : DecI bs w W0 q (k + 1) pos' pv' (us ++ [u]) w' := by
  obtain ⟨ds, h1, h2⟩ := h.told
  have hdl := secsN_len k h1
  have hl := h.len
  refine ⟨⟨ds ++ [d], secsN_step h1 hs, fun i hi => ?_⟩, by rw [List.length_append, hl]; rfl, fun x hx => ?_, hr, cells_base h.res hb hq, h.bel.trans hb, hp⟩
  · rw [List.getD_eq_getElem?_getD, List.getD_eq_getElem?_getD (l := ds ++ [d])]
    by_cases e : i = k
    · subst e
      rw [List.getElem?_append_right (by omega), List.getElem?_append_right (by omega), show i - us.length = 0 by omega, show i - ds.length = 0 by omega]
      exact hu
    · have := h2 i (by omega)
      rw [List.getElem?_append_left (by omega), List.getElem?_append_left (by omega)]
      rw [List.getD_eq_getElem?_getD, List.getD_eq_getElem?_getD] at this
      exact this
  · rcases List.mem_append.1 hx with hx | hx
    · exact h.sl x hx
    · obtain rfl := List.mem_singleton.1 hx; exact holds_sls hu
theorem rowV_slice {base : Nat} {v : Value} {us : List Value} {w : World} (h : RowV base v us w) : ∃ a c, v = .slice a us.length c := by
  obtain ⟨_, ⟨rfl, hn⟩ | ⟨g, cap, cur, rfl, _⟩⟩ := h
  · exact ⟨none, 0, by rw [hn]⟩
  · exact ⟨_, cap, rfl⟩
theorem rowV_cells {base : Nat} {ga : Option Addr} {n gc : Nat} {us : List Value} {w : World} (h : RowV base (.slice ga n gc) us w) (hp : 0 < us.length) : ∃ g, ga = some ⟨g, 0, none⟩ ∧ base ≤ g ∧ g < w.heap.size ∧ ∀ j (hj : j < us.length), w.cell? ⟨g, j, none⟩ = some us[j] := by
  have hh := h
  have hlt := World.ownsRow.lt h
  obtain ⟨_, ⟨_, hn⟩ | ⟨g, cap, cur, e, hb, hg, hr⟩⟩ := h
  · omega
  · simp only [Value.slice.injEq] at e
    obtain ⟨rfl, rfl, rfl⟩ := e
    refine ⟨g, rfl, hb, (hlt g rfl).2, fun j hj => ?_⟩
    have := hh.cells (g := g) rfl j us[j] (List.getElem?_eq_getElem hj)
    rw [Go.WideShapes.add_plain, Nat.zero_add] at this
    exact this
theorem ent_get {l : List UInt8} (h : l.length = 16) : (l.take 8).getD 0 0 = l[0]'(by omega) ∧ (l.drop 8).getD 0 0 = l[8]'(by omega) := by
  constructor
  · rw [List.getD_eq_getElem?_getD, List.getElem?_take, if_pos (by decide), List.getElem?_eq_getElem (by omega)]; rfl
  · rw [List.getD_eq_getElem?_getD, List.getElem?_drop, List.getElem?_eq_getElem (by omega)]; rfl
/-- worlds behind w4 by new blocks and stores into new blocks -/
inductive Bl (w4 : World) : World → Prop where
  | of {W : World} (h : Below w4.heap.size w4 W) : Bl w4 W
  | al {W : World} {o : Obj} (h : Bl w4 W) : Bl w4 (W.alloc o)
  | dr {W : World} (h : Bl w4 W) : Bl w4 W.drew
  | st {W : World} {b o : Nat} {v : Value} (hb : w4.heap.size ≤ b) (h : Bl w4 W) : Bl w4 (W.setCell ⟨b, o, none⟩ v)
theorem Bl.out {w4 W : World} (h : Bl w4 W) : Below w4.heap.size w4 W := by
  induction h with
  | of h => exact h
  | al _ ih => exact ih.alloc ih.size _
  | dr _ ih => exact ih.drew
  | st hb _ ih => exact ih.setCell hb _
set_option maxRecDepth 20000 in
set_option maxHeartbeats 16000000 in
theorem decRC (v : Value) (bs : List UInt8) (w : World) (hv : HoldsB w v bs) (hl : bs.length ≤ 1000000000000000) :
    Calls Tryz.prog 7 #[v] w fun e w' => DecA w (decO bs) e w' := by
  have HV := hide' hv
  obtain ⟨ao, cap, rfl, _, hcp, _⟩ := hv
  obtain ⟨n, hn⟩ : ∃ n, n = bs.length := ⟨_, rfl⟩
  have N1 : Hid (bs.length = n) := hn.symm
  rw [← hn] at HV hcp hl ⊢
  clear hn
  have b0 := below_alloc' w (.cells #[.string ⟨#[]⟩, .string ⟨#[]⟩, .int .i64 0, .string ⟨#[]⟩, .int .i64 0, .slice none 0 0, .slice none 0 0, .int .i64 0, .int .i64 0] 29)
  have q0 := cells_lit w #[.string ⟨#[]⟩, .string ⟨#[]⟩, .int .i64 0, .string ⟨#[]⟩, .int .i64 0, .slice none 0 0, .slice none 0 0, .int .i64 0, .int .i64 0] 29
  by_cases h3 : n < 3
  · have BAD : Hid (decO bs = (En.zero, 120)) := dec_long (.inl (by rw [N1.out]; omega))
    have d3 : decide ((n : Int) < 3) = true := by simp; omega
    have ZB := hide' b0
    clear h3 q0 b0 HV
    go_enter Tryz.func7, Tryz.ntmps7
    go_wp2_with fail
    exact bodyPost_ret (v := .tuple #[ezV, .int .i64 120]) (by simp [results, Tryz.results7, go_sem, ezV]) rfl (by rw [BAD.out]; exact decA_none ZB.out)
  have d3 : decide ((n : Int) < 3) = false := by simp; omega
  by_cases h8 : 100000 < n
  · have BAD : Hid (decO bs = (En.zero, 120)) := dec_long (.inr (by rw [N1.out]; omega))
    have d8 : decide ((100000 : Int) < (n : Int)) = true := by simp; omega
    have ZB := hide' b0
    clear h8 q0 b0 HV
    go_enter Tryz.func7, Tryz.ntmps7
    go_wp2_with fail
    exact bodyPost_ret (v := .tuple #[ezV, .int .i64 120]) (by simp [results, Tryz.results7, go_sem, ezV]) rfl (by rw [BAD.out]; exact decA_none ZB.out)
  have d8 : decide ((100000 : Int) < (n : Int)) = false := by simp; omega
  have ln : n ≤ 100000 := by omega
  have g3 : 3 ≤ n := by omega
  have LN : Hid (bs.length ≤ 100000) := by unfold Hid; rw [N1.out]; exact ln
  have GE : Hid (3 ≤ bs.length) := by unfold Hid; rw [N1.out]; omega
  obtain ⟨W0, hW0⟩ : ∃ W0, W0 = w.alloc (.cells #[.string ⟨#[]⟩, .string ⟨#[]⟩, .int .i64 0, .string ⟨#[]⟩, .int .i64 0, .slice none 0 0, .slice none 0 0, .int .i64 0, .int .i64 0] 29) := ⟨_, rfl⟩
  have HW0 := hide' hW0
  rw [← hW0] at b0 q0
  obtain ⟨q, hq⟩ : ∃ q, q = w.heap.size := ⟨_, rfl⟩
  have HQ := hide' hq
  rw [← hq] at q0
  have B0 := hide' b0
  have Q0L : Hid (q < W0.heap.size) := q0.2
  have QLE : Hid (w.heap.size ≤ q) := by unfold Hid; omega
  have hz1 : W0.heap.size = q + 1 := by rw [hW0, hq]; simp
  have ba := below_alloc' W0 (.cells #[] 22)
  have S0 : Hid (DecI bs w W0 q 0 3 (.slice (some ⟨q + 1, 0, none⟩) 0 0) [] (W0.alloc (.cells #[] 22))) := ⟨⟨[], rfl, fun i h => absurd h (Nat.not_lt_zero _)⟩, rfl, fun x hx => absurd hx (List.not_mem_nil), by rw [← hz1]; exact rowV_empty W0, cells_below q0 ba, ba, by rw [N1.out]; omega⟩
  clear hW0 hq b0 q0 h8 ba h3 hl hz1
  go_enter Tryz.func7, Tryz.ntmps7
  go_wp2_with fail
  rw [← HW0.out, ← HQ.out]
  go_loopw [4, 5, 6] (fun pv av iv wr => ∃ (k pos : Nat) (us : List Value), k ≤ 5 ∧ iv = .int .i64 k ∧ av = .int .i64 (pos : Int) ∧ pos ≤ n ∧ Hid (DecI bs w W0 q k pos pv us wr)) (fun _ _ i _ => 5 - (intOf i).toNat)
  case atStart => exact ⟨0, 3, [], by omega, rfl, rfl, by omega, S0⟩
  case round =>
    obtain ⟨k, pos, us, hk, rfl, rfl, hpn, HI⟩ := hrel
    clear S0
    obtain ⟨ga, gc, hpv⟩ := rowV_slice HI.out.row
    subst hpv
    obtain ⟨⟨z0, z1, z2, z3, z4, z5, z6, z7, z8⟩, ⟨f0, f1, f2, f3, f4, f5, f6, f7, f8⟩⟩ := cells_nine (show Blk q _ [_, _, _, _, _, _, _, _, _] from HI.out.res)
    have zq := cells_put HI.out.res [.string ⟨#[]⟩, .string ⟨#[]⟩, .int .i64 0, .string ⟨#[]⟩, .int .i64 0, .slice none 0 0, .slice none 0 0, .int .i64 0, .int .i64 0] rfl
    have zb := put_below (w := w) QLE.out [.string ⟨#[]⟩, .string ⟨#[]⟩, .int .i64 0, .string ⟨#[]⟩, .int .i64 0, .slice none 0 0, .slice none 0 0, .int .i64 0, .int .i64 0] 0 _ (bt' B0.out HI.out.bel)
    rw [put_nine] at zq zb
    have ZQ := hide' zq
    have ZB := hide' zb
    clear zq zb
    by_cases hk5 : k = 5
    · subst hk5
      clear ZQ ZB z0 z1 z2 z3 z4 z5 z6 z7 z8 f0 f1 f2 f3 f4 f5 f6 f7 f8
      obtain ⟨x0, x1, x2, x3, x4, hus⟩ := list5 HI.out.len
      subst hus
      obtain ⟨a0, n0, c0, rfl⟩ := HI.out.sl x0 (by simp)
      obtain ⟨a1, n1, c1, rfl⟩ := HI.out.sl x1 (by simp)
      obtain ⟨a2, n2, c2, rfl⟩ := HI.out.sl x2 (by simp)
      obtain ⟨a3, n3, c3, rfl⟩ := HI.out.sl x3 (by simp)
      obtain ⟨a4, n4, c4, rfl⟩ := HI.out.sl x4 (by simp)
      obtain ⟨ds, hds, hh⟩ := HI.out.told
      have G0 : Hid (HoldsB w (.slice a0 n0 c0) (ds.getD 0 [])) := hh 0 (by omega)
      have G1 : Hid (HoldsB w (.slice a1 n1 c1) (ds.getD 1 [])) := hh 1 (by omega)
      have G2 : Hid (HoldsB w (.slice a2 n2 c2) (ds.getD 2 [])) := hh 2 (by omega)
      have G3 : Hid (HoldsB w (.slice a3 n3 c3) (ds.getD 3 [])) := hh 3 (by omega)
      have G4 : Hid (HoldsB w (.slice a4 n4 c4) (ds.getD 4 [])) := hh 4 (by omega)
      obtain ⟨i1, -⟩ := secsN_lens 5 hds
      have LL := hide' (fun i => getD_len i1 i)
      have DL := hide' (show (bs.drop 3).length ≤ 100000 by have := LN.out; rw [List.length_drop]; omega)
      have RD := hide' (read_is GE.out hds)
      have DH := hide' (fun h => dec_head GE.out hds h)
      have DT := hide' (fun h => dec_times GE.out hds h)
      obtain ⟨g, hg, hgb, hglt, hgc⟩ := rowV_cells HI.out.row (by simp)
      subst hg
      have GC : Hid (∀ W, Below wr.heap.size wr W → W.cell? ⟨g, 0, none⟩ = some (.slice a0 n0 c0) ∧ W.cell? ⟨g, 1, none⟩ = some (.slice a1 n1 c1) ∧ W.cell? ⟨g, 2, none⟩ = some (.slice a2 n2 c2) ∧ W.cell? ⟨g, 3, none⟩ = some (.slice a3 n3 c3) ∧ W.cell? ⟨g, 4, none⟩ = some (.slice a4 n4 c4)) := fun W hb => by
        have := fun j (hj : j < 5) => hb.cell (p := ⟨g, j, none⟩) hglt
        exact ⟨(this 0 (by decide)).trans (hgc 0 (by simp)), (this 1 (by decide)).trans (hgc 1 (by simp)), (this 2 (by decide)).trans (hgc 2 (by simp)), (this 3 (by decide)).trans (hgc 3 (by simp)), (this 4 (by decide)).trans (hgc 4 (by simp))⟩
      have GL : Hid (W0.heap.size ≤ g ∧ g < wr.heap.size) := ⟨hgb, hglt⟩
      have BW := hide' HI.out.bel
      have QW := hide' HI.out.res
      have cR := hide' (refResp (.slice a2 n2 c2) (ds.getD 2 []) wr (holdsB_mono G2.out (bt' B0.out BW.out)) (by have := LL.out 2; have := DL.out; omega))
      have EN := hide' (fun h => RD.out.trans (ent_no2 (ds := ds) h))
      have EO := hide' (fun h => RD.out.trans (ent_no1 (ds := ds) h))
      have EY := hide' (fun h h2 => RD.out.trans (ent_yes (ds := ds) h h2))
      unfold respV rsV at cR
      generalize respOf (ds.getD 2 []) = RR at cR EN EY DH
      obtain ⟨⟨rs, rr, rk, rf⟩, RN, er⟩ := RR
      dsimp only at cR EN EY DH
      obtain ⟨y0, y1, y2, y3, y4⟩ := GC.out wr (Below.refl _ _)
      obtain ⟨_, _, e4, _⟩ := holdsB_parts G4.out
      have N4 : Hid ((ds.getD 4 []).length = n4) := by
        have : Value.slice a4 n4 c4 = .slice _ (ds.getD 4 []).length _ := e4
        simp only [Value.slice.injEq] at this
        exact this.2.1.symm
      clear e4 hgc hgb hglt i1 hh hds HI
      go_wp2_with fail
      clear y0 y1 y2 y3 y4
      refine cR.out.mono ?_
      rintro e w3 ⟨lv, rfl, hf⟩
      have hbf := hf.2
      obtain ⟨la, lc, _, _, e1, _⟩ := holdsF_parts (holdsF_own hf)
      subst e1
      obtain ⟨ln', hln⟩ : ∃ n, n = rf.length := ⟨_, rfl⟩
      rw [← hln] at hf ⊢
      have F3 := hide' (ownF_base hf BW.out)
      have bp := below_alloc' w3 (.cells #[.int .i64 rs, .string ⟨rr.toArray⟩, .int .i64 rk, .slice la ln' lc] 27)
      have B4 := hide' (bt' hbf bp)
      have BW4 := hide' (bt' BW.out B4.out)
      have F4 := hide' (ownF_mono F3.out bp)
      have P4 : Hid (Blk w3.heap.size (w3.alloc (.cells #[.int .i64 rs, .string ⟨rr.toArray⟩, .int .i64 rk, .slice la ln' lc] 27)) [.int .i64 rs, .string ⟨rr.toArray⟩, .int .i64 rk, .slice la ln' lc]) := cells_lit w3 #[.int .i64 rs, .string ⟨rr.toArray⟩, .int .i64 rk, .slice la ln' lc] 27
      have Q4 : Hid (Blk q (w3.alloc (.cells #[.int .i64 rs, .string ⟨rr.toArray⟩, .int .i64 rk, .slice la ln' lc] 27)) [.string ⟨#[]⟩, .string ⟨#[]⟩, .int .i64 0, .string ⟨#[]⟩, .int .i64 0, .slice none 0 0, .slice none 0 0, .int .i64 0, .int .i64 0]) := cells_below QW.out B4.out
      have DP : Hid (g < w3.heap.size ∧ q < w3.heap.size) := by
        have h1 := GL.out.2
        have h2 := QW.out.2
        have h3 := hbf.size
        unfold Hid
        omega
      obtain ⟨y0, y1, y2, y3, y4⟩ := GC.out _ B4.out
      obtain ⟨⟨z0, z1, z2, z3, z4, z5, z6, z7, z8⟩, ⟨f0, f1, f2, f3, f4, f5, f6, f7, f8⟩⟩ := cells_nine Q4.out
      have zq := cells_put Q4.out [.string ⟨#[]⟩, .string ⟨#[]⟩, .int .i64 0, .string ⟨#[]⟩, .int .i64 0, .slice none 0 0, .slice none 0 0, .int .i64 0, .int .i64 0] rfl
      have zb := put_below (w := w) QLE.out [.string ⟨#[]⟩, .string ⟨#[]⟩, .int .i64 0, .string ⟨#[]⟩, .int .i64 0, .slice none 0 0, .slice none 0 0, .int .i64 0, .int .i64 0] 0 _ (bt' B0.out BW4.out)
      rw [put_nine] at zq zb
      have ZQ := hide' zq
      have ZB := hide' zb
      clear cR hbf hf hln bp zq zb F3
      by_cases her : ¬ er = 0
      · have der : (er != 0) = true := by simpa using her
        have BAD : Hid (decO bs = (En.zero, 120)) := dec_rd0 (EN.out her)
        clear her
        go_wp2_with fail
        obtain ⟨⟨x0, x1, x2, x3, x4, x5, x6, x7, x8⟩, -⟩ := cells_nine ZQ.out
        exact bodyPost_ret (v := .tuple #[ezV, .int .i64 120]) (by simp [results, Tryz.results7, go_sem, ezV, x0, x1, x2, x3, x4, x5, x6, x7, x8]) rfl (by rw [BAD.out]; exact decA_none ZB.out)
      have her' : er = 0 := by simpa using her
      subst her'
      clear her
      by_cases hrn : RN = 0
      · have BAD : Hid (decO bs = (En.zero, 120)) := DH.out hrn
        subst hrn
        go_wp2_with fail
        obtain ⟨⟨x0, x1, x2, x3, x4, x5, x6, x7, x8⟩, -⟩ := cells_nine ZQ.out
        exact bodyPost_ret (v := .tuple #[ezV, .int .i64 120]) (by simp [results, Tryz.results7, go_sem, ezV, x0, x1, x2, x3, x4, x5, x6, x7, x8]) rfl (by rw [BAD.out]; exact decA_none ZB.out)
      have drn : (RN == 0) = false := by simpa using hrn
      have drn2 : ((RN : Int) == 0) = false := by simp; omega
      by_cases h16 : ¬ n4 = 16
      · have d16 : ((n4 : Int) != 16) = true := by simp; omega
        have BAD : Hid (decO bs = (En.zero, 120)) := dec_rd0 (EO.out (by rw [N4.out]; exact h16))
        clear h16
        go_wp2_with fail
        obtain ⟨⟨x0, x1, x2, x3, x4, x5, x6, x7, x8⟩, -⟩ := cells_nine ZQ.out
        exact bodyPost_ret (v := .tuple #[ezV, .int .i64 120]) (by simp [results, Tryz.results7, go_sem, ezV, x0, x1, x2, x3, x4, x5, x6, x7, x8]) rfl (by rw [BAD.out]; exact decA_none ZB.out)
      have h16' : n4 = 16 := by simpa using h16
      subst h16'
      clear h16
      obtain ⟨e40, e48⟩ := ent_get N4.out
      obtain ⟨_, _, hp4, _, _, hc4⟩ := id G4.out
      obtain ⟨b4, o4, ha4, hb4, hcc⟩ := hc4 (fun h => by have := N4.out; rw [h] at this; exact absurd this (by decide))
      simp only [Value.slice.injEq] at hp4
      obtain ⟨rfl, -, rfl⟩ := hp4
      subst ha4
      have v0 := hcc 0 (by rw [N4.out]; decide)
      have v8 := hcc 8 (by rw [N4.out]; decide)
      rw [← (bt' B0.out BW4.out).cell (p := ⟨b4, o4 + 0, none⟩) hb4] at v0
      rw [← (bt' B0.out BW4.out).cell (p := ⟨b4, o4 + 8, none⟩) hb4] at v8
      unfold B at v0 v8
      rw [Nat.add_zero] at v0
      have L8 := hide' (show ((ds.getD 4 []).take 8).length = 8 by rw [List.length_take, N4.out]; decide)
      have L9 := hide' (show ((ds.getD 4 []).drop 8).length = 8 by rw [List.length_drop, N4.out])
      have NG0 := hide' (fun h => num8_neg L8.out h)
      have NG8 := hide' (fun h => num8_neg L9.out h)
      have NP0 := hide' (fun h => num8_pos L8.out h)
      have NP8 := hide' (fun h => num8_pos L9.out h)
      rw [e40] at NG0 NP0
      rw [e48] at NG8 NP8
      generalize ((ds.getD 4 [])[0]'(by rw [N4.out]; decide)).toNat = q0 at v0 NG0 NP0
      generalize ((ds.getD 4 [])[8]'(by rw [N4.out]; decide)).toNat = q8 at v8 NG8 NP8
      clear e40 e48 hc4 hcc hb4
      by_cases h127 : 127 < q0
      · have d127 : decide ((127 : Int) < (q0 : Int)) = true := by simp; omega
        have BAD : Hid (decO bs = (En.zero, 120)) := DT.out (.inl (NG0.out h127))
        clear h127
        go_wp2_with fail
        obtain ⟨⟨x0, x1, x2, x3, x4, x5, x6, x7, x8⟩, -⟩ := cells_nine ZQ.out
        exact bodyPost_ret (v := .tuple #[ezV, .int .i64 120]) (by simp [results, Tryz.results7, go_sem, ezV, x0, x1, x2, x3, x4, x5, x6, x7, x8]) rfl (by rw [BAD.out]; exact decA_none ZB.out)
      have d127 : decide ((127 : Int) < (q0 : Int)) = false := by simp; omega
      by_cases h128 : 127 < q8
      · have d128 : decide ((127 : Int) < (q8 : Int)) = true := by simp; omega
        have BAD : Hid (decO bs = (En.zero, 120)) := DT.out (.inr (NG8.out h128))
        clear h128
        go_wp2_with fail
        obtain ⟨⟨x0, x1, x2, x3, x4, x5, x6, x7, x8⟩, -⟩ := cells_nine ZQ.out
        exact bodyPost_ret (v := .tuple #[ezV, .int .i64 120]) (by simp [results, Tryz.results7, go_sem, ezV, x0, x1, x2, x3, x4, x5, x6, x7, x8]) rfl (by rw [BAD.out]; exact decA_none ZB.out)
      have d128 : decide ((127 : Int) < (q8 : Int)) = false := by simp; omega
      have M0 := hide' (NP0.out h127)
      have M8 := hide' (NP8.out h128)
      have RE := hide' (EY.out N4.out (by first | trivial | rfl))
      clear h127 h128 NG0 NG8 NP0 NP8 z0 z1 z2 z3 z4 z5 z6 z7 z8 f0 f1 f2 f3 f4 f5 f6 f7 f8 ZQ ZB EN EO EY DH DT
      go_wp2_with fail
      generalize hw4 : w3.alloc (.cells #[.int .i64 rs, .string ⟨rr.toArray⟩, .int .i64 rk, .slice la ln' lc] 27) = w4 at *
      generalize hp : w3.heap.size = p at *
      clear hw4 hp v0 v8 y0 y1 y2 y3 y4 d127 d128 drn drn2 hrn
      obtain ⟨lo, hs1, hl1⟩ := takeB G4.out 8 (by rw [N4.out]; decide)
      obtain ⟨hi, hs2, hl2⟩ := sufB G4.out 8 (by rw [N4.out]; decide)
      replace hs1 : ∀ W, Sem.run Tryz.prog (Instr.slice 22 (.slice (some ⟨b4, o4, none⟩) 16 c4) none (some (.int .i64 8)) none) W = .ok lo W := hs1
      replace hs2 : ∀ W, Sem.run Tryz.prog (Instr.slice 22 (.slice (some ⟨b4, o4, none⟩) 16 c4) (some (.int .i64 8)) none none) W = .ok hi W := hs2
      obtain ⟨k0, hk0⟩ : ∃ x, x = ds.getD 0 [] := ⟨_, rfl⟩
      obtain ⟨k1, hk1⟩ : ∃ x, x = ds.getD 1 [] := ⟨_, rfl⟩
      obtain ⟨k3, hk3⟩ : ∃ x, x = ds.getD 3 [] := ⟨_, rfl⟩
      have ML : Hid (k3.length ≤ 100000) := by unfold Hid; rw [hk3]; have := LL.out 3; have := DL.out; omega
      rw [← hk0] at G0 RE
      rw [← hk1] at G1 RE
      rw [← hk3] at G3 RE
      rw [M0.out.1, M8.out.1] at RE
      have cA : Hid (∀ W, Below w4.heap.size w4 W → Calls Tryz.prog 14 #[lo] W fun e w' => e = .returned (.int .i64 (valN ((ds.getD 4 []).take 8) : Int)) ∧ w' = W) := fun W hb =>
        value8RC lo _ W (holdsB_mono hl1 (bt' B0.out (bt' BW4.out hb))) (by rw [L8.out]; decide) M0.out.2
      have cB : Hid (∀ W, Below w4.heap.size w4 W → Calls Tryz.prog 14 #[hi] W fun e w' => e = .returned (.int .i64 (valN ((ds.getD 4 []).drop 8) : Int)) ∧ w' = W) := fun W hb =>
        value8RC hi _ W (holdsB_mono hl2 (bt' B0.out (bt' BW4.out hb))) (by rw [L9.out]; decide) M8.out.2
      generalize valN ((ds.getD 4 []).take 8) = ta at cA RE
      generalize valN ((ds.getD 4 []).drop 8) = tb at cB RE
      have ALL : Hid (∀ W, Below w4.heap.size w4 W → (W.cell? ⟨g, 0, none⟩ = some (.slice a0 n0 c0) ∧ W.cell? ⟨g, 1, none⟩ = some (.slice a1 n1 c1) ∧ W.cell? ⟨g, 2, none⟩ = some (.slice a2 n2 c2) ∧ W.cell? ⟨g, 3, none⟩ = some (.slice a3 n3 c3) ∧ W.cell? ⟨g, 4, none⟩ = some (.slice (some ⟨b4, o4, none⟩) 16 c4)) ∧ (W.cell? ⟨p, 0, none⟩ = some (.int .i64 rs) ∧ W.cell? ⟨p, 1, none⟩ = some (.string ⟨rr.toArray⟩) ∧ W.cell? ⟨p, 2, none⟩ = some (.int .i64 rk) ∧ W.cell? ⟨p, 3, none⟩ = some (.slice la ln' lc)) ∧ (Sem.run Tryz.prog (convert 22 9 (.slice a0 n0 c0)) W = .ok (.string ⟨k0.toArray⟩) W ∧ Sem.run Tryz.prog (convert 22 9 (.slice a1 n1 c1)) W = .ok (.string ⟨k1.toArray⟩) W)) := fun W hb => ⟨GC.out W (bt' B4.out hb), cells_4 (cells_below P4.out hb), conv_holds (holdsB_mono G0.out (bt' B0.out (bt' BW4.out hb))), conv_holds (holdsB_mono G1.out (bt' B0.out (bt' BW4.out hb)))⟩
      have cC : Hid (∀ W, Below w4.heap.size w4 W → Calls Tryz.prog 11 #[.slice a3 n3 c3] W fun e w' => ∃ ua un uc, e = .returned (.slice ua un uc) ∧ Hid (Own W (.slice ua un uc) k3 w' ∧ Below w4.heap.size w4 w') ∧ (W.heap.size ≤ w'.heap.size) ∧ (∀ b o, b < W.heap.size → w'.cell? ⟨b, o, none⟩ = W.cell? ⟨b, o, none⟩) ∧ (∀ b o, b < W.heap.size → w'.frozen? ⟨b, o, none⟩ = W.frozen? ⟨b, o, none⟩) ∧ (w'.cell? ⟨g, 0, none⟩ = some (.slice a0 n0 c0) ∧ w'.cell? ⟨g, 1, none⟩ = some (.slice a1 n1 c1) ∧ w'.cell? ⟨g, 2, none⟩ = some (.slice a2 n2 c2) ∧ w'.cell? ⟨g, 3, none⟩ = some (.slice a3 n3 c3) ∧ w'.cell? ⟨g, 4, none⟩ = some (.slice (some ⟨b4, o4, none⟩) 16 c4)) ∧ (w'.cell? ⟨p, 0, none⟩ = some (.int .i64 rs) ∧ w'.cell? ⟨p, 1, none⟩ = some (.string ⟨rr.toArray⟩) ∧ w'.cell? ⟨p, 2, none⟩ = some (.int .i64 rk) ∧ w'.cell? ⟨p, 3, none⟩ = some (.slice la ln' lc)) ∧ (Sem.run Tryz.prog (convert 22 9 (.slice a0 n0 c0)) w' = .ok (.string ⟨k0.toArray⟩) w' ∧ Sem.run Tryz.prog (convert 22 9 (.slice a1 n1 c1)) w' = .ok (.string ⟨k1.toArray⟩) w') ∧ (Sem.run Tryz.prog (convert 22 9 (.slice a0 n0 c0)) (w'.alloc (.cells #[.string ⟨#[]⟩, .string ⟨#[]⟩, .int .i64 0, .string ⟨#[]⟩, .int .i64 0, .slice none 0 0, .slice none 0 0, .int .i64 0, .int .i64 0] 29)) = .ok (.string ⟨k0.toArray⟩) (w'.alloc (.cells #[.string ⟨#[]⟩, .string ⟨#[]⟩, .int .i64 0, .string ⟨#[]⟩, .int .i64 0, .slice none 0 0, .slice none 0 0, .int .i64 0, .int .i64 0] 29)) ∧ Sem.run Tryz.prog (convert 22 9 (.slice a1 n1 c1)) (w'.alloc (.cells #[.string ⟨#[]⟩, .string ⟨#[]⟩, .int .i64 0, .string ⟨#[]⟩, .int .i64 0, .slice none 0 0, .slice none 0 0, .int .i64 0, .int .i64 0] 29)) = .ok (.string ⟨k1.toArray⟩) (w'.alloc (.cells #[.string ⟨#[]⟩, .string ⟨#[]⟩, .int .i64 0, .string ⟨#[]⟩, .int .i64 0, .slice none 0 0, .slice none 0 0, .int .i64 0, .int .i64 0] 29)))) := fun W hb => by
        refine (copyB _ k3 W (holdsB_mono G3.out (bt' B0.out (bt' BW4.out hb))) (by have := ML.out; omega)).mono ?_
        rintro e w' ⟨u, rfl, ho⟩
        have hb2 := bt' hb ho.2
        obtain ⟨ua, un, uc, rfl⟩ := holds_sls (holdsB_own ho)
        obtain ⟨qa, qb, qc⟩ := ALL.out w' hb2
        exact ⟨ua, un, uc, rfl, ⟨ho, hb2⟩, ho.2.size, fun b o h => ho.2.cell (p := ⟨b, o, none⟩) h, fun b o h => ho.2.frozen (p := ⟨b, o, none⟩) h, qa, qb, qc, (ALL.out _ (bt' hb2 (below_alloc' w' (.cells #[.string ⟨#[]⟩, .string ⟨#[]⟩, .int .i64 0, .string ⟨#[]⟩, .int .i64 0, .slice none 0 0, .slice none 0 0, .int .i64 0, .int .i64 0] 29)))).2.2⟩
      clear hl1 hl2 hk0 hk1 hk3 L8 L9 LL DL N4 G0 G1 G2 G3 G4 M0 M8 ML RD
      go_cut [11] (fun ev wx => ∃ (pe : Nat) (la' : Option Addr) (ln2 lc' : Nat) (ua : Option Addr) (un uc : Nat), ev = .pointer (some ⟨pe, 0, none⟩) ∧ Hid (AftI W0 q ⟨k0, k1, ⟨rs, rr, rk, rf⟩, k3, (ta : Int), (tb : Int)⟩ (.slice la' ln2 lc') (.slice ua un uc) pe wx))
      case first =>
        obtain ⟨⟨sd0, sd1, sd2, sd3, sd4⟩, ⟨sp0, sp1, sp2, sp3⟩, sv0, sv1⟩ := ALL.out w4.drew (Below.refl _ _).drew
        obtain ⟨⟨td0, td1, td2, td3, td4⟩, ⟨tp0, tp1, tp2, tp3⟩, tv0, tv1⟩ := ALL.out w4 (Below.refl _ _)
        obtain ⟨-, -, su0, su1⟩ := ALL.out _ (below_alloc' w4 (.cells #[.string ⟨#[]⟩, .string ⟨#[]⟩, .int .i64 0, .string ⟨#[]⟩, .int .i64 0, .slice none 0 0, .slice none 0 0, .int .i64 0, .int .i64 0] 29)).drew
        obtain ⟨-, -, sw0, sw1⟩ := ALL.out _ (below_alloc' w4 (.cells #[.string ⟨#[]⟩, .string ⟨#[]⟩, .int .i64 0, .string ⟨#[]⟩, .int .i64 0, .slice none 0 0, .slice none 0 0, .int .i64 0, .int .i64 0] 29))
        have I1 : g ≠ w4.heap.size := fun h => by have := DP.out.1; have := P4.out.2; omega
        have I2 : w4.heap.size ≠ g := fun h => by have := DP.out.1; have := P4.out.2; omega
        have I3 : p ≠ w4.heap.size := fun h => by have := P4.out.2; omega
        have I4 : w4.heap.size ≠ p := fun h => by have := P4.out.2; omega
        have KP : Hid (∀ w', Below w4.heap.size w4 w' → w'.cell? ⟨g, 0, none⟩ = some (.slice a0 n0 c0) ∧ w'.cell? ⟨g, 1, none⟩ = some (.slice a1 n1 c1) ∧ w'.cell? ⟨g, 2, none⟩ = some (.slice a2 n2 c2) ∧ w'.cell? ⟨g, 3, none⟩ = some (.slice a3 n3 c3) ∧ w'.cell? ⟨g, 4, none⟩ = some (.slice (some ⟨b4, o4, none⟩) 16 c4) ∧ w'.cell? ⟨p, 0, none⟩ = some (.int .i64 rs) ∧ w'.cell? ⟨p, 1, none⟩ = some (.string ⟨rr.toArray⟩) ∧ w'.cell? ⟨p, 2, none⟩ = some (.int .i64 rk) ∧ w'.cell? ⟨p, 3, none⟩ = some (.slice la ln' lc) ∧ Sem.run Tryz.prog (convert 22 9 (.slice a0 n0 c0)) w' = .ok (.string ⟨k0.toArray⟩) w' ∧ Sem.run Tryz.prog (convert 22 9 (.slice a1 n1 c1)) w' = .ok (.string ⟨k1.toArray⟩) w') := fun w' hb => by
          obtain ⟨⟨d0, d1, d2, d3, d4⟩, ⟨p0, p1, p2, p3⟩, v0, v1⟩ := ALL.out w' hb
          exact ⟨d0, d1, d2, d3, d4, p0, p1, p2, p3, v0, v1⟩
        go_region_held_law (fun w' => w'.cell? ⟨g, 0, none⟩ = some (.slice a0 n0 c0) ∧ w'.cell? ⟨g, 1, none⟩ = some (.slice a1 n1 c1) ∧ w'.cell? ⟨g, 2, none⟩ = some (.slice a2 n2 c2) ∧ w'.cell? ⟨g, 3, none⟩ = some (.slice a3 n3 c3) ∧ w'.cell? ⟨g, 4, none⟩ = some (.slice (some ⟨b4, o4, none⟩) 16 c4) ∧ w'.cell? ⟨p, 0, none⟩ = some (.int .i64 rs) ∧ w'.cell? ⟨p, 1, none⟩ = some (.string ⟨rr.toArray⟩) ∧ w'.cell? ⟨p, 2, none⟩ = some (.int .i64 rk) ∧ w'.cell? ⟨p, 3, none⟩ = some (.slice la ln' lc) ∧ Sem.run Tryz.prog (convert 22 9 (.slice a0 n0 c0)) w' = .ok (.string ⟨k0.toArray⟩) w' ∧ Sem.run Tryz.prog (convert 22 9 (.slice a1 n1 c1)) w' = .ok (.string ⟨k1.toArray⟩) w') (with_reducible refine KP.out _ (Bl.out ?_); repeat' (first | with_reducible refine Bl.st ?_ ?_ | with_reducible refine Bl.al ?_ | with_reducible refine Bl.dr ?_ | with_reducible exact Bl.of OU.out.2 | with_reducible exact Bl.of (Below.refl _ _) | with_reducible exact OU.out.2.size | with_reducible exact Nat.le_refl _))
          (first
            | (go_at_call 11; refine (cC.out _ ?_).mono ?_; (first | exact (Below.refl _ _).drew | exact Below.refl _ _ | exact (below_alloc' _ _) | exact (below_alloc' _ _).drew | exact ((Below.refl _ _).drew.alloc (Nat.le_refl _) _)); rintro e w5 ⟨ua, un, uc, rfl, OU, os, oc, of, ⟨md0, md1, md2, md3, md4⟩, ⟨mp0, mp1, mp2, mp3⟩, ⟨mv0, mv1⟩, mx0, mx1⟩)
            | (go_at_call_of 14 (lo); refine (cA.out _ ?_).mono ?_; (first | exact OU.out.2 | exact (OU.out.2).alloc (OU.out.2).size _); rintro e w6 ⟨rfl, ew⟩; subst ew)
            | (go_at_call_of 14 (hi); refine (cB.out _ ?_).mono ?_; (first | exact OU.out.2 | exact (OU.out.2).alloc (OU.out.2).size _); rintro e w7 ⟨rfl, ew⟩; subst ew))
        · clear KP cA cB cC ALL sd0 sd1 sd2 sd3 sd4 sp0 sp1 sp2 sp3 sv0 sv1 td0 td1 td2 td3 td4 tp0 tp1 tp2 tp3 tv0 tv1 md0 md1 md2 md3 md4 mp0 mp1 mp2 mp3 mv0 mv1 mx0 mx1 su0 su1 sw0 sw1 os oc of hs1 hs2
          go_wp2_with fail
          go_meet
          exact ⟨_, _, _, _, _, _, _, rfl, aft_new F4.out Q4.out BW4.out (own_base OU.out.1 (Below.refl _ _).drew)⟩
        · clear KP cA cB cC ALL sd0 sd1 sd2 sd3 sd4 sp0 sp1 sp2 sp3 sv0 sv1 td0 td1 td2 td3 td4 tp0 tp1 tp2 tp3 tv0 tv1 md0 md1 md2 md3 md4 mp0 mp1 mp2 mp3 mv0 mv1 mx0 mx1 su0 su1 sw0 sw1 os oc of hs1 hs2
          go_wp2_with fail
          go_meet
          exact ⟨_, _, _, _, _, _, _, rfl, aft_new F4.out Q4.out BW4.out (own_base OU.out.1 (Below.refl _ _).drew)⟩
        · clear KP cA cB cC ALL sd0 sd1 sd2 sd3 sd4 sp0 sp1 sp2 sp3 sv0 sv1 td0 td1 td2 td3 td4 tp0 tp1 tp2 tp3 tv0 tv1 md0 md1 md2 md3 md4 mp0 mp1 mp2 mp3 mv0 mv1 mx0 mx1 su0 su1 sw0 sw1 os oc of hs1 hs2
          go_wp2_with fail
          go_meet
          exact ⟨_, _, _, _, _, _, _, rfl, aft_new F4.out Q4.out BW4.out (own_base OU.out.1 (Below.refl _ _).drew)⟩
        · clear KP cA cB cC ALL sd0 sd1 sd2 sd3 sd4 sp0 sp1 sp2 sp3 sv0 sv1 td0 td1 td2 td3 td4 tp0 tp1 tp2 tp3 tv0 tv1 md0 md1 md2 md3 md4 mp0 mp1 mp2 mp3 mv0 mv1 mx0 mx1 su0 su1 sw0 sw1 os oc of hs1 hs2
          go_wp2_with fail
          go_meet
          exact ⟨_, _, _, _, _, _, _, rfl, aft_putD F4.out Q4.out BW4.out OU.out.1⟩
      case rest =>
        obtain ⟨pe, la', ln2, lc', ua, un, uc, rfl, AF⟩ := hcut
        clear cA cB cC ALL hs1 hs2 GC GL BW QW B4 BW4 F4 P4 Q4 DP g3 ln
        obtain ⟨s1, s2, s3, s4, s5, s6⟩ := read_sizes RE.out LN.out
        have hfit := fit_of s5 (by decide)
        have D1 := hide' (fun h => dec_rd1 RE.out h)
        have D2 := hide' (fun h => dec_rd2 RE.out h)
        have cE := hide' (encORC ⟨k0, k1, ⟨rs, rr, rk, rf⟩, k3, (ta : Int), (tb : Int)⟩ (.slice la' ln2 lc') (.slice ua un uc) wc (holdsF_own AF.out.rf) (holdsB_own AF.out.rb) hfit (by omega) (by omega) (by omega) (by omega) (by omega) (by omega))
        have OB : Hid (∀ l, objOf ⟨k0, k1, ⟨rs, rr, rk, rf⟩, k3, (ta : Int), (tb : Int)⟩ = (l, 0) → l.length ≤ 81968) := fun l h => (obj_len h).2
        unfold entV at cE
        dsimp only at cE
        generalize objOf ⟨k0, k1, ⟨rs, rr, rk, rf⟩, k3, (ta : Int), (tb : Int)⟩ = OE at cE D1 D2 OB
        obtain ⟨ol, oe⟩ := OE
        dsimp only at cE D1 D2 OB
        clear hfit s1 s2 s3 s4 s5 s6 RE
        obtain ⟨⟨y0, y1, y2, y3, y4, y5, y6, y7, y8⟩, -⟩ := cells_nine AF.out.blk
        go_wp2_with fail
        clear y0 y1 y2 y3 y4 y5 y6 y7 y8
        refine cE.out.mono ?_
        rintro e w9 ⟨u, rfl, ho⟩
        have U9 := hide' (holdsB_own ho)
        have Q9 : Hid (Blk q w9 [.string ⟨#[]⟩, .string ⟨#[]⟩, .int .i64 0, .string ⟨#[]⟩, .int .i64 0, .slice none 0 0, .slice none 0 0, .int .i64 0, .int .i64 0]) := cells_below AF.out.res ho.2
        have P9 : Hid (Blk pe w9 [.string ⟨k0.toArray⟩, .string ⟨k1.toArray⟩, .int .i64 rs, .string ⟨rr.toArray⟩, .int .i64 rk, .slice la' ln2 lc', .slice ua un uc, .int .i64 (ta : Int), .int .i64 (tb : Int)]) := cells_below AF.out.blk ho.2
        have F9 := hide' (ownF_mono AF.out.rf ho.2)
        have R9 := hide' (own_mono AF.out.rb ho.2)
        clear ho cE AF
        obtain ⟨⟨z0, z1, z2, z3, z4, z5, z6, z7, z8⟩, ⟨f0, f1, f2, f3, f4, f5, f6, f7, f8⟩⟩ := cells_nine Q9.out
        have zq := cells_put Q9.out [.string ⟨#[]⟩, .string ⟨#[]⟩, .int .i64 0, .string ⟨#[]⟩, .int .i64 0, .slice none 0 0, .slice none 0 0, .int .i64 0, .int .i64 0] rfl
        have zb := put_below (w := w) QLE.out [.string ⟨#[]⟩, .string ⟨#[]⟩, .int .i64 0, .string ⟨#[]⟩, .int .i64 0, .slice none 0 0, .slice none 0 0, .int .i64 0, .int .i64 0] 0 _ (bt' B0.out R9.out.2)
        rw [put_nine] at zq zb
        have ZQ := hide' zq
        have ZB := hide' zb
        clear zq zb
        by_cases hoe : ¬ oe = 0
        · have doe : (oe != 0) = true := by simpa using hoe
          have BAD := hide' (D2.out (fun h => hoe (Prod.mk.inj h).2))
          clear hoe
          go_wp2_with fail
          obtain ⟨⟨x0, x1, x2, x3, x4, x5, x6, x7, x8⟩, -⟩ := cells_nine ZQ.out
          exact bodyPost_ret (v := .tuple #[ezV, .int .i64 120]) (by simp [results, Tryz.results7, go_sem, ezV, x0, x1, x2, x3, x4, x5, x6, x7, x8]) rfl (by rw [BAD.out]; exact decA_none ZB.out)
        have hoe' : oe = 0 := by simpa using hoe
        subst hoe'
        clear hoe ZQ ZB z0 z1 z2 z3 z4 z5 z6 z7 z8 f0 f1 f2 f3 f4 f5 f6 f7 f8
        have LO := hide' (OB.out ol (by first | trivial | rfl))
        have cQ := hide' (sameB u (.slice ao n cap) ol bs w9 U9.out (holdsB_mono HV.out (bt' B0.out R9.out.2)) (by have := LO.out; omega) (by have := LN.out; omega))
        go_wp2_with fail
        refine cQ.out.mono ?_
        rintro e w10 ⟨rfl, m, ew⟩
        have bm : Below w9.heap.size w9 w10 := by rw [ew]; exact below_drewN _ _
        clear ew
        have Q10 : Hid (Blk q w10 [.string ⟨#[]⟩, .string ⟨#[]⟩, .int .i64 0, .string ⟨#[]⟩, .int .i64 0, .slice none 0 0, .slice none 0 0, .int .i64 0, .int .i64 0]) := cells_below Q9.out bm
        have P10 : Hid (Blk pe w10 [.string ⟨k0.toArray⟩, .string ⟨k1.toArray⟩, .int .i64 rs, .string ⟨rr.toArray⟩, .int .i64 rk, .slice la' ln2 lc', .slice ua un uc, .int .i64 (ta : Int), .int .i64 (tb : Int)]) := cells_below P9.out bm
        have F10 := hide' (ownF_mono F9.out bm)
        have R10 := hide' (own_mono R9.out bm)
        clear bm Q9 P9 F9 R9 cQ U9
        obtain ⟨⟨z0, z1, z2, z3, z4, z5, z6, z7, z8⟩, ⟨f0, f1, f2, f3, f4, f5, f6, f7, f8⟩⟩ := cells_nine Q10.out
        by_cases heq : ol = bs
        · have dq : decide (ol = bs) = true := by simpa using heq
          have GOOD := hide' (D1.out (by rw [heq]))
          rw [dq]
          clear heq dq
          obtain ⟨⟨y0, y1, y2, y3, y4, y5, y6, y7, y8⟩, -⟩ := cells_nine P10.out
          have zq := cells_put Q10.out [.string ⟨k0.toArray⟩, .string ⟨k1.toArray⟩, .int .i64 rs, .string ⟨rr.toArray⟩, .int .i64 rk, .slice la' ln2 lc', .slice ua un uc, .int .i64 (ta : Int), .int .i64 (tb : Int)] rfl
          have zb := put_below (w := w) QLE.out [.string ⟨k0.toArray⟩, .string ⟨k1.toArray⟩, .int .i64 rs, .string ⟨rr.toArray⟩, .int .i64 rk, .slice la' ln2 lc', .slice ua un uc, .int .i64 (ta : Int), .int .i64 (tb : Int)] 0 _ (bt' B0.out R10.out.2)
          have rF := row_base (row_putFrom Q0L.out [.string ⟨k0.toArray⟩, .string ⟨k1.toArray⟩, .int .i64 rs, .string ⟨rr.toArray⟩, .int .i64 rk, .slice la' ln2 lc', .slice ua un uc, .int .i64 (ta : Int), .int .i64 (tb : Int)] 0 _ F10.out.1) B0.out.size
          have rO := row_base (row_putFrom Q0L.out [.string ⟨k0.toArray⟩, .string ⟨k1.toArray⟩, .int .i64 rs, .string ⟨rr.toArray⟩, .int .i64 rk, .slice la' ln2 lc', .slice ua un uc, .int .i64 (ta : Int), .int .i64 (tb : Int)] 0 _ R10.out.1) B0.out.size
          rw [put_nine] at zq zb rF rO
          have ZQ := hide' zq
          have FIN : Hid (DecA w (⟨k0, k1, ⟨rs, rr, rk, rf⟩, k3, (ta : Int), (tb : Int)⟩, 0) (.returned (.tuple #[.agg #[.string ⟨k0.toArray⟩, .string ⟨k1.toArray⟩, .int .i64 rs, .string ⟨rr.toArray⟩, .int .i64 rk, .slice la' ln2 lc', .slice ua un uc, .int .i64 (ta : Int), .int .i64 (tb : Int)], .int .i64 0])) _) := ⟨_, _, rfl, ⟨rF, zb⟩, ⟨rO, zb⟩⟩
          clear zq zb rF rO
          go_wp2_with fail
          obtain ⟨⟨x0, x1, x2, x3, x4, x5, x6, x7, x8⟩, -⟩ := cells_nine ZQ.out
          exact bodyPost_ret (v := .tuple #[.agg #[.string ⟨k0.toArray⟩, .string ⟨k1.toArray⟩, .int .i64 rs, .string ⟨rr.toArray⟩, .int .i64 rk, .slice la' ln2 lc', .slice ua un uc, .int .i64 (ta : Int), .int .i64 (tb : Int)], .int .i64 0]) (by simp [results, Tryz.results7, go_sem, x0, x1, x2, x3, x4, x5, x6, x7, x8]) rfl (by rw [GOOD.out]; exact FIN.out)
        · have dq : decide (ol = bs) = false := by simpa using heq
          have BAD := hide' (D2.out (fun h => heq (Prod.mk.inj h).1))
          rw [dq]
          clear heq dq
          have zq := cells_put Q10.out [.string ⟨#[]⟩, .string ⟨#[]⟩, .int .i64 0, .string ⟨#[]⟩, .int .i64 0, .slice none 0 0, .slice none 0 0, .int .i64 0, .int .i64 0] rfl
          have zb := put_below (w := w) QLE.out [.string ⟨#[]⟩, .string ⟨#[]⟩, .int .i64 0, .string ⟨#[]⟩, .int .i64 0, .slice none 0 0, .slice none 0 0, .int .i64 0, .int .i64 0] 0 _ (bt' B0.out R10.out.2)
          rw [put_nine] at zq zb
          have ZQ := hide' zq
          have ZB := hide' zb
          clear zq zb
          go_wp2_with fail
          obtain ⟨⟨x0, x1, x2, x3, x4, x5, x6, x7, x8⟩, -⟩ := cells_nine ZQ.out
          exact bodyPost_ret (v := .tuple #[ezV, .int .i64 120]) (by simp [results, Tryz.results7, go_sem, ezV, x0, x1, x2, x3, x4, x5, x6, x7, x8]) rfl (by rw [BAD.out]; exact decA_none ZB.out)
    have hk4 : k < 5 := by omega
    have UL : Hid (us.length = k) := HI.out.len
    rw [UL.out] at HI ⊢
    clear hk5
    have SR := hide' (secR_drop bs pos (by rw [N1.out]; exact hpn))
    rw [N1.out] at SR
    by_cases h5 : n - pos < 5
    · have d5 : decide ((n : Int) - (pos : Int) < 5) = true := by simp; omega
      have BAD : Hid (decO bs = (En.zero, 120)) := by
        obtain ⟨ds, hds, -⟩ := HI.out.told
        exact dec_rd0 (read_no1 (.inr (secsN_stop hds (by rw [SR.out, if_pos h5]) 5 hk4)))
      clear h5
      go_wp2_with fail
      obtain ⟨⟨x0, x1, x2, x3, x4, x5, x6, x7, x8⟩, -⟩ := cells_nine ZQ.out
      exact bodyPost_ret (v := .tuple #[ezV, .int .i64 120]) (by simp [results, Tryz.results7, go_sem, ezV, x0, x1, x2, x3, x4, x5, x6, x7, x8]) rfl (by rw [BAD.out]; exact decA_none ZB.out)
    · have d5 : decide ((n : Int) - (pos : Int) < 5) = false := by simp; omega
      obtain ⟨lv, hsl, hl4⟩ := midB HV.out (pos + 1) (pos + 5) (by omega) (by rw [N1.out]; omega)
      rw [show ((pos + 1 : Nat) : Int) = (pos : Int) + 1 by omega, show ((pos + 5 : Nat) : Int) = (pos : Int) + 5 by omega] at hsl
      have hl4' : ((bs.drop (pos + 1)).take (pos + 5 - (pos + 1))).length = 4 := by rw [List.length_take, List.length_drop, N1.out]; omega
      have vlt := valN_lt ((bs.drop (pos + 1)).take (pos + 5 - (pos + 1)))
      rw [hl4'] at vlt
      have cN := hide' (valueRC lv _ wr (holdsB_mono hl4 (bt' B0.out HI.out.bel)) (by rw [hl4']; decide))
      generalize valN ((bs.drop (pos + 1)).take (pos + 5 - (pos + 1))) = z at cN SR vlt
      have vz : z < 4294967296 := vlt
      clear hl4 hl4' vlt
      go_wp2_with fail
      refine cN.out.mono ?_
      rintro e wz ⟨rfl, ew⟩
      rw [ew]
      clear ew wz cN hsl
      by_cases hz : n - (pos + 5) < z
      · have dz : decide ((n : Int) - ((pos : Int) + 5) < (z : Int)) = true := by simp; omega
        have BAD : Hid (decO bs = (En.zero, 120)) := by
          obtain ⟨ds, hds, -⟩ := HI.out.told
          exact dec_rd0 (read_no1 (.inr (secsN_stop hds (by rw [SR.out, if_neg h5, if_pos hz]) 5 hk4)))
        clear hz h5
        go_wp2_with fail
        obtain ⟨⟨x0, x1, x2, x3, x4, x5, x6, x7, x8⟩, -⟩ := cells_nine ZQ.out
        exact bodyPost_ret (v := .tuple #[ezV, .int .i64 120]) (by simp [results, Tryz.results7, go_sem, ezV, x0, x1, x2, x3, x4, x5, x6, x7, x8]) rfl (by rw [BAD.out]; exact decA_none ZB.out)
      · have dz : decide ((n : Int) - ((pos : Int) + 5) < (z : Int)) = false := by simp; omega
        obtain ⟨uv, hp1, hp2⟩ := midB HV.out (pos + 5) (pos + 5 + z) (by omega) (by rw [N1.out]; omega)
        rw [show ((pos + 5 : Nat) : Int) = (pos : Int) + 5 by omega, show ((pos + 5 + z : Nat) : Int) = (pos : Int) + 5 + (z : Int) by omega] at hp1
        have HS : Hid (secR (bs.drop pos) = some ((bs.drop (pos + 5)).take (pos + 5 + z - (pos + 5)), bs.drop (pos + 5 + z))) := by unfold Hid; rw [SR.out, if_neg h5, if_neg hz]
        obtain ⟨pa, pn, pc, rfl⟩ := holds_sls hp2
        have HP2 := hide' hp2
        have hpz : pos + 5 + z ≤ n := by omega
        clear hz h5 hp2
        go_wp2_with (at_builtin; refine app1V rfl (.tmp 49) (.tmp 56) rfl W0.heap.size _ us rfl HI.out.row HI.out.bel.size pa pn pc rfl (by rw [UL.out]; omega) ?_; intro v8 w8 hr8 hb8; have ST := hide' (decI_step HI.out Q0L.out HS.out HP2.out hr8 hb8 (by rw [N1.out]; exact hpz)); clear hr8 hb8)
        go_roundw
        case rel => exact ⟨k + 1, pos + 5 + z, _, by omega, by go_num, by first | rfl | (congr 1; omega) | go_num, hpz, ST⟩
        case measure => simp [intOf]; omega
end Go.Proofs.YtenegcoapejbmaaGreatDoor
