/- The walk of SwaplogTurns. -/
import Derived.Test.YtmejbgnaoaiooaaGreatSwTu
import Derived.Test.YtmejbgnaoaiooaaGreatBdE
import Derived.Test.YtmejbgnaoaiooaaGreatOpnRl
import Derived.Deep.RegionHeld3
namespace Go.Proofs.YtmejbgnaoaiooaaGreat
open Go.RowKit Go.Shelf
set_option maxRecDepth 20000
theorem bulkQ_bulk (rs : RL) : bulkR rs ≤ 4 * bulkQ rs := by
  induction rs with
  | nil => exact Nat.zero_le _
  | cons r rs ih => simp only [bulkR, bulkQ]; omega
theorem lit1T_da (wl : World) (cs : List Value) (t : TypeId) : Lit1T wl (wl.drew.alloc (.cells cs.toArray t)) cs := by
  obtain ⟨_, _, h3⟩ := lit1T_alloc wl.drew cs t
  exact ⟨bel_da wl _, by simp, fun i u hu => h3 i u hu⟩
theorem open_down {bs : List UInt8} (R pw : Int) (n f : Nat) (h : (sL R pw n bs f).down = true) : (openT rdT (sL R pw n bs f)).2 ≠ 0 := by
  rw [open_two (l_list _ _ _ _ _)]
  have hr : (sL R pw n bs f).read lgN = ([], 93) := by unfold Dk.read; rw [if_pos h]
  unfold stepBo
  dsimp only
  unfold rdT
  dsimp only
  rw [hr, if_neg (by simp), if_pos (by simp)]
  simp
theorem numR_take {rs : RL} {i : Nat} (h : i < rs.length) : numR (rs.take (i + 1)) = numR (rs.take i) ++ [((i : Int), rs[i].2.1, rs[i].2.2.1, rs[i].2.2.2)] := by
  rw [List.take_succ_eq_append_getElem h, numR_snoc, List.length_take, Nat.min_eq_left (by omega)]
/-- what a new Open reads behind a rewrite -/
theorem rew_seen {T : RL} {bs : List UInt8} {f fm : Nat} (h : Lif T bs f fm) (pw : Int) (n : Nat) (c : Int) (rs : RL) (hT : T.length ≤ 50) (hr : rs.length ≤ 50) :
    ∀ k keep, (openT rdT (newS ((rewT rs (sL 1048576 pw n bs bs.length, c)).1.1.left k keep) 1048576 [] (-1))).2 = 0 ∧ ((openT rdT (newS ((rewT rs (sL 1048576 pw n bs bs.length, c)).1.1.left k keep) 1048576 [] (-1))).1.2 = T ∨ (openT rdT (newS ((rewT rs (sL 1048576 pw n bs bs.length, c)).1.1.left k keep) 1048576 [] (-1))).1.2 = numR rs) ∧ ((rewT rs (sL 1048576 pw n bs bs.length, c)).2 = 0 → (openT rdT (newS ((rewT rs (sL 1048576 pw n bs bs.length, c)).1.1.left k keep) 1048576 [] (-1))).1.2 = numR rs) := by
  intro k keep
  have hd : (encG 0 rs).1.length ≤ 411100 := by
    by_cases hz : (encG 0 rs).2 = 0
    · have := (lif_enc rs.length rs rfl hz).len
      rw [numR_len] at this
      omega
    · rw [encG_bad rs 0 hz]; exact Nat.zero_le _
  have nd : ∀ s : Dk, s.power = -1 → s.down = false := fun s hs => by unfold Dk.down; rw [hs]; simp
  have e1 : newS [(lgN, bs)] 1048576 [] (-1) = sL 1048576 (-1) 0 bs bs.length := rfl
  have hl := h.len
  rcases rew_cases 1048576 pw n bs rs c (by omega) with ⟨h1, h2, h3⟩ | ⟨h1, h2, h3⟩ | ⟨h1, h3⟩
  · have hA := lif_enc rs.length rs rfl h2
    rw [h3 k keep]
    have e2 : newS [(lgN, (encG 0 rs).1)] 1048576 [] (-1) = sL 1048576 (-1) 0 (encG 0 rs).1 (encG 0 rs).1.length := rfl
    rw [e2, open_whole hA _ _ _ _ (nd _ rfl)]
    exact ⟨rfl, .inr rfl, fun _ => rfl⟩
  · have hA := lif_enc rs.length rs rfl h2
    obtain ⟨g1, g2⟩ := open_T h hA 1048576 (h3 k keep)
    exact ⟨g1, g2, fun e => absurd e h1⟩
  · rw [h3 k keep, e1, open_whole h _ _ _ _ (nd _ rfl)]
    exact ⟨rfl, .inl rfl, fun e => absurd e h1⟩
theorem rew_small {T : RL} {bs : List UInt8} {f fm : Nat} (h : Lif T bs f fm) (pw : Int) (n : Nat) (c : Int) (rs : RL) (hT : T.length ≤ 50) (hr : rs.length ≤ 50) :
    ∀ k keep, ((rewT rs (sL 1048576 pw n bs bs.length, c)).1.1.left k keep).length ≤ 411200 ∧ ∀ f ∈ (rewT rs (sL 1048576 pw n bs bs.length, c)).1.1.left k keep, f.1.length ≤ 140737488351232 ∧ f.2.length ≤ 411200 := by
  intro k keep
  have hd : (encG 0 rs).1.length ≤ 411100 := by
    by_cases hz : (encG 0 rs).2 = 0
    · have := (lif_enc rs.length rs rfl hz).len
      rw [numR_len] at this
      omega
    · rw [encG_bad rs 0 hz]; exact Nat.zero_le _
  have hl := h.len
  have one : ∀ q : List UInt8, q.length ≤ 411200 → ([(lgN, q)] : FilL).length ≤ 411200 ∧ ∀ f ∈ ([(lgN, q)] : FilL), f.1.length ≤ 140737488351232 ∧ f.2.length ≤ 411200 := fun q hq => ⟨by simp, fun f hf => by rw [List.mem_singleton.1 hf]; exact ⟨by show lgN.length ≤ _; decide, hq⟩⟩
  rcases rew_cases 1048576 pw n bs rs c (by omega) with ⟨h1, h2, h3⟩ | ⟨h1, h2, h3⟩ | ⟨h1, h3⟩
  · rw [h3 k keep]; exact one _ (by omega)
  · rcases h3 k keep with e | ⟨p, hp, e⟩ | e
    · rw [e]; exact one _ (by omega)
    · rw [e]
      refine ⟨by simp, fun f hf => ?_⟩
      rcases List.mem_cons.1 hf with e1 | hf
      · rw [e1]; exact ⟨by show lgN.length ≤ _; decide, by show bs.length ≤ _; omega⟩
      · rw [List.mem_singleton.1 hf]; exact ⟨by show nwN.length ≤ _; decide, by show p.length ≤ _; omega⟩
    · rw [e]; exact one _ (by omega)
  · rw [h3 k keep]; exact one _ (by omega)
set_option maxHeartbeats 8000000 in
theorem turnsW (av : Value) (adds : RL) (lv : Value) (list : RL) (pw k : Int) (kv : Value) (zs : List Int) (W : World) (ha : HoldsR W av adds) (hl : HoldsR W lv list) (hid : ∀ r ∈ adds, r.2.2.2.length ≤ 1000000000) (hal : adds.length ≤ 1000000000) (hll : list.length ≤ 1000000000) (hbl : bulkR list ≤ 5000000) (hz : HoldsI W kv zs) (hzl : zs.length ≤ 1000000000) (hkr : -9223372036854775808 ≤ k ∧ k ≤ 9223372036854775807) (hkb : ∀ z ∈ zs, -9223372036854775808 ≤ z ∧ z ≤ 9223372036854775807) :
    Calls Tryz.prog 6 #[av, lv, .int .i64 pw, .agg #[.int .i64 k, kv]] W fun e w' => e = .returned (.bool true) ∧ Below W.heap.size W w' := by
  have HLI := hide' hl
  obtain ⟨aa, ac, b, off, rfl, hac⟩ := holdsR_parts ha
  obtain ⟨la, lc, b2, off2, rfl, hlc⟩ := holdsR_parts hl
  obtain ⟨ka, kc, hkv, _⟩ := id hz
  subst hkv
  obtain ⟨n, hn⟩ : ∃ n, n = adds.length := ⟨_, rfl⟩
  have N1 : Hid (adds.length = n) := hn.symm
  obtain ⟨ml, hml⟩ : ∃ ml, ml = list.length := ⟨_, rfl⟩
  have N2 : Hid (list.length = ml) := hml.symm
  obtain ⟨nz, hnz⟩ : ∃ nz, nz = zs.length := ⟨_, rfl⟩
  have NZ : Hid (zs.length = nz) := hnz.symm
  rw [N1.out] at hal ⊢
  rw [N2.out] at hll HLI ⊢
  rw [NZ.out] at hzl hz ⊢
  have bX := bel_a W (.cells #[.int .i64 k, .slice ka nz kc] 37)
  have fX : Blk W.heap.size (W.alloc (.cells #[.int .i64 k, .slice ka nz kc] 37)) [.int .i64 k, .slice ka nz kc] := by simpa using cells_lit W #[.int .i64 k, .slice ka nz kc] 37
  have HZ := hide' hz
  have HAC := hide' hac
  have HLC := hide' hlc
  have HID := hide' hid
  have BX := hide' bX
  have FX := hide' fX
  have HBL := hide' hbl
  clear ha hl hz hac hlc hid hn hml hnz bX fX hbl
  go_enter Tryz.func6, Tryz.ntmps6
  go_wp2_with fail
  refine (aliveL _).mono ?_
  rintro e w0 ⟨rfl, b0⟩
  have BW := hide' (BX.out.trans (b0.mono BX.out.size))
  have HZ0 := hide' (holdsI_mono HZ.out BW.out)
  have fb := blk_below FX.out b0
  have f0 := (fb.1 0 (by simp)).1
  have f1 := (fb.1 1 (by simp)).1
  have FL : Hid (W.heap.size < w0.heap.size) := fb.2
  clear b0 fb
  by_cases hbig : 50 < n
  · have q : decide ((50 : Int) < (n : Int)) = true := by rw [decide_eq_true_iff]; omega
    have q' : (50 : Int) < (n : Int) := by omega
    go_wp2_with fail
    go_ret
    exact ⟨rfl, BW.out⟩
  by_cases hbig2 : 50 < ml
  · have q : decide ((50 : Int) < (n : Int)) = false := by rw [decide_eq_false_iff_not]; omega
    have q' : ¬ (50 : Int) < (n : Int) := by omega
    have p : decide ((50 : Int) < (ml : Int)) = true := by rw [decide_eq_true_iff]; omega
    have p' : (50 : Int) < (ml : Int) := by omega
    go_wp2_with fail
    go_ret
    exact ⟨rfl, BW.out⟩
  have q : decide ((50 : Int) < (n : Int)) = false := by rw [decide_eq_false_iff_not]; omega
  have q' : ¬ (50 : Int) < (n : Int) := by omega
  have p : decide ((50 : Int) < (ml : Int)) = false := by rw [decide_eq_false_iff_not]; omega
  have p' : ¬ (50 : Int) < (ml : Int) := by omega
  have hn50 : n ≤ 50 := by omega
  have hm50 : ml ≤ 50 := by omega
  have CN := hide' (newC (.slice none 0 0) [] 1048576 (.slice none 0 0) [] (-1) w0 ⟨none, 0, rfl, fun _ => rfl, Nat.le_refl _, fun h => absurd rfl h⟩ ⟨none, 0, rfl, fun _ => rfl, Nat.le_refl _, fun h => absurd rfl h⟩ (fun f h => by cases h) (by decide) (by decide) (fun z h => by cases h))
  clear hbig hbig2
  go_wp2_with fail
  refine CN.out.mono ?_
  intro e w1 np
  obtain ⟨nb, ⟨ne, _⟩ | ⟨_, g, o, rfl, hD, hO⟩⟩ := np
  · exact absurd rfl ne
  have CO := hide' (openL (s := sE 1048576 (-1) 0) hD 100 (bd_new [] 1048576 [] (-1) 100 (by decide) (fun f h => by cases h)) (by decide))
  have OF := hide' (open_fresh 1048576 (-1) 0)
  have OK0 : Hid ((openT rdT (sE 1048576 (-1) 0)).2 = 0) := by unfold Hid; rw [open_two (e_list _ _ _)]; rfl
  have NB := hide' nb
  have HO := hide' hO
  clear CN hD hO nb
  go_wp2_with fail
  refine CO.out.mono ?_
  rintro e w2 ⟨op, hbd⟩
  obtain ⟨ne, _⟩ | ⟨ok, lb, lv0, o2, rfl, hl2, hg2, hlb2, _⟩ := op
  · exact absurd OK0.out ne
  have SV : Hid (LoopT w0 g lb 0 (.slice (some ⟨w2.heap.size, 0, none⟩) 0 0) (w2.alloc (.cells #[] 59))) := by
    have hb2 := bel_a w2 (.cells #[] 59)
    have hB2 : Below w0.heap.size w0 w2 := NB.out.trans (hg2.off.below NB.out.size HO.out)
    obtain ⟨_, g2, g3⟩ | ⟨h1, _⟩ := OF.out
    · rw [g2, g3] at hl2
      have hbd0 := hbd
      rw [g3] at hbd0
      refine ⟨o2, _, [], [], 0, ⟨logS_below hl2 hb2, fun x hx => ?_, Nat.le_trans NB.out.size hlb2, hB2.trans (hb2.mono hB2.size), World.ownsRow_lit w2 #[] 0 hB2.size (by decide) rfl, fun rb e => ?_⟩, lif_nil, Nat.le_refl _, bd_mono hbd0 (by decide)⟩
      · rcases hg2.new x hx with h1 | h1
        · exact HO.out x h1
        · exact Nat.le_trans NB.out.size h1
      · have e' : w2.heap.size = rb := by simpa [Value.ownBlock] using e
        rw [← e']
        exact ⟨none_of_lt (dsk_lt hl2.dsk) (Nat.le_refl _), by have := hl2.blk.2; omega⟩
    · exact absurd OK0.out h1
  clear hl2 hg2 OF HO NB hbd ok hlb2 OK0 CO
  go_wp2_with fail
  go_loopw [14, 15] (fun tv iv wr => ∃ i : Nat, iv = .int .i64 (i : Int) ∧ i ≤ n ∧ Hid (LoopT w0 g lb i tv wr)) (fun _ iv _ => n - (intOf iv).toNat)
  case atStart => exact ⟨0, rfl, Nat.zero_le _, SV⟩
  case round =>
    obtain ⟨i, rfl, hi, HLS⟩ := hrel
    by_cases hlt : i < n
    · obtain ⟨o3, nn, bs, T, fm, hsv, hlif, hTi, hbd3⟩ := HLS.out
      have G : i < adds.length := by rw [N1.out]; exact hlt
      obtain ⟨haa, hblt, hcell⟩ := HAC.out (by rw [N1.out]; omega)
      subst haa
      obtain ⟨-, c1, c2, c3⟩ := hcell i G
      have hww : ∀ w', Below w0.heap.size w0 w' → ∀ j, w'.cell? ⟨b, j, none⟩ = W.cell? ⟨b, j, none⟩ := fun w' h j => (BW.out.trans (h.mono BW.out.size)).cell (p := ⟨b, j, none⟩) hblt
      have hidr := HID.out _ (List.getElem_mem G)
      obtain ⟨r, hr⟩ : ∃ r, r = adds[i] := ⟨_, rfl⟩
      rw [← hr] at c1 c2 c3 hidr
      obtain ⟨q0, q1, q2, q3⟩ := r
      dsimp only at c1 c2 c3 hidr
      unfold S at c3
      have CEL : Hid (∀ w', Below w0.heap.size w0 w' → w'.cell? ⟨b, off + i * 4 + 1, none⟩ = some (.int .i64 q1) ∧ w'.cell? ⟨b, off + i * 4 + 2, none⟩ = some (.int .i64 q2) ∧ w'.cell? ⟨b, off + i * 4 + 3, none⟩ = some (.string ⟨q3.toArray⟩)) := fun w' h => ⟨by rw [hww w' h]; exact c1, by rw [hww w' h]; exact c2, by rw [hww w' h]; exact c3⟩
      obtain ⟨d1, d2, d3⟩ := CEL.out wr hsv.bel
      obtain ⟨ta, tc, hte⟩ : ∃ a c, u14 = .slice a T.length c := by obtain ⟨a, c, e, _⟩ := holdsR_row hsv.row; exact ⟨a, c, e⟩
      obtain ⟨NT, hNT⟩ : ∃ NT, NT = T.length := ⟨_, rfl⟩
      rw [← hNT] at hte
      subst hte
      have CA : Hid (∀ w', Below wr.heap.size wr w' → Calls Tryz.prog 24 #[lptr lb, .int .i64 q1, .int .i64 q2, .string ⟨q3.toArray⟩] w' fun e W' => e = .returned (.int .i64 (addT q1 q2 q3 (sL 1048576 (-1) nn bs bs.length, (T.length : Int))).2) ∧ Hid (∃ o5, SvS w0 g lb o5 (addT q1 q2 q3 (sL 1048576 (-1) nn bs bs.length, (T.length : Int))).1.1 (addT q1 q2 q3 (sL 1048576 (-1) nn bs bs.length, (T.length : Int))).1.2 (.slice ta NT tc) T W' ∧ Bd (2000 + 13000 * (i + 1)) (addT q1 q2 q3 (sL 1048576 (-1) nn bs bs.length, (T.length : Int))).1.1) ∧ W'.cell? ⟨b, off + i * 4 + 1, none⟩ = some (.int .i64 q1) ∧ W'.cell? ⟨b, off + i * 4 + 2, none⟩ = some (.int .i64 q2) ∧ W'.cell? ⟨b, off + i * 4 + 3, none⟩ = some (.string ⟨q3.toArray⟩)) := by
        intro w' hb
        have sv1 := sv_below hsv hb
        refine (addC sv1.log (2000 + 13000 * i) hbd3 q1 q2 q3 (by omega) (by omega)).mono ?_
        rintro e W' ⟨⟨he, o5, hl5, hg5⟩, hb5⟩
        have sv5 := sv_grow sv1 hl5 hg5
        obtain ⟨k1, k2, k3⟩ := CEL.out W' sv5.bel
        exact ⟨he, ⟨o5, sv5, bd_mono hb5 (by omega)⟩, k1, k2, k3⟩
      have LIF := hide' hlif
      have HTI := hide' hTi
      have HNT : Hid (T.length = NT) := hNT.symm
      have hnt : NT ≤ 1000 := by omega
      have AST := add_up LIF.out 1048576 nn q1 q2 q3
      clear hsv hlif hTi hbd3 hblt hcell hr G HLS hidr hNT hww c1 c2 c3
      rcases AST with ⟨z0, kk, hst⟩ | ⟨z0, kk, x, hst, hlf⟩
      · obtain ⟨y, hy⟩ : ∃ y, y = (addT q1 q2 q3 (sL 1048576 (-1) nn bs bs.length, (T.length : Int))).2 := ⟨_, rfl⟩
        rw [← hy] at z0 CA
        rw [hst] at CA
        have y0 : decide (y = 0) = false := by simpa using z0
        have y1 : (y == 0) = false := by simpa using z0
        clear hst hy
        go_wp2_with fail
        go_region_held3 (fun w' => w'.cell? ⟨b, off + i * 4 + 1, none⟩ = some (.int .i64 q1) ∧ w'.cell? ⟨b, off + i * 4 + 2, none⟩ = some (.int .i64 q2) ∧ w'.cell? ⟨b, off + i * 4 + 3, none⟩ = some (.string ⟨q3.toArray⟩)) (go_keep)
          (first | (go_at_call 24; refine (CA.out _ ?_).mono ?_; (first | exact (Below.refl _ _).drew | exact Below.refl _ _); rintro e w5 ⟨rfl, P5, j1, j2, j3⟩))
        all_goals
          go_wp2_with fail
          go_roundw
          case rel => obtain ⟨o5, s5, b5⟩ := P5.out; exact ⟨i + 1, by go_num, hlt, o5, kk, bs, T, fm, s5, LIF.out, by have := HTI.out; omega, b5⟩
          case measure => simp only [intOf]; omega
      · rw [z0, hst] at CA
        have HLF := hide' hlf
        clear hst z0 hlf
        go_wp2_with fail
        go_region_held3 (fun w' => w'.cell? ⟨b, off + i * 4 + 1, none⟩ = some (.int .i64 q1) ∧ w'.cell? ⟨b, off + i * 4 + 2, none⟩ = some (.int .i64 q2) ∧ w'.cell? ⟨b, off + i * 4 + 3, none⟩ = some (.string ⟨q3.toArray⟩)) (go_keep)
          (first | (go_at_call 24; refine (CA.out _ ?_).mono ?_; (first | exact (Below.refl _ _).drew | exact Below.refl _ _); rintro e w5 ⟨rfl, P5, j1, j2, j3⟩))
        obtain ⟨o5, s5, b5⟩ := P5.out
        have SV6 := hide' s5
        have HB6 := hide' b5
        clear s5 b5 P5 CA
        go_wp2_with fail
        go_region_held3 (fun w' => w'.cell? ⟨b, off + i * 4 + 1, none⟩ = some (.int .i64 q1) ∧ w'.cell? ⟨b, off + i * 4 + 2, none⟩ = some (.int .i64 q2) ∧ w'.cell? ⟨b, off + i * 4 + 3, none⟩ = some (.string ⟨q3.toArray⟩)) (go_keep)
          (first | (refine stepRX w5 SV6.out ((NT : Int), q1, q2, q3) (by first | exact lit1T_alloc _ _ _ | exact lit1T_drew _ _ _ | exact lit1T_da _ _ _) (by rfl) (.tmp 76) (.tmp 95) (by rfl) (by first | rfl | simp [Act.eval, Act.put]) (by first | rfl | simp [Act.eval, Act.put]) (by rw [HNT.out]; omega) ?_; intro gb gc w7 sv7; obtain ⟨i1, i2, i3⟩ := CEL.out w7 sv7.bel; rw [HNT.out] at sv7 ⊢; have SV7 := hide' sv7; clear sv7))
        all_goals
          go_wp2_with fail
          go_roundw
          case rel =>
            refine ⟨i + 1, by go_num, hlt, o5, kk, bs ++ x, T ++ [((T.length : Int), q1, q2, q3)], T.length + 1, ?_, HLF.out, by have := HTI.out; rw [List.length_append]; show T.length + 1 ≤ i + 1; omega, HB6.out⟩
            have h := SV7.out
            rw [← HNT.out] at h ⊢
            simpa using h
          case measure => simp only [intOf]; omega
    · obtain rfl : i = n := by omega
      obtain ⟨wP, hwP⟩ : ∃ x, x = wr := ⟨_, rfl⟩
      subst hwP
      obtain ⟨o3, nn, bs, T, fm, hsv, hlif, hTi, hbd3⟩ := HLS.out
      obtain ⟨ta, tc, hte⟩ : ∃ a c, u14 = .slice a T.length c := by obtain ⟨a, c, e, _⟩ := holdsR_row hsv.row; exact ⟨a, c, e⟩
      obtain ⟨NT, hNT⟩ : ∃ NT, NT = T.length := ⟨_, rfl⟩
      rw [← hNT] at hte
      subst hte
      have HNT : Hid (T.length = NT) := hNT.symm
      have hbl2 : bs.length ≤ 205550 := by have := hlif.len; omega
      have CL := hide' (leftC hsv.log.dsk 0 (.slice none 0 0) [] ⟨none, 0, rfl, fun _ => rfl, Nat.le_refl _, fun h => absurd rfl h⟩ (by decide) (fun z h => by cases h) (bd_mono hbd3 (by omega)))
      rw [left_lw] at CL
      have NE : Hid (newE [(lgN, bs)] 1048576 = 0) := by
        have h1 := newE_left (dsk_wf hsv.log.dsk).1 0 []
        rw [left_lw] at h1
        exact h1
      have B3 := hide' hsv.bel
      have R3 := hide' hsv.row
      have LIF := hide' hlif
      have HTI := hide' hTi
      clear hsv hlif hbd3 HLS hTi hNT
      go_wp2_with fail
      refine CL.out.mono ?_
      rintro e w11 ⟨fv2, rfl, hf12, b11⟩
      have CN2 := hide' (newC fv2 [(lgN, bs)] 1048576 (.slice none 0 0) [] pw w11 (holdsFi_sub (mask_sub _ _) hf12) ⟨none, 0, rfl, fun _ => rfl, Nat.le_refl _, fun h => absurd rfl h⟩ (fun f hf => by rw [List.mem_singleton.1 hf]; exact ⟨by show lgN.length ≤ _; decide, by show bs.length ≤ _; omega⟩) (by simp) (by decide) (fun z h => by cases h))
      have BD2 := hide' (bd_new [(lgN, bs)] 1048576 [] pw 205600 (by simp) (fun f hf => by rw [List.mem_singleton.1 hf]; show bs.length ≤ _; omega))
      obtain ⟨fa, fn, fc, hfv⟩ : ∃ a n c, fv2 = .slice a n c := by obtain ⟨a, c, e, _⟩ := hf12; exact ⟨a, _, c, e⟩
      subst hfv
      have B11 := hide' b11
      clear hf12 b11 CL
      go_wp2_with fail
      refine CN2.out.mono ?_
      intro e w13 np
      obtain ⟨nb, ⟨ne, _⟩ | ⟨_, g2, o2, rfl, hD2, hO2⟩⟩ := np
      · exact absurd NE.out ne
      have CO2 := hide' (openL (s := sL 1048576 pw 0 bs bs.length) hD2 205600 BD2.out (by decide))
      have B13 := hide' (B11.out.trans (nb.mono B11.out.size))
      have HO2 : Hid (∀ x, o2.has x → wP.heap.size ≤ x) := fun x hx => Nat.le_trans B11.out.size (hO2 x hx)
      clear CN2 hD2 hO2 nb
      go_wp2_with fail
      refine CO2.out.mono ?_
      rintro e w14 ⟨op2, hbd14⟩
      by_cases hdn : (sL 1048576 pw 0 bs bs.length).down = true
      · obtain ⟨ne, rfl, o4, _, hg4⟩ | ⟨ok, _⟩ := op2
        · have B14 := hide' (B3.out.trans ((B13.out.trans (hg4.off.below (C := wP.heap.size) B13.out.size HO2.out)).mono B3.out.size))
          obtain ⟨y, hy⟩ : ∃ y, y = (openT rdT (sL 1048576 pw 0 bs bs.length)).2 := ⟨_, rfl⟩
          rw [← hy] at ne ⊢
          have y0 : decide (y = 0) = false := by simpa using ne
          have y1 : ¬ y = 0 := ne
          clear hg4 hbd14 hy CO2
          go_wp2_with fail
          go_ret
          exact ⟨rfl, BW.out.trans (B14.out.mono BW.out.size)⟩
        · exact absurd ok (open_down _ _ _ _ hdn)
      rw [Bool.not_eq_true] at hdn
      have OW := open_whole LIF.out 1048576 pw 0 bs.length hdn
      rw [OW] at op2 hbd14
      obtain ⟨ne, _⟩ | ⟨_, lb2, lv2, o4, rfl, hl4, hg4, hlb4, _⟩ := op2
      · exact absurd rfl ne
      dsimp only at hl4 hbd14
      have off14 : Off o2.has wP w14 := (off_of (S := o2.has) B13.out).trans hg4.off (fun x hx => .inl hx)
      have B14 := hide' (B3.out.trans ((off14.below (C := wP.heap.size) (Nat.le_refl _) HO2.out).mono B3.out.size))
      have row14 := row_offS R3.out off14 (fun rb e hh => by
        have h1 := HO2.out rb hh
        have h2 := (R3.out.lt rb e).2
        omega)
      have N14 : Hid (∀ x, o4.has x → wP.heap.size ≤ x) := fun x hx => by
        rcases hg4.new x hx with h1 | h1
        · exact HO2.out x h1
        · exact Nat.le_trans B13.out.size h1
      have L14 : Hid (wP.heap.size ≤ lb2) := Nat.le_trans B13.out.size hlb4
      have HL4 := hide' hl4
      have HB14 := hide' hbd14
      have R14 := hide' row14
      have CY := hide' (copyRC (.slice la ml lc) list w14 (holdsR_mono HLI.out (BW.out.trans (B14.out.mono BW.out.size))) (by rw [N2.out]; omega))
      clear hl4 hbd14 row14 off14 hg4 hlb4 OW CO2
      go_wp2_with fail
      refine CY.out.mono ?_
      rintro e w15 ⟨u, rfl, hu⟩
      obtain ⟨ua, uc, hue⟩ := ownR_sl hu
      rw [N2.out] at hue
      subst hue
      have CW := hide' (rewriteC (logS_below HL4.out hu.2) (15 * 205600 + 200) HB14.out ua ml uc list (holdsR_own hu) (by have := HBL.out; omega))
      have B15 := hide' hu.2
      clear hu CY
      go_wp2_with fail
      refine CW.out.mono ?_
      rintro e w16 ⟨⟨rfl, o6, hl6, hg6⟩, hbd16⟩
      have RSE := hide' (rew_seen LIF.out pw 0 (T.length : Int) list (by have := HTI.out; omega) (by rw [N2.out]; omega))
      have RSM := hide' (rew_small LIF.out pw 0 (T.length : Int) list (by have := HTI.out; omega) (by rw [N2.out]; omega))
      obtain ⟨y2, hy2⟩ : ∃ y, y = (rewT list (sL 1048576 pw 0 bs bs.length, (T.length : Int))).2 := ⟨_, rfl⟩
      obtain ⟨s6, hs6⟩ : ∃ s, s = (rewT list (sL 1048576 pw 0 bs bs.length, (T.length : Int))).1.1 := ⟨_, rfl⟩
      have D16 : Hid (Dsk o6 g2 s6 w16) := by unfold Hid; rw [hs6]; exact hl6.dsk
      have BD16 : Hid (Bd 80000000 s6) := by unfold Hid; rw [hs6]; exact bd_mono hbd16 (by have := HBL.out; omega)
      rw [← hy2, ← hs6] at RSE
      rw [← hs6] at RSM
      have off16 : Off (fun x => o4.has x ∨ x = lb2) w14 w16 := (off_of (S := fun x => o4.has x ∨ x = lb2) B15.out).trans hg6.off (fun x hx => .inl hx)
      have low16 : ∀ x, (o4.has x ∨ x = lb2) → wP.heap.size ≤ x := fun x hx => by
        rcases hx with hx | hx
        · exact N14.out x hx
        · rw [hx]; exact L14.out
      have row16 := row_offS R14.out off16 (fun rb e hh => by
        have h1 := low16 rb hh
        have h2 := (R3.out.lt rb e).2
        omega)
      have R16 := hide' (holdsR_row row16)
      have B16 := hide' (B14.out.trans ((off16.below (C := w0.heap.size) B14.out.size (fun x hx => Nat.le_trans B3.out.size (low16 x hx)))))
      rw [← hy2]
      clear hl6 hg6 hbd16 off16 low16 row16 CW hy2 hs6 HL4 HB14
      go_wp2_with fail
      go_loopw [17, 18] (fun rv iv wx => ∃ j : Nat, iv = .int .i64 (j : Int) ∧ j ≤ ml ∧ Hid (OwnR w16 rv (numR (list.take j)) wx)) (fun _ iv _ => ml - (intOf iv).toNat)
      case atStart => exact ⟨0, rfl, Nat.zero_le _, ownR_empty w16⟩
      case round =>
        obtain ⟨j, rfl, hj, HOR⟩ := hrel
        by_cases hlt2 : j < ml
        · have G2 : j < list.length := by rw [N2.out]; exact hlt2
          obtain ⟨hla, hblt2, hcell2⟩ := HLC.out (by rw [N2.out]; omega)
          subst hla
          obtain ⟨-, c1, c2, c3⟩ := hcell2 j G2
          have hww : ∀ w', Below w16.heap.size w16 w' → ∀ t, w'.cell? ⟨b2, t, none⟩ = W.cell? ⟨b2, t, none⟩ := fun w' h t => ((BW.out.trans (B16.out.mono BW.out.size)).trans (h.mono (BW.out.trans (B16.out.mono BW.out.size)).size)).cell (p := ⟨b2, t, none⟩) hblt2
          have NTK := hide' (numR_take G2)
          obtain ⟨r, hr⟩ : ∃ r, r = list[j] := ⟨_, rfl⟩
          rw [← hr] at c1 c2 c3 NTK
          obtain ⟨q0, q1, q2, q3⟩ := r
          dsimp only at c1 c2 c3 NTK
          unfold S at c3
          have CEL : Hid (∀ w', Below w16.heap.size w16 w' → w'.cell? ⟨b2, off2 + j * 4 + 1, none⟩ = some (.int .i64 q1) ∧ w'.cell? ⟨b2, off2 + j * 4 + 2, none⟩ = some (.int .i64 q2) ∧ w'.cell? ⟨b2, off2 + j * 4 + 3, none⟩ = some (.string ⟨q3.toArray⟩)) := fun w' h => ⟨by rw [hww w' h]; exact c1, by rw [hww w' h]; exact c2, by rw [hww w' h]; exact c3⟩
          obtain ⟨d1, d2, d3⟩ := CEL.out wr HOR.out.2
          have NL : Hid ((numR (list.take j)).length = j) := by unfold Hid; rw [numR_len, List.length_take]; omega
          clear hr hcell2 hblt2 hww c1 c2 c3 G2
          go_wp2_with fail
          go_region_held3 (fun w' => w'.cell? ⟨b2, off2 + j * 4 + 1, none⟩ = some (.int .i64 q1) ∧ w'.cell? ⟨b2, off2 + j * 4 + 2, none⟩ = some (.int .i64 q2) ∧ w'.cell? ⟨b2, off2 + j * 4 + 3, none⟩ = some (.string ⟨q3.toArray⟩)) (go_keep)
            (first | (refine stepOR wr HOR.out ((j : Int), q1, q2, q3) (by first | exact lit1T_alloc _ _ _ | exact lit1T_drew _ _ _ | exact lit1T_da _ _ _) (by rfl) (.tmp 134) (.tmp 152) (by rfl) (by first | rfl | simp [Act.eval, Act.put]) (by first | rfl | simp [Act.eval, Act.put]) (by rw [NL.out]; omega) ?_; intro gb gc w7 or7; obtain ⟨i1, i2, i3⟩ := CEL.out w7 or7.2; have OR7 := hide' or7; clear or7))
          all_goals
            go_wp2_with fail
            go_roundw
            case rel => exact ⟨j + 1, by go_num, hlt2, by unfold Hid; rw [NTK.out]; exact OR7.out⟩
            case measure => simp only [intOf]; omega
        · obtain rfl : j = ml := by omega
          obtain ⟨wQ, hwQ⟩ : ∃ x, x = wr := ⟨_, rfl⟩
          subst hwQ
          have hor := HOR.out
          rw [show list.take j = list by rw [← N2.out]; exact List.take_length] at hor
          have bq := B16.out.trans (hor.2.mono B16.out.size)
          have k0 := (bq.cell (p := ⟨W.heap.size, 0, none⟩) FL.out).trans f0
          have k1 := (bq.cell (p := ⟨W.heap.size, 1, none⟩) FL.out).trans f1
          have CF := hide' (copyFateC k (.slice ka nz kc) zs wQ (holdsI_mono HZ0.out bq) (by rw [NZ.out]; omega))
          have AF := hide' (holdsR_own hor)
          have BQ := hide' bq
          have DQ := hide' (dsk_below D16.out hor.2)
          have RQ := hide' (holdsR_mono R16.out hor.2)
          clear hor bq HOR
          go_wp2_with fail
          refine CF.out.mono ?_
          rintro e w21 ⟨u2, rfl, hu, b21⟩
          have CL2 := hide' (leftC (dsk_below DQ.out b21) k u2 zs hu hkr hkb (bd_mono BD16.out (by decide)))
          have B21 := hide' b21
          clear hu b21 CF
          go_wp2_with fail
          refine CL2.out.mono ?_
          rintro e w22 ⟨fv3, rfl, hf22, b22⟩
          obtain ⟨fb1, fb2⟩ := RSM.out k zs
          have CN3 := hide' (newC fv3 (s6.left k zs) 1048576 (.slice none 0 0) [] (-1) w22 (holdsFi_sub (mask_sub _ _) hf22) ⟨none, 0, rfl, fun _ => rfl, Nat.le_refl _, fun h => absurd rfl h⟩ (fun f hf => ⟨(fb2 f hf).1, by have := (fb2 f hf).2; omega⟩) (by omega) (by decide) (fun z h => by cases h))
          have BDN := hide' (bd_new (s6.left k zs) 1048576 [] (-1) 411200 fb1 (fun f hf => (fb2 f hf).2))
          have NE3 := hide' (newE_left (dsk_wf DQ.out).1 k zs)
          have B22 := hide' (B21.out.trans (b22.mono B21.out.size))
          obtain ⟨fa3, fn3, fc3, hfv3⟩ : ∃ a n c, fv3 = .slice a n c := by obtain ⟨a, c, e, _⟩ := hf22; exact ⟨a, _, c, e⟩
          subst hfv3
          clear hf22 b22 CL2 fb1 fb2
          go_wp2_with fail
          refine CN3.out.mono ?_
          intro e w23 np
          obtain ⟨nb, ⟨ne, _⟩ | ⟨_, g3, o7, rfl, hD3, hO3⟩⟩ := np
          · exact absurd NE3.out ne
          have CO3 := hide' (openL hD3 411200 BDN.out (by decide))
          obtain ⟨OK3, SEE, TOLD⟩ := RSE.out k zs
          have B23 := hide' (B22.out.trans (nb.mono B22.out.size))
          have HO3 : Hid (∀ x, o7.has x → wQ.heap.size ≤ x) := fun x hx => Nat.le_trans B22.out.size (hO3 x hx)
          clear CN3 hD3 hO3 nb
          go_wp2_with fail
          refine CO3.out.mono ?_
          rintro e w24 ⟨op3, _⟩
          obtain ⟨ne, _⟩ | ⟨_, lb4, lv4, o8, rfl, _, hg8, _, hr8⟩ := op3
          · exact absurd OK3 ne
          have off24 : Off o7.has wQ w24 := (off_of (S := o7.has) B23.out).trans hg8.off (fun x hx => .inl hx)
          have b24 := off24.below (C := wQ.heap.size) (Nat.le_refl _) HO3.out
          have B24 := hide' (BW.out.trans ((BQ.out.trans (b24.mono BQ.out.size)).mono BW.out.size))
          have AF24 := hide' (holdsR_mono AF.out b24)
          have RQ24 := hide' (holdsR_mono RQ.out b24)
          have SE24 := hide' hr8.1
          obtain ⟨sn, hsn⟩ : ∃ sn, sn = (openT rdT (newS (s6.left k zs) 1048576 [] (-1))).1.2 := ⟨_, rfl⟩
          rw [← hsn] at SE24 SEE TOLD
          obtain ⟨ga, gc2, hlv4, _⟩ := id SE24.out
          have SNL : Hid (sn.length ≤ 100) := by
            unfold Hid
            rcases SEE with e | e
            · rw [e]; have := HTI.out; omega
            · rw [e, numR_len, N2.out]; omega
          have CS1 := hide' (sameRC lv4 (.slice ta NT tc) sn T w24 SE24.out RQ24.out (by have := SNL.out; omega))
          have CS2 : Hid (∀ w', Below w24.heap.size w24 w' → Calls Tryz.prog 12 #[lv4, u17] w' fun e w'' => e = .returned (.bool (decide (sn = numR list))) ∧ ∃ m, w'' = w'.drewN m) := fun w' h => sameRC lv4 u17 sn (numR list) w' (holdsR_mono SE24.out h) (holdsR_mono AF24.out h) (by have := SNL.out; omega)
          subst hlv4
          clear off24 b24 hg8 hr8 CO3 hsn OK3
          by_cases ht : y2 = 0
          · have e1 : decide (sn = numR list) = true := by rw [decide_eq_true_iff]; exact TOLD ht
            subst ht
            rw [e1] at CS2
            clear SEE TOLD CS1
            go_wp2_with fail
            refine (CS2.out w24 (Below.refl _ _)).mono ?_
            rintro e w25 ⟨rfl, m9, ew⟩
            have B25 : Hid (Below W.heap.size W w25) := by rw [ew]; exact B24.out.trans ((below_drewN w24 m9).mono B24.out.size)
            clear ew
            go_wp2_with fail
            go_ret
            exact ⟨rfl, B25.out⟩
          · have y0 : decide (y2 = 0) = false := by simpa using ht
            by_cases hb1 : sn = T
            · have e1 : decide (sn = T) = true := by rw [decide_eq_true_iff]; exact hb1
              rw [e1] at CS1
              clear SEE TOLD hb1
              go_wp2_with fail
              refine CS1.out.mono ?_
              rintro e w25 ⟨rfl, m9, ew⟩
              have B25 : Hid (Below W.heap.size W w25) := by rw [ew]; exact B24.out.trans ((below_drewN w24 m9).mono B24.out.size)
              clear ew
              go_wp2_with fail
              go_ret
              exact ⟨rfl, B25.out⟩
            · have e1 : decide (sn = T) = false := by rw [decide_eq_false_iff_not]; exact hb1
              have e2 : decide (sn = numR list) = true := by
                rw [decide_eq_true_iff]
                rcases SEE with e | e
                · exact absurd e hb1
                · exact e
              rw [e1] at CS1
              rw [e2] at CS2
              clear SEE TOLD hb1
              go_wp2_with fail
              refine CS1.out.mono ?_
              rintro e w25 ⟨rfl, m9, ew⟩
              have B25 : Hid (Below w24.heap.size w24 w25) := by rw [ew]; exact below_drewN w24 m9
              clear ew
              go_wp2_with fail
              refine (CS2.out w25 B25.out).mono ?_
              rintro e w26 ⟨rfl, m10, ew⟩
              have B26 : Hid (Below W.heap.size W w26) := by rw [ew]; exact B24.out.trans ((B25.out.trans ((below_drewN w25 m10).mono B25.out.size)).mono B24.out.size)
              clear ew
              go_wp2_with fail
              go_ret
              exact ⟨rfl, B26.out⟩
end Go.Proofs.YtmejbgnaoaiooaaGreat
