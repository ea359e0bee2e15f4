/- The contract of the document's Rewrite. -/
import Derived.Test.YtijnjgnckipghaaGreatSwDb
import Derived.Deep.RegionHeld3
namespace Go.Proofs.YtijnjgnckipghaaGreat
open Go.RowKit Go.Shelf
theorem own_emptyA (w : World) : Own w (.slice (some ⟨w.heap.size, 0, none⟩) 0 0) [] (w.alloc (.cells #[] 5)) := ⟨World.ownsRow_lit w #[] 0 (Nat.le_refl _) (by decide) rfl, below_alloc' _ _⟩
set_option maxRecDepth 20000 in
set_option maxHeartbeats 16000000 in
theorem rewRC {S : Nat → Prop} {W0 : World} (hS : ∀ k, S k → k < W0.heap.size) {a0 a1 a2 a3 a4 a6 : Option Addr} {n0 c0 n1 c1 n2 c2 n3 c3 n4 c4 n6 c6 : Nat} {t : Dk} (h : RefS (mask S W0) (.agg #[.slice a0 n0 c0, .slice a1 n1 c1, .slice a2 n2 c2, .slice a3 n3 c3, .slice a4 n4 c4, .int .i64 t.room, .slice a6 n6 c6, .int .i64 t.power, .int .i64 (t.n : Int)]) t) (hw : Wf t) (m : Nat) (hB : Bd m t) (hfl : t.fails.length ≤ 1000000000) (c : Int) (lv : Value) (rs : RL) (hl : HoldsR W0 lv rs) (hm : m + bulkR rs + 1000 ≤ 70000000) :
    Calls Tryz.prog 13 #[.agg #[.slice a0 n0 c0, .slice a1 n1 c1, .slice a2 n2 c2, .slice a3 n3 c3, .slice a4 n4 c4, .int .i64 t.room, .slice a6 n6 c6, .int .i64 t.power, .int .i64 (t.n : Int), .int .i64 c], lv] W0 fun e w' => ∃ (y0 y1 y2 y3 y4 y6 : Sl) (s' : Dk), s' = (rewT rs (t, c)).1.1 ∧ e = .returned (.tuple #[.agg #[.slice y0.a y0.n y0.c, .slice y1.a y1.n y1.c, .slice y2.a y2.n y2.c, .slice y3.a y3.n y3.c, .slice y4.a y4.n y4.c, .int .i64 s'.room, .slice y6.a y6.n y6.c, .int .i64 s'.power, .int .i64 (s'.n : Int), .int .i64 (rewT rs (t, c)).1.2], .int .i64 (rewT rs (t, c)).2]) ∧ RefS (mask S w') (.agg #[.slice y0.a y0.n y0.c, .slice y1.a y1.n y1.c, .slice y2.a y2.n y2.c, .slice y3.a y3.n y3.c, .slice y4.a y4.n y4.c, .int .i64 s'.room, .slice y6.a y6.n y6.c, .int .i64 s'.power, .int .i64 (s'.n : Int)]) s' ∧ Below W0.heap.size W0 w' := by
  have I0 : Hid (StI S W0 [.slice none 0 0, .slice none 0 0, .slice none 0 0, .slice none 0 0, .slice none 0 0, .int .i64 0, .slice none 0 0, .int .i64 0, .int .i64 0, .int .i64 0] [.slice a0 n0 c0, .slice a1 n1 c1, .slice a2 n2 c2, .slice a3 n3 c3, .slice a4 n4 c4, .int .i64 t.room, .slice a6 n6 c6, .int .i64 t.power, .int .i64 (t.n : Int), .int .i64 c] (.agg #[.slice a0 n0 c0, .slice a1 n1 c1, .slice a2 n2 c2, .slice a3 n3 c3, .slice a4 n4 c4, .int .i64 t.room, .slice a6 n6 c6, .int .i64 t.power, .int .i64 (t.n : Int)]) t m ((W0.alloc (.cells #[.slice a0 n0 c0, .slice a1 n1 c1, .slice a2 n2 c2, .slice a3 n3 c3, .slice a4 n4 c4, .int .i64 t.room, .slice a6 n6 c6, .int .i64 t.power, .int .i64 (t.n : Int), .int .i64 c] 46)).alloc (.cells #[.slice none 0 0, .slice none 0 0, .slice none 0 0, .slice none 0 0, .slice none 0 0, .int .i64 0, .slice none 0 0, .int .i64 0, .int .i64 0, .int .i64 0] 46))) := sti_begin #[.slice a0 n0 c0, .slice a1 n1 c1, .slice a2 n2 c2, .slice a3 n3 c3, .slice a4 n4 c4, .int .i64 t.room, .slice a6 n6 c6, .int .i64 t.power, .int .i64 (t.n : Int), .int .i64 c] #[.slice none 0 0, .slice none 0 0, .slice none 0 0, .slice none 0 0, .slice none 0 0, .int .i64 0, .slice none 0 0, .int .i64 0, .int .i64 0, .int .i64 0] h hw hB _ _
  have HS := hide' hS
  have FL := hide' hfl
  have HM := hide' hm
  have HLR := hide' hl
  obtain ⟨ao, cap, b, off, hlv, hc⟩ := holdsR_parts hl
  have HC := hide' hc
  obtain ⟨n, hn⟩ : ∃ n, n = rs.length := ⟨_, rfl⟩
  have N : Hid (rs.length = n) := hn.symm
  have hnl : n * 15 ≤ bulkR rs := by
    rw [hn]
    clear hn N HC hc hl hm HM HLR hlv
    induction rs with
    | nil => simp
    | cons r rs ih => simp only [List.length_cons, bulkR]; omega
  have hn2 : n ≤ 70000000 := by omega
  rw [N.out] at hlv
  subst hlv
  clear h hw hB hfl hS hl hm hc hn hnl
  have O0' := own_emptyA ((W0.alloc (.cells #[.slice a0 n0 c0, .slice a1 n1 c1, .slice a2 n2 c2, .slice a3 n3 c3, .slice a4 n4 c4, .int .i64 t.room, .slice a6 n6 c6, .int .i64 t.power, .int .i64 (t.n : Int), .int .i64 c] 46)).alloc (.cells #[.slice none 0 0, .slice none 0 0, .slice none 0 0, .slice none 0 0, .slice none 0 0, .int .i64 0, .slice none 0 0, .int .i64 0, .int .i64 0, .int .i64 0] 46))
  have z2 : (((W0.alloc (.cells #[.slice a0 n0 c0, .slice a1 n1 c1, .slice a2 n2 c2, .slice a3 n3 c3, .slice a4 n4 c4, .int .i64 t.room, .slice a6 n6 c6, .int .i64 t.power, .int .i64 (t.n : Int), .int .i64 c] 46)).alloc (.cells #[.slice none 0 0, .slice none 0 0, .slice none 0 0, .slice none 0 0, .slice none 0 0, .int .i64 0, .slice none 0 0, .int .i64 0, .int .i64 0, .int .i64 0] 46))).heap.size = W0.heap.size + 1 + 1 := by simp
  rw [z2] at O0'
  have O0 := hide' O0'
  clear O0' z2
  go_enter Tryz.func13, Tryz.ntmps13
  go_wp2_with fail
  generalize ((W0.alloc (.cells #[.slice a0 n0 c0, .slice a1 n1 c1, .slice a2 n2 c2, .slice a3 n3 c3, .slice a4 n4 c4, .int .i64 t.room, .slice a6 n6 c6, .int .i64 t.power, .int .i64 (t.n : Int), .int .i64 c] 46)).alloc (.cells #[.slice none 0 0, .slice none 0 0, .slice none 0 0, .slice none 0 0, .slice none 0 0, .int .i64 0, .slice none 0 0, .int .i64 0, .int .i64 0, .int .i64 0] 46)) = w2 at I0 O0 ⊢
  generalize (w2.alloc (.cells #[] 5)) = w3 at O0 ⊢
  go_loopw [6, 7] (fun v i wr => ∃ (k : Nat) (acc : List UInt8), k ≤ n ∧ i = .int .i64 k ∧ Hid (Own w2 v acc wr) ∧ Hid (encG 0 rs = encH acc (encG k (rs.drop k))) ∧ Hid (acc.length + bulkR (rs.drop k) ≤ bulkR rs)) (fun _ i _ => n - (intOf i).toNat)
  case atStart => exact ⟨0, [], by omega, rfl, O0, by unfold Hid; rw [List.drop_zero, encH_nil _ (encG_bad _ _)], by unfold Hid; simp⟩
  case round =>
    obtain ⟨k, acc, hk, rfl, HO, HE, HB⟩ := hrel
    clear O0
    have IR := hide' (sti_below I0.out HO.out.2)
    by_cases hlt : k < n
    · have G : k < rs.length := by rw [N.out]; exact hlt
      obtain ⟨hao, hblt, hcell⟩ := HC.out (by rw [N.out]; omega)
      subst hao
      obtain ⟨c0', c1, c2, c3⟩ := hcell k G
      have D : Hid (rs.drop k = rs[k] :: rs.drop (k + 1)) := List.drop_eq_getElem_cons G
      have BD := hide' (bulkR_drop rs k G)
      obtain ⟨r, hr⟩ : ∃ r, r = rs[k] := ⟨_, rfl⟩
      rw [← hr] at c1 c2 c3 D BD
      obtain ⟨q0, q1, q2, q3⟩ := r
      dsimp only at c1 c2 c3
      replace c3 : W0.cell? ⟨b, off + k * 4 + 3, none⟩ = some (.string ⟨q3.toArray⟩) := c3
      have OC : Hid (∀ Wx, Below W0.heap.size W0 Wx → Wx.cell? ⟨b, off + k * 4 + 1, none⟩ = some (.int .i64 q1) ∧ Wx.cell? ⟨b, off + k * 4 + 2, none⟩ = some (.int .i64 q2) ∧ Wx.cell? ⟨b, off + k * 4 + 3, none⟩ = some (.string ⟨q3.toArray⟩)) := fun Wx hb => ⟨(hb.cell (cell_lt c1)).trans c1, (hb.cell (cell_lt c2)).trans c2, (hb.cell (cell_lt c3)).trans c3⟩
      clear hr hcell hblt c0' c1 c2 c3
      obtain ⟨l1, l2, l3⟩ := OC.out wr IR.out.bel
      have CE : Hid (∀ Wx, Below wr.heap.size wr Wx → Calls Tryz.prog 40 #[.agg #[.int .i64 (k : Int), .int .i64 q1, .int .i64 q2, .string ⟨q3.toArray⟩]] Wx fun e w' => ∃ ua un uc, e = .returned (.tuple #[.slice ua un uc, .int .i64 (encOf (k : Int) q1 q2 q3).2]) ∧ Hid (HoldsB w' (.slice ua un uc) (encOf (k : Int) q1 q2 q3).1 ∧ Below wr.heap.size wr w') ∧ w'.cell? ⟨b, off + k * 4 + 1, none⟩ = some (.int .i64 q1) ∧ w'.cell? ⟨b, off + k * 4 + 2, none⟩ = some (.int .i64 q2) ∧ w'.cell? ⟨b, off + k * 4 + 3, none⟩ = some (.string ⟨q3.toArray⟩)) := fun Wx hb => by
        have hq := encRC (k : Int) q1 q2 q3 Wx (by have h1 := BD.out; have h2 := HB.out; have h3 := HM.out; (try dsimp only at h1); omega)
        unfold recV at hq
        refine hq.mono ?_
        rintro e w' ⟨u, rfl, ho⟩
        obtain ⟨ua, un, uc, rfl⟩ := sl_of (holdsB_own ho)
        have hb2 := hb.trans (ho.2.mono hb.size)
        exact ⟨ua, un, uc, rfl, ⟨holdsB_own ho, hb2⟩, OC.out w' (IR.out.bel.trans (hb2.mono IR.out.bel.size))⟩
      have LE := hide' (enc_len (k : Int) q1 q2 q3)
      by_cases hz : (encOf (k : Int) q1 q2 q3).2 = 0
      · have HE2 : Hid (encG 0 rs = encH (acc ++ (encOf (k : Int) q1 q2 q3).1) (encG (k + 1) (rs.drop (k + 1)))) := by
          unfold Hid; rw [HE.out, D.out]; exact encH_ok (r := (q0, q1, q2, q3)) hz
        rw [hz] at CE
        generalize (encOf (k : Int) q1 q2 q3).1 = bs at CE HE2 LE
        clear hz
        go_wp2_with fail
        go_region_held3 (fun w' => w'.cell? ⟨b, off + k * 4 + 1, none⟩ = some (.int .i64 q1) ∧ w'.cell? ⟨b, off + k * 4 + 2, none⟩ = some (.int .i64 q2) ∧ w'.cell? ⟨b, off + k * 4 + 3, none⟩ = some (.string ⟨q3.toArray⟩)) (go_keep)
          (first
            | (go_at_call 40; refine (CE.out _ ?_).mono ?_; (first | exact (Below.refl _ _).drew | exact Below.refl _ _); rintro e w5 ⟨ua, un, uc, rfl, OU, l1, l2, l3⟩))
        all_goals
          have HO1 := hide' (own_mono HO.out OU.out.2)
          clear CE OC l1 l2 l3
          go_wp2_with (at_builtin; refine appAllB rfl (.tmp 47) (.tmp 48) rfl w2 _ acc rfl HO1.out _ _ rfl OU.out.1 (by have h1 := BD.out; have h2 := HB.out; have h3 := HM.out; have h4 := LE.out; (try dsimp only at h1); omega) ?_; intro v2 w6 ho2; have HO2 := hide' ho2; clear ho2)
          go_roundw
          case rel => exact ⟨k + 1, _, by omega, by go_num, HO2, HE2, by unfold Hid; have h1 := BD.out; have h2 := HB.out; have h4 := LE.out; (try dsimp only at h1); rw [List.length_append]; omega⟩
          case measure => simp [intOf]; omega
      · have HE2 : Hid (encG 0 rs = ([], (encOf (k : Int) q1 q2 q3).2)) := by
          unfold Hid; rw [HE.out, D.out]; exact encH_bad (r := (q0, q1, q2, q3)) hz
        have AD : Hid (rewT rs (t, c) = ((t, c), (encOf (k : Int) q1 q2 q3).2)) := by unfold Hid rewT; rw [HE2.out, if_neg hz]
        have dz : ((encOf (k : Int) q1 q2 q3).2 != 0) = true := by simpa using hz
        generalize (encOf (k : Int) q1 q2 q3).2 = er at CE AD dz hz
        go_wp2_with fail
        go_region_held3 (fun w' => w'.cell? ⟨b, off + k * 4 + 1, none⟩ = some (.int .i64 q1) ∧ w'.cell? ⟨b, off + k * 4 + 2, none⟩ = some (.int .i64 q2) ∧ w'.cell? ⟨b, off + k * 4 + 3, none⟩ = some (.string ⟨q3.toArray⟩)) (go_keep)
          (first
            | (go_at_call 40; refine (CE.out _ ?_).mono ?_; (first | exact (Below.refl _ _).drew | exact Below.refl _ _); rintro e w5 ⟨ua, un, uc, rfl, OU, l1, l2, l3⟩))
        all_goals
          have P5 := hide' (sti_below IR.out OU.out.2)
          clear CE OC l1 l2 l3 OU IR HO HE2 hz
          have J3 : W0.heap.size ≠ W0.heap.size + 1 := by omega
          have J4 : W0.heap.size + 1 ≠ W0.heap.size := by omega
          obtain ⟨⟨k0, k1, k2, k3, k4, k5, k6, k7, k8, k9⟩, -⟩ := cells_ten P5.out.b0
          obtain ⟨⟨g0, g1, g2, g3, g4, g5, g6, g7, g8, g9⟩, ⟨f0, f1, f2, f3, f4, f5, f6, f7, f8, f9⟩⟩ := cells_ten P5.out.b1
          have EN := sti_end P5.out (us := [.slice a0 n0 c0, .slice a1 n1 c1, .slice a2 n2 c2, .slice a3 n3 c3, .slice a4 n4 c4, .int .i64 t.room, .slice a6 n6 c6, .int .i64 t.power, .int .i64 (t.n : Int), .int .i64 c]) rfl
          simp only [putFrom] at EN
          have ENH := hide' EN
          clear EN P5
          go_wp2_with fail
          obtain ⟨⟨z0, z1, z2, z3, z4, z5, z6, z7, z8, z9⟩, -⟩ := cells_ten ENH.out.1
          exact bodyPost_ret (v := .tuple #[.agg #[.slice a0 n0 c0, .slice a1 n1 c1, .slice a2 n2 c2, .slice a3 n3 c3, .slice a4 n4 c4, .int .i64 t.room, .slice a6 n6 c6, .int .i64 t.power, .int .i64 (t.n : Int), .int .i64 c], .int .i64 er]) (by simp [results, Tryz.results13, go_sem, z0, z1, z2, z3, z4, z5, z6, z7, z8, z9]) rfl (by rw [AD.out]; exact ⟨⟨a0, n0, c0⟩, ⟨a1, n1, c1⟩, ⟨a2, n2, c2⟩, ⟨a3, n3, c3⟩, ⟨a4, n4, c4⟩, ⟨a6, n6, c6⟩, t, rfl, rfl, ENH.out.2.2, ENH.out.2.1⟩)
    · obtain rfl : k = n := by omega
      have HE2 : Hid (encG 0 rs = (acc, 0)) := by
        unfold Hid; rw [HE.out, List.drop_eq_nil_of_le (by rw [N.out]; omega)]; show encH acc ([], 0) = _; unfold encH; rw [if_pos rfl, List.append_nil]
      have AD : Hid (rewT rs (t, c) = (((if 1 ≤ (stpsT [⟨1, nwN, [], []⟩, ⟨2, nwN, [], acc⟩, ⟨3, nwN, [], []⟩, ⟨5, nwN, lgN, []⟩, ⟨4, [], [], []⟩] t).2.1 ∧ (stpsT [⟨1, nwN, [], []⟩, ⟨2, nwN, [], acc⟩, ⟨3, nwN, [], []⟩, ⟨5, nwN, lgN, []⟩, ⟨4, [], [], []⟩] t).2.1 < 4 then ((stpsT [⟨1, nwN, [], []⟩, ⟨2, nwN, [], acc⟩, ⟨3, nwN, [], []⟩, ⟨5, nwN, lgN, []⟩, ⟨4, [], [], []⟩] t).1.step ⟨6, nwN, [], []⟩).1 else (stpsT [⟨1, nwN, [], []⟩, ⟨2, nwN, [], acc⟩, ⟨3, nwN, [], []⟩, ⟨5, nwN, lgN, []⟩, ⟨4, [], [], []⟩] t).1), if 4 ≤ (stpsT [⟨1, nwN, [], []⟩, ⟨2, nwN, [], acc⟩, ⟨3, nwN, [], []⟩, ⟨5, nwN, lgN, []⟩, ⟨4, [], [], []⟩] t).2.1 then (k : Int) else c), (stpsT [⟨1, nwN, [], []⟩, ⟨2, nwN, [], acc⟩, ⟨3, nwN, [], []⟩, ⟨5, nwN, lgN, []⟩, ⟨4, [], [], []⟩] t).2.2)) := by
        unfold Hid rewT
        rw [HE2.out, if_pos rfl, rew_ref, N.out]
        rfl
      have LA : Hid (acc.length ≤ bulkR rs) := by unfold Hid; have := HB.out; omega
      obtain ⟨ba, bn, bc, hbv⟩ := own_sl HO.out
      subst hbv
      have HH := hide' (holdsB_own HO.out)
      clear HE HE2 HB HO HC hlt
      have I4 := hide' (sti_below IR.out (below_alloc' wr (.cells #[.int .i64 1, .string ⟨#[108, 111, 103, 46, 110, 101, 119]⟩, .string ⟨#[]⟩, .slice none 0 0, .int .i64 2, .string ⟨#[108, 111, 103, 46, 110, 101, 119]⟩, .string ⟨#[]⟩, .slice ba bn bc, .int .i64 3, .string ⟨#[108, 111, 103, 46, 110, 101, 119]⟩, .string ⟨#[]⟩, .slice none 0 0, .int .i64 5, .string ⟨#[108, 111, 103, 46, 110, 101, 119]⟩, .string ⟨#[108, 111, 103]⟩, .slice none 0 0, .int .i64 4, .string ⟨#[]⟩, .string ⟨#[]⟩, .slice none 0 0] 83)))
      have HOP := ho_lit wr [((1, nwN, [], []), .slice none 0 0), ((2, nwN, [], acc), .slice ba bn bc), ((3, nwN, [], []), .slice none 0 0), ((5, nwN, lgN, []), .slice none 0 0), ((4, [], [], []), .slice none 0 0)] 83 (fun p hp => by
        simp only [List.mem_cons, List.not_mem_nil, or_false] at hp
        rcases hp with rfl | rfl | rfl | rfl | rfl
        · exact holdsB_none _
        · exact HH.out
        · exact holdsB_none _
        · exact holdsB_none _
        · exact holdsB_none _)
      have hbk : m + bulkO [(1, nwN, [], []), (2, nwN, [], acc), (3, nwN, [], []), (5, nwN, lgN, []), (4, [], [], [])] ≤ 80000000 := by have := LA.out; have := HM.out; simp only [bulkO, lgN, nwN, List.length_cons, List.length_nil]; omega
      have KEEP := hide' (stps_keeps [(1, nwN, [], []), (2, nwN, [], acc), (3, nwN, [], []), (5, nwN, lgN, []), (4, [], [], [])] IR.out.wf IR.out.bd)
      have BB : Hid (bulkO [(1, nwN, [], []), (2, nwN, [], acc), (3, nwN, [], []), (5, nwN, lgN, []), (4, [], [], [])] ≤ bulkR rs + 200) := by unfold Hid; have := LA.out; simp only [bulkO, lgN, nwN, List.length_cons, List.length_nil]; omega
      have CS := hide' (stepsRC (S := fun k => S k ∨ k = W0.heap.size ∨ k = W0.heap.size + 1) (sti_lt I4.out HS.out) I4.out.ref I4.out.wf m I4.out.bd FL.out _ _ HOP (fun o h => by
        simp only [List.map_cons, List.map_nil, List.mem_cons, List.not_mem_nil, or_false] at h
        rcases h with rfl | rfl | rfl | rfl | rfl
        · exact ⟨(by decide : (1 : Int) ≤ 1), (by decide : (1 : Int) ≤ 6)⟩
        · exact ⟨(by decide : (1 : Int) ≤ 2), (by decide : (2 : Int) ≤ 6)⟩
        · exact ⟨(by decide : (1 : Int) ≤ 3), (by decide : (3 : Int) ≤ 6)⟩
        · exact ⟨(by decide : (1 : Int) ≤ 5), (by decide : (5 : Int) ≤ 6)⟩
        · exact ⟨(by decide : (1 : Int) ≤ 4), (by decide : (4 : Int) ≤ 6)⟩) hbk)
      obtain ⟨⟨k0, k1, k2, k3, k4, k5, k6, k7, k8, k9⟩, -⟩ := cells_ten IR.out.b0
      clear HOP hbk HH
      go_wp2_with fail
      refine CS.out.mono ?_
      rintro e w5 ⟨v', rfl, hr, hb⟩
      have hop : opsD [(1, nwN, [], []), (2, nwN, [], acc), (3, nwN, [], []), (5, nwN, lgN, []), (4, [], [], [])] = [⟨1, nwN, [], []⟩, ⟨2, nwN, [], acc⟩, ⟨3, nwN, [], []⟩, ⟨5, nwN, lgN, []⟩, ⟨4, [], [], []⟩] := rfl
      simp only [List.map_cons, List.map_nil] at hr ⊢
      rw [hop] at hr KEEP ⊢
      generalize stpsT [⟨1, nwN, [], []⟩, ⟨2, nwN, [], acc⟩, ⟨3, nwN, [], []⟩, ⟨5, nwN, lgN, []⟩, ⟨4, [], [], []⟩] t = Q at hr KEEP AD ⊢
      obtain ⟨s', nn, er⟩ := Q
      dsimp only at hr KEEP AD ⊢
      obtain ⟨⟨ra0, rn0, rc0⟩, ⟨ra1, rn1, rc1⟩, ⟨ra2, rn2, rc2⟩, ⟨ra3, rn3, rc3⟩, ⟨ra4, rn4, rc4⟩, ⟨ra6, rn6, rc6⟩, ev, -⟩ := _root_.id hr
      unfold stV at ev
      dsimp only at ev
      subst ev
      have I6 := hide' (sti_below (sti_ref I4.out hb hr KEEP.out.1 KEEP.out.2.1) (below_alloc' w5 (.cells #[.slice ra0 rn0 rc0, .slice ra1 rn1 rc1, .slice ra2 rn2 rc2, .slice ra3 rn3 rc3, .slice ra4 rn4 rc4, .int .i64 s'.room, .slice ra6 rn6 rc6, .int .i64 s'.power, .int .i64 (s'.n : Int)] 38)))
      have P6 := sti_putN I6.out [.slice ra0 rn0 rc0, .slice ra1 rn1 rc1, .slice ra2 rn2 rc2, .slice ra3 rn3 rc3, .slice ra4 rn4 rc4, .int .i64 s'.room, .slice ra6 rn6 rc6, .int .i64 s'.power, .int .i64 (s'.n : Int)] (by simp)
      simp only [putFrom, List.cons_append, List.nil_append, List.length_cons, List.length_nil, List.drop_succ_cons, List.drop_zero] at P6
      have P6H := hide' P6
      have KF := hide' KEEP.out.2.2
      have J3 : W0.heap.size ≠ W0.heap.size + 1 := by omega
      have J4 : W0.heap.size + 1 ≠ W0.heap.size := by omega
      obtain ⟨⟨p0, p1, p2, p3, p4, p5, p6, p7, p8, p9⟩, ⟨r0, r1, r2, r3, r4, r5, r6, r7, r8, r9⟩⟩ := cells_ten I6.out.b0
      clear hr hb CS KEEP I4 hop P6 I6 IR LA k0 k1 k2 k3 k4 k5 k6 k7 k8 k9
      go_upto_region 11 with fail
      generalize ((((((((((w5.alloc (.cells #[.slice ra0 rn0 rc0, .slice ra1 rn1 rc1, .slice ra2 rn2 rc2, .slice ra3 rn3 rc3, .slice ra4 rn4 rc4, .int .i64 s'.room, .slice ra6 rn6 rc6, .int .i64 s'.power, .int .i64 (s'.n : Int)] 38)).setCell ⟨W0.heap.size, 0, none⟩ (.slice ra0 rn0 rc0)).setCell ⟨W0.heap.size, 1, none⟩ (.slice ra1 rn1 rc1)).setCell ⟨W0.heap.size, 2, none⟩ (.slice ra2 rn2 rc2)).setCell ⟨W0.heap.size, 3, none⟩ (.slice ra3 rn3 rc3)).setCell ⟨W0.heap.size, 4, none⟩ (.slice ra4 rn4 rc4)).setCell ⟨W0.heap.size, 5, none⟩ (.int .i64 s'.room)).setCell ⟨W0.heap.size, 6, none⟩ (.slice ra6 rn6 rc6)).setCell ⟨W0.heap.size, 7, none⟩ (.int .i64 s'.power)).setCell ⟨W0.heap.size, 8, none⟩ (.int .i64 (s'.n : Int))) = wA at P6H ⊢
      clear p0 p1 p2 p3 p4 p5 p6 p7 p8 p9 r0 r1 r2 r3 r4 r5 r6 r7 r8 r9
      by_cases h4 : 4 ≤ nn
      · have d4 : decide ((4 : Int) ≤ (nn : Int)) = true := by simp; omega
        have d1 : decide ((1 : Int) ≤ (nn : Int)) = true := by simp; omega
        have dl : decide ((nn : Int) < 4) = false := by simp; omega
        have P7 := sti_set P6H.out 9 (by simp) (.int .i64 (k : Int))
        simp only [List.set_cons_succ, List.set_cons_zero] at P7
        have P7H := hide' P7
        obtain ⟨⟨-, -, -, -, -, -, -, -, -, q9⟩, ⟨-, -, -, -, -, -, -, -, -, t9⟩⟩ := cells_ten P6H.out.b0
        rw [if_neg (by omega), if_pos h4] at AD
        clear P7 P6H
        go_upto_region 13 with fail
        generalize (wA.setCell ⟨W0.heap.size, 9, none⟩ (.int .i64 (k : Int))) = wB at P7H ⊢
        clear q9 t9
        obtain ⟨⟨k0, k1, k2, k3, k4, k5, k6, k7, k8, k9⟩, -⟩ := cells_ten P7H.out.b0
        obtain ⟨⟨g0, g1, g2, g3, g4, g5, g6, g7, g8, g9⟩, ⟨f0, f1, f2, f3, f4, f5, f6, f7, f8, f9⟩⟩ := cells_ten P7H.out.b1
        have EN := sti_end P7H.out (us := [.slice ra0 rn0 rc0, .slice ra1 rn1 rc1, .slice ra2 rn2 rc2, .slice ra3 rn3 rc3, .slice ra4 rn4 rc4, .int .i64 s'.room, .slice ra6 rn6 rc6, .int .i64 s'.power, .int .i64 (s'.n : Int), .int .i64 (k : Int)]) rfl
        simp only [putFrom] at EN
        have ENH := hide' EN
        clear EN P7H
        go_wp2_with fail
        obtain ⟨⟨z0, z1, z2, z3, z4, z5, z6, z7, z8, z9⟩, -⟩ := cells_ten ENH.out.1
        exact bodyPost_ret (v := .tuple #[.agg #[.slice ra0 rn0 rc0, .slice ra1 rn1 rc1, .slice ra2 rn2 rc2, .slice ra3 rn3 rc3, .slice ra4 rn4 rc4, .int .i64 s'.room, .slice ra6 rn6 rc6, .int .i64 s'.power, .int .i64 (s'.n : Int), .int .i64 (k : Int)], .int .i64 er]) (by simp [results, Tryz.results13, go_sem, z0, z1, z2, z3, z4, z5, z6, z7, z8, z9]) rfl (by rw [AD.out]; exact ⟨⟨ra0, rn0, rc0⟩, ⟨ra1, rn1, rc1⟩, ⟨ra2, rn2, rc2⟩, ⟨ra3, rn3, rc3⟩, ⟨ra4, rn4, rc4⟩, ⟨ra6, rn6, rc6⟩, s', rfl, rfl, ENH.out.2.2, ENH.out.2.1⟩)
      · have d4 : decide ((4 : Int) ≤ (nn : Int)) = false := by simp; omega
        rw [if_neg h4] at AD
        by_cases h1 : 1 ≤ nn
        · have d1 : decide ((1 : Int) ≤ (nn : Int)) = true := by simp; omega
          have dl : decide ((nn : Int) < 4) = true := by simp; omega
          rw [if_pos ⟨h1, by omega⟩] at AD
          obtain ⟨⟨k0, k1, k2, k3, k4, k5, k6, k7, k8, k9⟩, -⟩ := cells_ten P6H.out.b0
          have CT := hide' (stepRC (S := fun k => S k ∨ k = W0.heap.size ∨ k = W0.heap.size + 1) (sti_lt P6H.out HS.out) P6H.out.ref P6H.out.wf (bd_mono P6H.out.bd (by have := BB.out; have := HM.out; omega)) 6 (by decide) ⟨#[108, 111, 103, 46, 110, 101, 119]⟩ ⟨#[]⟩ none 0 0 [] (holdsB_none _) (by decide) (by decide) (by decide) (by rw [KF.out]; exact FL.out))
          have e6 : (⟨6, (⟨#[108, 111, 103, 46, 110, 101, 119]⟩ : ByteArray).data.toList, (⟨#[]⟩ : ByteArray).data.toList, []⟩ : DOp) = ⟨6, nwN, [], []⟩ := rfl
          rw [e6] at CT
          have WF2 := hide' (wf_step P6H.out.wf ⟨6, nwN, [], []⟩)
          have BD2 := hide' (bd_step P6H.out.bd ⟨6, nwN, [], []⟩)
          clear e6
          go_wp2_with fail
          refine CT.out.mono ?_
          rintro e w8 ⟨v', rfl, hr, hb⟩
          obtain ⟨s'', hs''⟩ : ∃ s'', s'' = (s'.step ⟨6, nwN, [], []⟩).1 := ⟨_, rfl⟩
          rw [← hs''] at hr AD WF2 BD2
          generalize (s'.step ⟨6, nwN, [], []⟩).2 = er6
          obtain ⟨⟨qa0, qn0, qc0⟩, ⟨qa1, qn1, qc1⟩, ⟨qa2, qn2, qc2⟩, ⟨qa3, qn3, qc3⟩, ⟨qa4, qn4, qc4⟩, ⟨qa6, qn6, qc6⟩, ev, -⟩ := _root_.id hr
          unfold stV at ev
          dsimp only at ev
          subst ev
          have I8 := hide' (sti_below (sti_ref P6H.out hb hr WF2.out BD2.out) (below_alloc' w8 (.cells #[.slice qa0 qn0 qc0, .slice qa1 qn1 qc1, .slice qa2 qn2 qc2, .slice qa3 qn3 qc3, .slice qa4 qn4 qc4, .int .i64 s''.room, .slice qa6 qn6 qc6, .int .i64 s''.power, .int .i64 (s''.n : Int)] 38)))
          have P8 := sti_putN I8.out [.slice qa0 qn0 qc0, .slice qa1 qn1 qc1, .slice qa2 qn2 qc2, .slice qa3 qn3 qc3, .slice qa4 qn4 qc4, .int .i64 s''.room, .slice qa6 qn6 qc6, .int .i64 s''.power, .int .i64 (s''.n : Int)] (by simp)
          simp only [putFrom, List.cons_append, List.nil_append, List.length_cons, List.length_nil, List.drop_succ_cons, List.drop_zero] at P8
          have P8H := hide' P8
          obtain ⟨⟨p0, p1, p2, p3, p4, p5, p6, p7, p8, p9⟩, ⟨r0, r1, r2, r3, r4, r5, r6, r7, r8, r9⟩⟩ := cells_ten I8.out.b0
          clear hr hb CT P8 I8 P6H hs'' k0 k1 k2 k3 k4 k5 k6 k7 k8 k9 WF2 BD2
          go_upto_region 16 with fail
          generalize ((((((((((w8.alloc (.cells #[.slice qa0 qn0 qc0, .slice qa1 qn1 qc1, .slice qa2 qn2 qc2, .slice qa3 qn3 qc3, .slice qa4 qn4 qc4, .int .i64 s''.room, .slice qa6 qn6 qc6, .int .i64 s''.power, .int .i64 (s''.n : Int)] 38)).setCell ⟨W0.heap.size, 0, none⟩ (.slice qa0 qn0 qc0)).setCell ⟨W0.heap.size, 1, none⟩ (.slice qa1 qn1 qc1)).setCell ⟨W0.heap.size, 2, none⟩ (.slice qa2 qn2 qc2)).setCell ⟨W0.heap.size, 3, none⟩ (.slice qa3 qn3 qc3)).setCell ⟨W0.heap.size, 4, none⟩ (.slice qa4 qn4 qc4)).setCell ⟨W0.heap.size, 5, none⟩ (.int .i64 s''.room)).setCell ⟨W0.heap.size, 6, none⟩ (.slice qa6 qn6 qc6)).setCell ⟨W0.heap.size, 7, none⟩ (.int .i64 s''.power)).setCell ⟨W0.heap.size, 8, none⟩ (.int .i64 (s''.n : Int))) = wC at P8H ⊢
          clear p0 p1 p2 p3 p4 p5 p6 p7 p8 p9 r0 r1 r2 r3 r4 r5 r6 r7 r8 r9
          obtain ⟨⟨k0, k1, k2, k3, k4, k5, k6, k7, k8, k9⟩, -⟩ := cells_ten P8H.out.b0
          obtain ⟨⟨g0, g1, g2, g3, g4, g5, g6, g7, g8, g9⟩, ⟨f0, f1, f2, f3, f4, f5, f6, f7, f8, f9⟩⟩ := cells_ten P8H.out.b1
          have EN := sti_end P8H.out (us := [.slice qa0 qn0 qc0, .slice qa1 qn1 qc1, .slice qa2 qn2 qc2, .slice qa3 qn3 qc3, .slice qa4 qn4 qc4, .int .i64 s''.room, .slice qa6 qn6 qc6, .int .i64 s''.power, .int .i64 (s''.n : Int), .int .i64 c]) rfl
          simp only [putFrom] at EN
          have ENH := hide' EN
          clear EN P8H
          go_wp2_with fail
          obtain ⟨⟨z0, z1, z2, z3, z4, z5, z6, z7, z8, z9⟩, -⟩ := cells_ten ENH.out.1
          exact bodyPost_ret (v := .tuple #[.agg #[.slice qa0 qn0 qc0, .slice qa1 qn1 qc1, .slice qa2 qn2 qc2, .slice qa3 qn3 qc3, .slice qa4 qn4 qc4, .int .i64 s''.room, .slice qa6 qn6 qc6, .int .i64 s''.power, .int .i64 (s''.n : Int), .int .i64 c], .int .i64 er]) (by simp [results, Tryz.results13, go_sem, z0, z1, z2, z3, z4, z5, z6, z7, z8, z9]) rfl (by rw [AD.out]; exact ⟨⟨qa0, qn0, qc0⟩, ⟨qa1, qn1, qc1⟩, ⟨qa2, qn2, qc2⟩, ⟨qa3, qn3, qc3⟩, ⟨qa4, qn4, qc4⟩, ⟨qa6, qn6, qc6⟩, s'', rfl, rfl, ENH.out.2.2, ENH.out.2.1⟩)
        · have d1 : decide ((1 : Int) ≤ (nn : Int)) = false := by simp; omega
          rw [if_neg (by omega)] at AD
          obtain ⟨⟨k0, k1, k2, k3, k4, k5, k6, k7, k8, k9⟩, -⟩ := cells_ten P6H.out.b0
          obtain ⟨⟨g0, g1, g2, g3, g4, g5, g6, g7, g8, g9⟩, ⟨f0, f1, f2, f3, f4, f5, f6, f7, f8, f9⟩⟩ := cells_ten P6H.out.b1
          have EN := sti_end P6H.out (us := [.slice ra0 rn0 rc0, .slice ra1 rn1 rc1, .slice ra2 rn2 rc2, .slice ra3 rn3 rc3, .slice ra4 rn4 rc4, .int .i64 s'.room, .slice ra6 rn6 rc6, .int .i64 s'.power, .int .i64 (s'.n : Int), .int .i64 c]) rfl
          simp only [putFrom] at EN
          have ENH := hide' EN
          clear EN P6H
          go_wp2_with fail
          obtain ⟨⟨z0, z1, z2, z3, z4, z5, z6, z7, z8, z9⟩, -⟩ := cells_ten ENH.out.1
          exact bodyPost_ret (v := .tuple #[.agg #[.slice ra0 rn0 rc0, .slice ra1 rn1 rc1, .slice ra2 rn2 rc2, .slice ra3 rn3 rc3, .slice ra4 rn4 rc4, .int .i64 s'.room, .slice ra6 rn6 rc6, .int .i64 s'.power, .int .i64 (s'.n : Int), .int .i64 c], .int .i64 er]) (by simp [results, Tryz.results13, go_sem, z0, z1, z2, z3, z4, z5, z6, z7, z8, z9]) rfl (by rw [AD.out]; exact ⟨⟨ra0, rn0, rc0⟩, ⟨ra1, rn1, rc1⟩, ⟨ra2, rn2, rc2⟩, ⟨ra3, rn3, rc3⟩, ⟨ra4, rn4, rc4⟩, ⟨ra6, rn6, rc6⟩, s', rfl, rfl, ENH.out.2.2, ENH.out.2.1⟩)
end Go.Proofs.YtijnjgnckipghaaGreat
