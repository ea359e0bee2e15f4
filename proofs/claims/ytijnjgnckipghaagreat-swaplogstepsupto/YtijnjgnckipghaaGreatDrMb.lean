/- The contract of the document's Left, one part. -/
import Derived.Test.YtijnjgnckipghaaGreatBdL
namespace Go.Proofs.YtijnjgnckipghaaGreat
open Go.RowKit
set_option maxRecDepth 20000 in
set_option maxHeartbeats 16000000 in
theorem leftRb {w : World} {x0 x1 x2 x3 x4 x6 : Sl} {s : Dk} (h : RefV w x0 x1 x2 x3 x4 x6 s) (hw : Wf s) (hB : Bd 80000000 s) (k : Int) (kv : Value) (keep : List Int) (hk : HoldsI w kv keep) (hkl : keep.length ≤ 1000000000) (hkb : ∀ z ∈ keep, -9223372036854775808 ≤ z ∧ z ≤ 9223372036854775807) (hll : (leftNames s k).length ≤ 200000000) (PK0 : ∃ (L : NL) (b o j : Nat) (la : Option Addr) (ln lc : Nat), L = leftNames s k ∧ x2.a = some ⟨b, o, none⟩ ∧ b < w.heap.size ∧ w.cell? ⟨b, o + j, none⟩ = some (.slice la ln lc) ∧ HoldsNm w (.slice la ln lc) L ∧ j < x2.n ∧ ((decide ((x2.n : Int) < k) = false ∧ decide (0 < k) = true ∧ IntKind.i64.wrap (k - 1) = (j : Int)) ∨ (decide ((x2.n : Int) < k) = true ∧ decide ((0 : Int) < (x2.n : Int)) = true ∧ decide (0 < x2.n) = true ∧ IntKind.i64.wrap ((x2.n : Int) - 1) = (j : Int)))) :
    Calls Tryz.prog 39 #[stV x0 x1 x2 x3 x4 x6 s.room s.power s.n, .agg #[.int .i64 k, kv]] w fun e w' => ∃ u, e = .returned u ∧ HoldsFi w' u (s.left k keep) ∧ Below w.heap.size w w' := by
  obtain ⟨a0, n0, c0⟩ := x0
  obtain ⟨a1, n1, c1⟩ := x1
  obtain ⟨a2, n2, c2⟩ := x2
  obtain ⟨a3, n3, c3⟩ := x3
  obtain ⟨a4, n4, c4⟩ := x4
  obtain ⟨a6, n6, c6⟩ := x6
  unfold stV
  dsimp only at PK0 ⊢
  obtain ⟨ka, kc, hkv, _⟩ := id hk
  subst hkv
  rename_i rr
  obtain ⟨nk, hnk⟩ : ∃ n, n = keep.length := ⟨_, rfl⟩
  have HNK := hide' hnk
  have HK0 := hk
  rw [← hnk] at HK0 ⊢
  have HK := hide' HK0
  have HR := hide' h
  have HW := hide' hw
  have HB := hide' hB
  have HKB := hide' hkb
  have hn2 : n2 ≤ 80000000 := by
    obtain ⟨ao, c, e⟩ := heldL_slice h.pend
    have e2 : n2 = s.pend.length := by simp only [Sl.v, Value.slice.injEq] at e; exact e.2.1
    have := hB.2.2.2.2.1
    omega
  have BX := hide' (box9 w (.slice a0 n0 c0) (.slice a1 n1 c1) (.slice a2 n2 c2) (.slice a3 n3 c3) (.slice a4 n4 c4) (.int .i64 s.room) (.slice a6 n6 c6) (.int .i64 s.power) (.int .i64 (s.n : Int)) 38)
  have PK := hide' PK0
  have ZX : Hid ((w.alloc (.cells #[.slice a0 n0 c0, .slice a1 n1 c1, .slice a2 n2 c2, .slice a3 n3 c3, .slice a4 n4 c4, .int .i64 s.room, .slice a6 n6 c6, .int .i64 s.power, .int .i64 (s.n : Int)] 38)).heap.size = w.heap.size + 1) := by unfold Hid; simp
  have K2 : Hid (Blk (w.heap.size + 1) ((w.alloc (.cells #[.slice a0 n0 c0, .slice a1 n1 c1, .slice a2 n2 c2, .slice a3 n3 c3, .slice a4 n4 c4, .int .i64 s.room, .slice a6 n6 c6, .int .i64 s.power, .int .i64 (s.n : Int)] 38)).alloc (.cells #[.int .i64 k, .slice ka nk kc] 28)) [.int .i64 k, .slice ka nk kc]) := by
    have h9 := cells_lit (w.alloc (.cells #[.slice a0 n0 c0, .slice a1 n1 c1, .slice a2 n2 c2, .slice a3 n3 c3, .slice a4 n4 c4, .int .i64 s.room, .slice a6 n6 c6, .int .i64 s.power, .int .i64 (s.n : Int)] 38)) #[.int .i64 k, .slice ka nk kc] 28
    rw [ZX.out] at h9
    exact h9
  have K9 : Hid (Blk w.heap.size ((w.alloc (.cells #[.slice a0 n0 c0, .slice a1 n1 c1, .slice a2 n2 c2, .slice a3 n3 c3, .slice a4 n4 c4, .int .i64 s.room, .slice a6 n6 c6, .int .i64 s.power, .int .i64 (s.n : Int)] 38)).alloc (.cells #[.int .i64 k, .slice ka nk kc] 28)) [.slice a0 n0 c0, .slice a1 n1 c1, .slice a2 n2 c2, .slice a3 n3 c3, .slice a4 n4 c4, .int .i64 s.room, .slice a6 n6 c6, .int .i64 s.power, .int .i64 (s.n : Int)]) := cells_below BX.out.1 (below_alloc' _ _)
  have BW : Hid (Below w.heap.size w ((w.alloc (.cells #[.slice a0 n0 c0, .slice a1 n1 c1, .slice a2 n2 c2, .slice a3 n3 c3, .slice a4 n4 c4, .int .i64 s.room, .slice a6 n6 c6, .int .i64 s.power, .int .i64 (s.n : Int)] 38)).alloc (.cells #[.int .i64 k, .slice ka nk kc] 28))) := BX.out.2.trans ((below_alloc' _ _).mono BX.out.2.size)
  have Z2 : Hid (((w.alloc (.cells #[.slice a0 n0 c0, .slice a1 n1 c1, .slice a2 n2 c2, .slice a3 n3 c3, .slice a4 n4 c4, .int .i64 s.room, .slice a6 n6 c6, .int .i64 s.power, .int .i64 (s.n : Int)] 38)).alloc (.cells #[.int .i64 k, .slice ka nk kc] 28)).heap.size = w.heap.size + 1 + 1) := by unfold Hid; simp
  clear PK0 rr hk HK0 h hw hB hkb hnk BX
  obtain ⟨L, b2, o2, j2, la, ln, lc, hL, ea2, hb2, y2, hN, hj2, hc⟩ := PK.out
  · clear PK
    replace ea2 : a2 = some ⟨b2, o2, none⟩ := ea2
    subst ea2
    have y2b := (BW.out.cell (p := ⟨b2, o2 + j2, none⟩) hb2).trans y2
    replace hj2 : j2 < n2 := hj2
    have qj0 : (0 : Int) ≤ (j2 : Int) := by omega
    have qj1 : (j2 : Int) < (n2 : Int) := by omega
    have HN := hide' hN
    have HL := hide' hL
    have hlnL : ln = L.length := (nm_open hN).1
    have HLN := hide' hlnL
    have hl8 : ln ≤ 200000000 := by rw [hlnL, hL]; exact hll
    clear hN hL hlnL hll
    rcases hc with ⟨q1, q2, q3⟩ | ⟨q1, q2, q3, q4⟩
    all_goals
      go_enter Tryz.func39, Tryz.ntmps39
      go_wp2_with fail
      generalize (w.alloc (.cells #[.slice a0 n0 c0, .slice a1 n1 c1, .slice (some ⟨b2, o2, none⟩) n2 c2, .slice a3 n3 c3, .slice a4 n4 c4, .int .i64 s.room, .slice a6 n6 c6, .int .i64 s.power, .int .i64 (s.n : Int)] 38)).alloc (.cells #[.int .i64 k, .slice ka nk kc] 28) = W2 at K9 K2 BW Z2 ⊢
      go_loopw [7, 8, 9, 10, 11] (fun u i _ _ _ wr => ∃ (m : Nat) (xa : Option Addr) (xc : Nat), m ≤ ln ∧ i = .int .i64 m ∧ u = .slice xa m xc ∧ Hid (FilW W2.heap.size (.slice xa m xc) (filesOf s keep (L.take m)) wr) ∧ Hid (Below W2.heap.size W2 wr)) (fun _ i _ _ _ _ => ln - (intOf i).toNat)
      case atStart => exact ⟨0, _, _, by omega, rfl, rfl, by have h9 := fil_empty W2; rw [Z2.out] at h9; unfold Hid; rw [Z2.out]; exact h9, below_alloc' W2 _⟩
      case round =>
        obtain ⟨m, xa, xc, hm, rfl, rfl, HF, HBl⟩ := hrel
        have BR := hide' (BW.out.trans (HBl.out.mono BW.out.size))
        by_cases hlt : m < ln
        · have hmL : m < L.length := by rw [← HLN.out]; exact hlt
          obtain ⟨-, -, -, hcl⟩ := nm_open HN.out
          obtain ⟨lb, lo, rfl, hlb, hcell⟩ := hcl (by omega)
          obtain ⟨y1, y5⟩ := hcell m hmL
          have hno : (L[m]'hmL).2 < s.data.length := ((leftNames_wf HW.out k).2 _ (by rw [← HL.out]; exact List.getElem_mem hmL)).1
          have FS := hide' (files_step s keep L m hmL)
          obtain ⟨e4, hc4⟩ := i_at HR.out.firm
          rw [firm_len HW.out] at e4
          replace e4 : n4 = s.data.length := e4
          have hn4 : 0 < n4 := by omega
          obtain ⟨b4, o4, ea4, hb4, hcell4⟩ := hc4 hn4
          replace ea4 : a4 = some ⟨b4, o4, none⟩ := ea4
          have y4 := hcell4 (L[m]'hmL).2 (by rw [firm_len HW.out]; exact hno)
          have h9 : (L[m]'hmL).2 < s.firm.length := by rw [HW.out.len]; exact hno
          have ef : (s.firm.map (fun n : Nat => (n : Int)))[(L[m]'hmL).2]'(by rw [firm_len HW.out]; exact hno) = ((s.firm.getD (L[m]'hmL).2 0 : Nat) : Int) := by simp [List.getD, h9]
          rw [ef] at y4
          obtain ⟨e3, b3, o3, ea3, hb3, ua, un, uc, y3, hB3⟩ := heldL_at HR.out.data _ hno
          replace ea3 : a3 = some ⟨b3, o3, none⟩ := ea3
          replace e3 : n3 = s.data.length := e3
          rw [show s.data[(L[m]'hmL).2]'hno = s.data.getD (L[m]'hmL).2 [] by simp [List.getD, hno]] at hB3
          have hun : un = (s.data.getD (L[m]'hmL).2 []).length := by obtain ⟨_, _, e9, _⟩ := id hB3; simp only [Value.slice.injEq] at e9; exact e9.2.1
          have hfl : s.firm.getD (L[m]'hmL).2 0 ≤ un := by rw [hun]; exact HW.out.firm _
          have hul : un ≤ 80000000 := by rw [hun]; exact HB.out.2.2.2.2.2 _
          subst ea3 ea4
          obtain ⟨NL, hNL⟩ : ∃ n, n = leftLen s keep (L[m]'hmL).2 := ⟨_, rfl⟩
          have HNL := hide' hNL
          have hnle : NL ≤ un := by rw [hNL, hun]; unfold leftLen; exact Nat.min_le_left _ _
          obtain ⟨pa, pc, hsl, hpB⟩ := takeB_any w ua un uc _ hB3 hun NL hnle
          have HPB : Hid (HoldsB w (.slice pa NL pc) ((s.data.getD (L[m]'hmL).2 []).take (leftLen s keep (L[m]'hmL).2))) := by unfold Hid; rw [← hNL]; exact hpB
          obtain ⟨FV, hFV⟩ : ∃ n, n = s.firm.getD (L[m]'hmL).2 0 := ⟨_, rfl⟩
          rw [← hFV] at y4 hfl
          have y1r := (BR.out.cell (p := ⟨lb, lo + m * 2, none⟩) hlb).trans y1
          have y5r := (BR.out.cell (p := ⟨lb, lo + m * 2 + 1, none⟩) hlb).trans y5
          have y4r := (BR.out.cell (p := ⟨b4, o4 + (L[m]'hmL).2, none⟩) hb4).trans y4
          have y3r := (BR.out.cell (p := ⟨b3, o3 + (L[m]'hmL).2, none⟩) hb3).trans y3
          unfold S at y1r
          obtain ⟨k0, k1, k2, k3, k4, k5, k6, k7, k8⟩ := cells_9 (cells_below K9.out HBl.out)
          obtain ⟨⟨f0, f1⟩, _⟩ := cells_2 (cells_below K2.out HBl.out)
          have qn3 : (((L[m]'hmL).2 : Nat) : Int) < (n3 : Int) := by omega
          have qn4 : (((L[m]'hmL).2 : Nat) : Int) < (n4 : Int) := by omega
          have qn0 : (0 : Int) ≤ (((L[m]'hmL).2 : Nat) : Int) := by omega
          have qm0 : (0 : Int) ≤ (m : Int) := by omega
          have KEEP : (decide ((((L[m]'hmL).2 : Nat) : Int) < (nk : Int)) = false ∧ NL = FV) ∨ (∃ kb ko z, ka = some ⟨kb, ko, none⟩ ∧ wr.cell? ⟨kb, ko + (L[m]'hmL).2, none⟩ = some (.int .i64 z) ∧ (((L[m]'hmL).2 : Nat) : Int) < (nk : Int) ∧ decide ((((L[m]'hmL).2 : Nat) : Int) < (nk : Int)) = true ∧ ((decide (0 < z) = false ∧ NL = FV) ∨ (decide (0 < z) = true ∧ ((decide (z < (un : Int) - (FV : Int)) = true ∧ IntKind.i64.wrap ((FV : Int) + z) = (NL : Int)) ∨ (decide (z < (un : Int) - (FV : Int)) = false ∧ IntKind.i64.wrap ((FV : Int) + ((un : Int) - (FV : Int))) = (NL : Int) ∧ IntKind.i64.wrap (un : Int) = (NL : Int)))))) := by
            obtain ⟨ek, hck⟩ := i_at HK.out
            by_cases hkk : (L[m]'hmL).2 < nk
            · right
              obtain ⟨kb, ko, ek2, hkb2, hkc⟩ := hck (by omega)
              have hk9 : (L[m]'hmL).2 < keep.length := by omega
              have ez : keep.getD (L[m]'hmL).2 0 = keep[(L[m]'hmL).2]'hk9 := by simp [List.getD, hk9]
              have hzr := HKB.out _ (List.getElem_mem hk9)
              refine ⟨kb, ko, keep[(L[m]'hmL).2]'hk9, ek2, (BR.out.cell (p := ⟨kb, ko + (L[m]'hmL).2, none⟩) hkb2).trans (hkc _ hk9), by omega, by simp; omega, ?_⟩
              have eN : NL = min un (FV + (keep[(L[m]'hmL).2]'hk9).toNat) := by rw [hNL, hun, hFV, ← ez]; rfl
              generalize keep[(L[m]'hmL).2]'hk9 = z at hzr eN
              by_cases hz : 0 < z
              · right
                refine ⟨by simpa using hz, ?_⟩
                by_cases hm2 : z < (un : Int) - (FV : Int)
                · left; exact ⟨by simpa using hm2, by rw [wrap_small _ (by omega) (by omega)]; omega⟩
                · right; exact ⟨by simpa using hm2, by rw [wrap_small _ (by omega) (by omega)]; omega, by rw [wrap_small _ (by omega) (by omega)]; omega⟩
              · left; exact ⟨by simpa using hz, by omega⟩
            · left
              have ez : keep.getD (L[m]'hmL).2 0 = 0 := by simp [List.getD, List.getElem?_eq_none (show keep.length ≤ (L[m]'hmL).2 by omega)]
              exact ⟨by simp; omega, by rw [hNL, hFV]; exact ll_firm HW.out keep _ (by rw [ez]; exact Int.le_refl _)⟩
          have qsub : IntKind.i64.wrap ((un : Int) - (FV : Int)) = (un : Int) - (FV : Int) := wrap_small _ (by omega) (by omega)
          obtain ⟨yn, hyn⟩ : ∃ y : ByteArray, y = ⟨((L[m]'hmL).1).toArray⟩ := ⟨_, rfl⟩
          have XY : Hid (S (L[m]'hmL).1 = .string yn) := by unfold Hid S; rw [hyn]
          rw [← hyn] at y1r
          have K3 : Hid (∀ Wx, Below W2.heap.size W2 Wx → Wx.cell? ⟨lb, lo + m * 2, none⟩ = some (.string yn) ∧ Wx.cell? ⟨w.heap.size, 3, none⟩ = some (.slice (some ⟨b3, o3, none⟩) n3 c3) ∧ Wx.cell? ⟨b3, o3 + (L[m]'hmL).2, none⟩ = some (.slice ua un uc)) := fun Wx hb => by
            have hbw := BW.out.trans (hb.mono BW.out.size)
            refine ⟨?_, (cells_9 (cells_below K9.out hb)).2.2.2.1, (hbw.cell (p := ⟨b3, o3 + (L[m]'hmL).2, none⟩) hb3).trans y3⟩
            rw [hyn]
            exact (hbw.cell (p := ⟨lb, lo + m * 2, none⟩) hlb).trans y1
          have CC : Hid (∀ Wx, Below wr.heap.size wr Wx → Calls Tryz.prog 23 #[.slice pa NL pc] Wx fun e w' => ∃ da dl dc, e = .returned (.slice da dl dc) ∧ Hid (Below wr.heap.size wr w' ∧ HoldsB (mask (fun x => x < wr.heap.size) w') (.slice da dl dc) ((s.data.getD (L[m]'hmL).2 []).take (leftLen s keep (L[m]'hmL).2))) ∧ w'.cell? ⟨lb, lo + m * 2, none⟩ = some (.string yn) ∧ w'.cell? ⟨w.heap.size, 3, none⟩ = some (.slice (some ⟨b3, o3, none⟩) n3 c3) ∧ w'.cell? ⟨b3, o3 + (L[m]'hmL).2, none⟩ = some (.slice ua un uc)) := fun Wx hb => by
            refine (copyB _ _ Wx (holdsB_mono HPB.out (BR.out.trans (hb.mono BR.out.size))) (by rw [List.length_take]; omega)).mono ?_
            rintro e w' ⟨u, rfl, ho⟩
            obtain ⟨da, dc, hu, _⟩ := holdsB_own ho
            have hb2 := hb.trans (ho.2.mono hb.size)
            refine ⟨da, _, dc, by rw [hu], ⟨hb2, ?_⟩, K3.out w' (HBl.out.trans (hb2.mono HBl.out.size))⟩
            rw [← hu]
            exact own_mask ho hb.size
          obtain ⟨ps, p1, p2, p3⟩ := HF.out
          have e9 : ps.length = m := by rw [p2]; unfold filesOf; rw [List.length_map, List.length_take]; omega
          have P1 := hide' p1
          have P23 := hide' (And.intro p2 p3)
          have E9 := hide' e9
          generalize (L[m]'hmL).1 = nmj at FS XY
          generalize (s.data.getD (L[m]'hmL).2 []).take (leftLen s keep (L[m]'hmL).2) = dj at FS CC
          have APP : Hid (∀ (wl : World) (dv : Value), Below wr.heap.size wr wl → (wl.alloc (.cells #[.string yn, dv] 69)).ownsRow W2.heap.size 69 2 (.slice xa m xc) m (cellsFi ps)) := fun wl dv hb => by
            have h0 := row_below (row_below P1.out hb) (below_alloc' wl (.cells #[.string yn, dv] 69))
            rw [E9.out] at h0
            exact h0
          have HS3 : Hid (∀ wl : World, Below wr.heap.size wr wl → W2.heap.size ≤ wl.heap.size) := fun wl hb => Nat.le_trans HBl.out.size hb.size
          have FIN : Hid (∀ (wl w6 : World) (dv : Value) (gb gc : Nat), Below wr.heap.size wr wl → HoldsB (mask (fun x => x < wr.heap.size) wl) dv dj → w6.ownsRow W2.heap.size 69 2 (.slice (some ⟨gb, 0, none⟩) (m + 1) gc) (m + 1) (cellsFi ps ++ [.string yn, dv]) → (wl.alloc (.cells #[.string yn, dv] 69)).grownBy w6 (Value.slice xa m xc).ownBlock → ((Value.slice xa m xc).ownBlock = some gb ∨ gb = wl.heap.size + 1) → FilW W2.heap.size (.slice (some ⟨gb, 0, none⟩) (m + 1) gc) (filesOf s keep (L.take (m + 1))) w6 ∧ Below W2.heap.size W2 w6) := by
            intro wl w6 dv gb gc hb hd hr hg hat
            have ba := below_alloc' wl (.cells #[.string yn, dv] 69)
            have hbx := hb.trans (ba.mono hb.size)
            have za : (wl.alloc (.cells #[.string yn, dv] 69)).heap.size = wl.heap.size + 1 := by simp
            have sub1 : Sub (mask (fun k => k < W2.heap.size ∨ (Value.slice xa m xc).ownBlock = some k) wr) (mask (fun k => k < W2.heap.size ∨ (Value.slice xa m xc).ownBlock = some k) (wl.alloc (.cells #[.string yn, dv] 69))) := off_mask (off_of hbx) (fun _ hk => .inl hk)
            have row1 := row_below P1.out hbx
            have hvb : ∀ k, (Value.slice xa m xc).ownBlock = some k → k < wr.heap.size := fun k e => (P1.out.lt k e).2
            have hd2 : HoldsB (mask (fun k => k < W2.heap.size ∨ (Value.slice xa m xc).ownBlock = some k) (wl.alloc (.cells #[.string yn, dv] 69))) dv dj := by
              refine holdsB_sub ?_ hd
              refine Sub.trans (mask_mono (S := fun k => k < W2.heap.size ∨ (Value.slice xa m xc).ownBlock = some k) (fun k hk => ?_)) (off_mask (off_of ba) (fun _ hk => .inl hk))
              rcases hk with hk | hk
              · have := HBl.out.size; omega
              · exact hvb k hk
            have fr := fil_app (nm := nmj) (d := dj) hd2 ps ⟨row1, P23.out.1, fun i p f e1 e2 => by obtain ⟨x1, x2⟩ := P23.out.2 i p f e1 e2; exact ⟨x1, holdsB_sub sub1 x2⟩⟩ (g := gb) (cap := gc) (by rw [E9.out, XY.out]; exact hr) hg (by rw [za]; exact hat)
            rw [E9.out, ← FS.out] at fr
            refine ⟨fr, ?_⟩
            have h0 := HBl.out.trans (hbx.mono HBl.out.size)
            exact Below.grown h0 hg (by have := HBl.out.size; have := hbx.size; omega) (fun k e => (P1.out.lt k e).1)
          obtain ⟨z1, z2, z3⟩ := K3.out wr HBl.out
          rcases KEEP with ⟨q5, eNL⟩ | ⟨kb, ko, z, hka, yk, qk, qkb, ⟨qz, eNL⟩ | ⟨qz, ⟨qm, qw⟩ | ⟨qm, qw, qw2⟩⟩⟩
          · subst eNL
            have q6 : ¬ (L[m]'hmL).2 < nk := by simp only [decide_eq_false_iff_not] at q5; omega
            have q7 : decide ((L[m]'hmL).2 < nk) = false := decide_eq_false q6
            clear hNL hFV hun y1 y5 y4 y3 hB3 hpB p1 p2 p3 e9 hcell hcell4 hcl hc4 e3 e4 ef hyn h9
            go_wp2_with fail
            all_goals first | (exfalso; omega) | skip
            go_region_held_law (fun w' => w'.cell? ⟨lb, lo + m * 2, none⟩ = some (.string yn) ∧ w'.cell? ⟨w.heap.size, 3, none⟩ = some (.slice (some ⟨b3, o3, none⟩) n3 c3) ∧ w'.cell? ⟨b3, o3 + (L[m]'hmL).2, none⟩ = some (.slice ua un uc)) (go_keep)
              (first
                | (go_at_call 23; refine (CC.out _ ?_).mono ?_; (first | exact (Below.refl _ _).drew | exact Below.refl _ _); rintro e w5 ⟨da, dl, dc, rfl, B5, l5, m5, n5⟩)
                | (refine step_appFi (by rfl) (.tmp 85) (.tmp 100) (by rfl) W2.heap.size (.slice xa m xc) m ps (by rfl) (APP.out w5 _ B5.out.1) (by rfl) rfl (by omega) (HS3.out w5 B5.out.1) ?_; intro gb gc w6 r6 g6 a6; have FR := hide' (FIN.out w5 w6 _ gb gc B5.out.1 B5.out.2 r6 g6 a6); obtain ⟨z6, z7, z8⟩ := K3.out w6 FR.out.2; clear r6 g6 a6))
            all_goals
              go_wp2_with fail
              go_roundw
              case rel => first | exact ⟨m + 1, _, _, by omega, by go_num, rfl, FR.out.1, FR.out.2⟩ | exact ⟨_, m + 1, _, _, by omega, by go_num, rfl, FR.out.1, FR.out.2⟩
              case measure => simp [intOf]; omega
          · subst eNL hka
            clear hNL hFV hun y1 y5 y4 y3 hB3 hpB p1 p2 p3 e9 hcell hcell4 hcl hc4 e3 e4 ef hyn h9
            go_wp2_with fail
            go_region_held_law (fun w' => w'.cell? ⟨lb, lo + m * 2, none⟩ = some (.string yn) ∧ w'.cell? ⟨w.heap.size, 3, none⟩ = some (.slice (some ⟨b3, o3, none⟩) n3 c3) ∧ w'.cell? ⟨b3, o3 + (L[m]'hmL).2, none⟩ = some (.slice ua un uc)) (go_keep)
              (first
                | (go_at_call 23; refine (CC.out _ ?_).mono ?_; (first | exact (Below.refl _ _).drew | exact Below.refl _ _); rintro e w5 ⟨da, dl, dc, rfl, B5, l5, m5, n5⟩)
                | (refine step_appFi (by rfl) (.tmp 85) (.tmp 100) (by rfl) W2.heap.size (.slice xa m xc) m ps (by rfl) (APP.out w5 _ B5.out.1) (by rfl) rfl (by omega) (HS3.out w5 B5.out.1) ?_; intro gb gc w6 r6 g6 a6; have FR := hide' (FIN.out w5 w6 _ gb gc B5.out.1 B5.out.2 r6 g6 a6); obtain ⟨z6, z7, z8⟩ := K3.out w6 FR.out.2; clear r6 g6 a6))
            all_goals
              go_wp2_with fail
              go_roundw
              case rel => first | exact ⟨m + 1, _, _, by omega, by go_num, rfl, FR.out.1, FR.out.2⟩ | exact ⟨_, m + 1, _, _, by omega, by go_num, rfl, FR.out.1, FR.out.2⟩
              case measure => simp [intOf]; omega
          · subst hka
            clear hNL hFV hun y1 y5 y4 y3 hB3 hpB p1 p2 p3 e9 hcell hcell4 hcl hc4 e3 e4 ef hyn h9
            go_wp2_with fail
            go_region_held_law (fun w' => w'.cell? ⟨lb, lo + m * 2, none⟩ = some (.string yn) ∧ w'.cell? ⟨w.heap.size, 3, none⟩ = some (.slice (some ⟨b3, o3, none⟩) n3 c3) ∧ w'.cell? ⟨b3, o3 + (L[m]'hmL).2, none⟩ = some (.slice ua un uc)) (go_keep)
              (first
                | (go_at_call 23; refine (CC.out _ ?_).mono ?_; (first | exact (Below.refl _ _).drew | exact Below.refl _ _); rintro e w5 ⟨da, dl, dc, rfl, B5, l5, m5, n5⟩)
                | (refine step_appFi (by rfl) (.tmp 85) (.tmp 100) (by rfl) W2.heap.size (.slice xa m xc) m ps (by rfl) (APP.out w5 _ B5.out.1) (by rfl) rfl (by omega) (HS3.out w5 B5.out.1) ?_; intro gb gc w6 r6 g6 a6; have FR := hide' (FIN.out w5 w6 _ gb gc B5.out.1 B5.out.2 r6 g6 a6); obtain ⟨z6, z7, z8⟩ := K3.out w6 FR.out.2; clear r6 g6 a6))
            all_goals
              go_wp2_with fail
              go_roundw
              case rel => first | exact ⟨m + 1, _, _, by omega, by go_num, rfl, FR.out.1, FR.out.2⟩ | exact ⟨_, m + 1, _, _, by omega, by go_num, rfl, FR.out.1, FR.out.2⟩
              case measure => simp [intOf]; omega
          · subst hka
            clear hNL hFV hun y1 y5 y4 y3 hB3 hpB p1 p2 p3 e9 hcell hcell4 hcl hc4 e3 e4 ef hyn h9
            go_wp2_with fail
            go_region_held_law (fun w' => w'.cell? ⟨lb, lo + m * 2, none⟩ = some (.string yn) ∧ w'.cell? ⟨w.heap.size, 3, none⟩ = some (.slice (some ⟨b3, o3, none⟩) n3 c3) ∧ w'.cell? ⟨b3, o3 + (L[m]'hmL).2, none⟩ = some (.slice ua un uc)) (go_keep)
              (first
                | (go_at_call 23; refine (CC.out _ ?_).mono ?_; (first | exact (Below.refl _ _).drew | exact Below.refl _ _); rintro e w5 ⟨da, dl, dc, rfl, B5, l5, m5, n5⟩)
                | (refine step_appFi (by rfl) (.tmp 85) (.tmp 100) (by rfl) W2.heap.size (.slice xa m xc) m ps (by rfl) (APP.out w5 _ B5.out.1) (by rfl) rfl (by omega) (HS3.out w5 B5.out.1) ?_; intro gb gc w6 r6 g6 a6; have FR := hide' (FIN.out w5 w6 _ gb gc B5.out.1 B5.out.2 r6 g6 a6); obtain ⟨z6, z7, z8⟩ := K3.out w6 FR.out.2; clear r6 g6 a6))
            all_goals
              go_wp2_with fail
              go_roundw
              case rel => first | exact ⟨m + 1, _, _, by omega, by go_num, rfl, FR.out.1, FR.out.2⟩ | exact ⟨_, m + 1, _, _, by omega, by go_num, rfl, FR.out.1, FR.out.2⟩
              case measure => simp [intOf]; omega
        · have E : Hid (L.take m = L) := List.take_of_length_le (by rw [← HLN.out]; omega)
          go_wp2_with fail
          go_ret
          refine ⟨_, rfl, ?_, BR.out⟩
          have h9 := holdsFi_sub (mask_sub _ _) (fil_holds HF.out)
          rw [E.out] at h9
          rw [left_eq, ← HL.out]
          exact h9
end Go.Proofs.YtijnjgnckipghaaGreat
