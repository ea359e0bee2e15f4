/- The contract of CopyFiles. -/
import Derived.Test.YtbpegpklbenblaaBdB
import Derived.Deep.RegionHeldLaw
namespace Go.Proofs.Ytbpegpklbenblaa
open Go.RowKit
theorem fil_empty (w : World) : FilW w.heap.size (.slice (some ⟨w.heap.size, 0, none⟩) 0 0) [] (w.alloc (.cells #[] 66)) :=
  ⟨[], World.ownsRow_lit w #[] 0 (Nat.le_refl _) (by decide) rfl, rfl, fun i p f e => by simp at e⟩
set_option maxRecDepth 20000 in
set_option maxHeartbeats 8000000 in
theorem copyFi (v : Value) (fs : FL) (w : World) (hv : HoldsFi w v fs) (hl : fs.length ≤ 1000000000) (hd : ∀ f ∈ fs, f.2.length ≤ 140737488355328) :
    Calls Try.prog 39 #[v] w fun e w' => ∃ u, e = .returned u ∧ HoldsFi (mask (fun x => x < w.heap.size) w') u fs ∧ Below w.heap.size w w' := by
  obtain ⟨ao, ca, rfl, _, _, hca⟩ := hv
  by_cases hz : fs = []
  · subst hz
    clear hca hl hd
    go_enter Try.func39, Try.ntmps39
    go_wp2
    go_rounds 1
    go_ret
    exact ⟨_, rfl, fil_holds (fil_empty w), below_alloc' w _⟩
  · obtain ⟨b1, o1, rfl, hlt1, c1⟩ := hca hz
    have C1 := hide' c1
    have HD := hide' hd
    obtain ⟨n, hn⟩ : ∃ n, n = fs.length := ⟨_, rfl⟩
    have HN := hide' hn
    rw [← hn] at hl ⊢
    clear hca c1 hz hn hd
    go_enter Try.func39, Try.ntmps39
    go_wp2
    go_loopw [3, 4] (fun u i wr => ∃ (k : Nat) (xa : Option Addr) (xc : Nat), k ≤ n ∧ i = .int .i64 k ∧ u = .slice xa k xc ∧ Hid (FilW w.heap.size (.slice xa k xc) (fs.take k) wr) ∧ Hid (Below w.heap.size w wr)) (fun _ i _ => n - (intOf i).toNat)
    case atStart => exact ⟨0, _, _, by omega, rfl, rfl, fil_empty w, below_alloc' w _⟩
    case round =>
      obtain ⟨k, xa, xc, hk, rfl, rfl, HF, HB⟩ := hrel
      by_cases hlt : k < n
      · have hk' : k < fs.length := by rw [← HN.out]; exact hlt
        obtain ⟨x1, u1, y1, g1⟩ := C1.out k hk'
        have hbd := HD.out _ (List.getElem_mem hk')
        obtain ⟨ua, uc, hu1, _⟩ := id g1
        subst hu1
        have E : Hid (fs.take (k + 1) = fs.take k ++ [((fs[k]'hk').1, (fs[k]'hk').2)]) := by unfold Hid; rw [List.take_succ_eq_append_getElem hk']
        obtain ⟨ps, p1, p2, p3⟩ := HF.out
        have e9 : ps.length = k := by rw [p2, List.length_take]; omega
        have P1 := hide' p1
        have P23 := hide' (And.intro p2 p3)
        have E9 := hide' e9
        have XY : Hid (S (fs[k]'hk').1 = .string ⟨((fs[k]'hk').1).toArray⟩) := rfl
        have K1 : Hid (∀ Wx, Below w.heap.size w Wx → Wx.cell? ⟨b1, o1 + k * 2, none⟩ = some (.string ⟨((fs[k]'hk').1).toArray⟩) ∧ Wx.cell? ⟨b1, o1 + k * 2 + 1, none⟩ = some (.slice ua (fs[k]'hk').2.length uc)) := fun Wx hb =>
          ⟨(hb.cell (p := ⟨b1, o1 + k * 2, none⟩) hlt1).trans x1, (hb.cell (p := ⟨b1, o1 + k * 2 + 1, none⟩) hlt1).trans y1⟩
        have CC : Hid (∀ Wx, Below wr.heap.size wr Wx → Calls Try.prog 33 #[.slice ua (fs[k]'hk').2.length uc] Wx fun e w' => ∃ da dl dc, e = .returned (.slice da dl dc) ∧ Hid (Below wr.heap.size wr w' ∧ HoldsB (mask (fun x => x < wr.heap.size) w') (.slice da dl dc) (fs[k]'hk').2) ∧ w'.cell? ⟨b1, o1 + k * 2, none⟩ = some (.string ⟨((fs[k]'hk').1).toArray⟩) ∧ w'.cell? ⟨b1, o1 + k * 2 + 1, none⟩ = some (.slice ua (fs[k]'hk').2.length uc)) := fun Wx hb => by
          have hbw := HB.out.trans (hb.mono HB.out.size)
          refine (copyB _ _ Wx (holdsB_mono g1 hbw) hbd).mono ?_
          rintro e w' ⟨u, rfl, ho⟩
          obtain ⟨da, dc, hu, _⟩ := holdsB_own ho
          have hb2 := hb.trans (ho.2.mono hb.size)
          obtain ⟨k1, k2⟩ := K1.out w' (HB.out.trans (hb2.mono HB.out.size))
          refine ⟨da, _, dc, by rw [hu], ⟨hb2, ?_⟩, k1, k2⟩
          rw [← hu]
          exact own_mask ho hb.size
        obtain ⟨i1, i2⟩ := K1.out wr HB.out
        generalize (fs[k]'hk').2.length = L at CC y1 K1 i2
        generalize (fs[k]'hk').1 = nmj at E x1 K1 CC i1 XY
        generalize (fs[k]'hk').2 = dj at E CC
        generalize (⟨nmj.toArray⟩ : ByteArray) = y at x1 K1 CC i1 XY
        rename_i r1
        clear g1 hbd r1 x1 y1 p1 p2 p3 e9
        have APP : Hid (∀ (wl : World) (dv : Value), Below wr.heap.size wr wl → (wl.alloc (.cells #[.string y, dv] 66)).ownsRow w.heap.size 66 2 (.slice xa k xc) k (cellsFi ps)) := fun wl dv hb => by
          have h0 := row_below (row_below P1.out hb) (below_alloc' wl (.cells #[.string y, dv] 66))
          rw [E9.out] at h0
          exact h0
        have HS3 : Hid (∀ wl : World, Below wr.heap.size wr wl → w.heap.size ≤ wl.heap.size) := fun wl hb => Nat.le_trans HB.out.size hb.size
        have FIN : Hid (∀ (wl w6 : World) (dv : Value) (gb gc : Nat), Below wr.heap.size wr wl → HoldsB (mask (fun x => x < wr.heap.size) wl) dv dj → w6.ownsRow w.heap.size 66 2 (.slice (some ⟨gb, 0, none⟩) (k + 1) gc) (k + 1) (cellsFi ps ++ [.string y, dv]) → (wl.alloc (.cells #[.string y, dv] 66)).grownBy w6 (Value.slice xa k xc).ownBlock → ((Value.slice xa k xc).ownBlock = some gb ∨ gb = wl.heap.size + 1) → FilW w.heap.size (.slice (some ⟨gb, 0, none⟩) (k + 1) gc) (fs.take (k + 1)) w6 ∧ Below w.heap.size w w6) := by
          intro wl w6 dv gb gc hb hd hr hg hat
          have ba := below_alloc' wl (.cells #[.string y, dv] 66)
          have hbx := hb.trans (ba.mono hb.size)
          have za : (wl.alloc (.cells #[.string y, dv] 66)).heap.size = wl.heap.size + 1 := by simp
          have sub1 : Sub (mask (fun k' => k' < w.heap.size ∨ (Value.slice xa k xc).ownBlock = some k') wr) (mask (fun k' => k' < w.heap.size ∨ (Value.slice xa k xc).ownBlock = some k') (wl.alloc (.cells #[.string y, dv] 66))) := off_mask (off_of hbx) (fun k hk => .inl hk)
          have row1 := row_below P1.out hbx
          have hvb : ∀ k', (Value.slice xa k xc).ownBlock = some k' → k' < wr.heap.size := fun k' e => (P1.out.lt k' e).2
          have hd2 : HoldsB (mask (fun k' => k' < w.heap.size ∨ (Value.slice xa k xc).ownBlock = some k') (wl.alloc (.cells #[.string y, dv] 66))) dv dj := by
            refine holdsB_sub ?_ hd
            refine Sub.trans (mask_mono (S := fun k' => k' < w.heap.size ∨ (Value.slice xa k xc).ownBlock = some k') (fun k' hk => ?_)) (off_mask (off_of ba) (fun k hk => .inl hk))
            rcases hk with hk | hk
            · have := HB.out.size; omega
            · exact hvb k' hk
          have fr := fil_app (nm := nmj) (d := dj) hd2 ps ⟨row1, P23.out.1, fun i p f e1 e2 => by obtain ⟨x1, x2⟩ := P23.out.2 i p f e1 e2; exact ⟨x1, holdsB_sub sub1 x2⟩⟩ (g := gb) (cap := gc) (by rw [E9.out, XY.out]; exact hr) hg (by rw [za]; exact hat)
          rw [E9.out, ← E.out] at fr
          refine ⟨fr, ?_⟩
          have h0 := HB.out.trans (hbx.mono HB.out.size)
          exact Below.grown h0 hg (by have := HB.out.size; have := hbx.size; omega) (fun k' e => (P1.out.lt k' e).1)
        go_wp2_with fail
        go_region_held_law (fun w' => w'.cell? ⟨b1, o1 + k * 2, none⟩ = some (.string y) ∧ w'.cell? ⟨b1, o1 + k * 2 + 1, none⟩ = some (.slice ua L uc)) (go_keep)
          (first
            | (go_at_call 33; refine (CC.out _ ?_).mono ?_; (first | exact (Below.refl _ _).drew | exact Below.refl _ _); rintro e w5 ⟨da, dl, dc, rfl, B5, l5, m5⟩)
            | (refine step_appFi (by rfl) (.tmp 12) (.tmp 25) (by rfl) w.heap.size (.slice xa k xc) k ps (by rfl) (APP.out w5 _ B5.out.1) (by rfl) rfl (by omega) (HS3.out w5 B5.out.1) ?_; intro gb gc w6 r6 g6 a6; have FR := hide' (FIN.out w5 w6 _ gb gc B5.out.1 B5.out.2 r6 g6 a6); have z6 : w6.cell? ⟨b1, o1 + k * 2, none⟩ = some (.string y) ∧ w6.cell? ⟨b1, o1 + k * 2 + 1, none⟩ = some (.slice ua L uc) := K1.out w6 FR.out.2; obtain ⟨z6a, z6b⟩ := z6; clear r6 g6 a6))
        all_goals
          go_wp2_with fail
          go_roundw
          case rel => exact ⟨k + 1, _, _, by omega, by go_num, rfl, FR.out.1, FR.out.2⟩
          case measure => simp [intOf]; omega
      · have E : Hid (fs.take k = fs) := List.take_of_length_le (by rw [← HN.out]; omega)
        go_wp2_with fail
        go_ret
        refine ⟨_, rfl, ?_, HB.out⟩
        have := fil_holds HF.out
        rw [E.out] at this
        exact this
end Go.Proofs.Ytbpegpklbenblaa
