/- The contract of CopyFiles. The contract of begin: a disk of copies. The contract of the laws' do: a step. A disk of the call's own; the contract of alive. A script's run in plain words; bounds of what is left; one round of the laws' loop. -/
import Derived.Test.YtijnjgnckipghaaGreatBdB
import Derived.Deep.RegionHeldLaw
import Derived.Test.YtijnjgnckipghaaGreatBdC
namespace Go.Proofs.YtijnjgnckipghaaGreat
open Go.RowKit
theorem fil_empty (w : World) : FilW w.heap.size (.slice (some ⟨w.heap.size, 0, none⟩) 0 0) [] (w.alloc (.cells #[] 69)) :=
  ⟨[], World.ownsRow_lit w #[] 0 (Nat.le_refl _) (by decide) rfl, rfl, fun i p f e => by simp at e⟩
set_option maxRecDepth 20000 in
set_option maxHeartbeats 8000000 in
theorem copyFi (v : Value) (fs : FL) (w : World) (hv : HoldsFi w v fs) (hl : fs.length ≤ 1000000000) (hd : ∀ f ∈ fs, f.2.length ≤ 140737488355328) :
    Calls Tryz.prog 21 #[v] w fun e w' => ∃ u, e = .returned u ∧ HoldsFi (mask (fun x => x < w.heap.size) w') u fs ∧ Below w.heap.size w w' := by
  obtain ⟨ao, ca, rfl, _, _, hca⟩ := hv
  by_cases hz : fs = []
  · subst hz
    clear hca hl hd
    go_enter Tryz.func21, Tryz.ntmps21
    go_wp2
    go_rounds 1
    go_ret
    exact ⟨_, rfl, fil_holds (fil_empty w), below_alloc' w _⟩
  · obtain ⟨b1, o1, rfl, hlt1, c1⟩ := hca hz
    have C1 := hide' c1
    have HD := hide' hd
    obtain ⟨n, hn⟩ : ∃ n, n = fs.length := ⟨_, rfl⟩
    have HN := hide' hn
    rw [← hn] at hl ⊢
    clear hca c1 hz hn hd
    go_enter Tryz.func21, Tryz.ntmps21
    go_wp2
    go_loopw [3, 4] (fun u i wr => ∃ (k : Nat) (xa : Option Addr) (xc : Nat), k ≤ n ∧ i = .int .i64 k ∧ u = .slice xa k xc ∧ Hid (FilW w.heap.size (.slice xa k xc) (fs.take k) wr) ∧ Hid (Below w.heap.size w wr)) (fun _ i _ => n - (intOf i).toNat)
    case atStart => exact ⟨0, _, _, by omega, rfl, rfl, fil_empty w, below_alloc' w _⟩
    case round =>
      obtain ⟨k, xa, xc, hk, rfl, rfl, HF, HB⟩ := hrel
      by_cases hlt : k < n
      · have hk' : k < fs.length := by rw [← HN.out]; exact hlt
        obtain ⟨x1, u1, y1, g1⟩ := C1.out k hk'
        have hbd := HD.out _ (List.getElem_mem hk')
        obtain ⟨ua, uc, hu1, _⟩ := id g1
        subst hu1
        have E : Hid (fs.take (k + 1) = fs.take k ++ [((fs[k]'hk').1, (fs[k]'hk').2)]) := by unfold Hid; rw [List.take_succ_eq_append_getElem hk']
        obtain ⟨ps, p1, p2, p3⟩ := HF.out
        have e9 : ps.length = k := by rw [p2, List.length_take]; omega
        have P1 := hide' p1
        have P23 := hide' (And.intro p2 p3)
        have E9 := hide' e9
        have XY : Hid (S (fs[k]'hk').1 = .string ⟨((fs[k]'hk').1).toArray⟩) := rfl
        have K1 : Hid (∀ Wx, Below w.heap.size w Wx → Wx.cell? ⟨b1, o1 + k * 2, none⟩ = some (.string ⟨((fs[k]'hk').1).toArray⟩) ∧ Wx.cell? ⟨b1, o1 + k * 2 + 1, none⟩ = some (.slice ua (fs[k]'hk').2.length uc)) := fun Wx hb =>
          ⟨(hb.cell (p := ⟨b1, o1 + k * 2, none⟩) hlt1).trans x1, (hb.cell (p := ⟨b1, o1 + k * 2 + 1, none⟩) hlt1).trans y1⟩
        have CC : Hid (∀ Wx, Below wr.heap.size wr Wx → Calls Tryz.prog 23 #[.slice ua (fs[k]'hk').2.length uc] Wx fun e w' => ∃ da dl dc, e = .returned (.slice da dl dc) ∧ Hid (Below wr.heap.size wr w' ∧ HoldsB (mask (fun x => x < wr.heap.size) w') (.slice da dl dc) (fs[k]'hk').2) ∧ w'.cell? ⟨b1, o1 + k * 2, none⟩ = some (.string ⟨((fs[k]'hk').1).toArray⟩) ∧ w'.cell? ⟨b1, o1 + k * 2 + 1, none⟩ = some (.slice ua (fs[k]'hk').2.length uc)) := fun Wx hb => by
          have hbw := HB.out.trans (hb.mono HB.out.size)
          refine (copyB _ _ Wx (holdsB_mono g1 hbw) hbd).mono ?_
          rintro e w' ⟨u, rfl, ho⟩
          obtain ⟨da, dc, hu, _⟩ := holdsB_own ho
          have hb2 := hb.trans (ho.2.mono hb.size)
          obtain ⟨k1, k2⟩ := K1.out w' (HB.out.trans (hb2.mono HB.out.size))
          refine ⟨da, _, dc, by rw [hu], ⟨hb2, ?_⟩, k1, k2⟩
          rw [← hu]
          exact own_mask ho hb.size
        obtain ⟨i1, i2⟩ := K1.out wr HB.out
        generalize (fs[k]'hk').2.length = L at CC y1 K1 i2
        generalize (fs[k]'hk').1 = nmj at E x1 K1 CC i1 XY
        generalize (fs[k]'hk').2 = dj at E CC
        generalize (⟨nmj.toArray⟩ : ByteArray) = y at x1 K1 CC i1 XY
        rename_i r1
        clear g1 hbd r1 x1 y1 p1 p2 p3 e9
        have APP : Hid (∀ (wl : World) (dv : Value), Below wr.heap.size wr wl → (wl.alloc (.cells #[.string y, dv] 69)).ownsRow w.heap.size 69 2 (.slice xa k xc) k (cellsFi ps)) := fun wl dv hb => by
          have h0 := row_below (row_below P1.out hb) (below_alloc' wl (.cells #[.string y, dv] 69))
          rw [E9.out] at h0
          exact h0
        have HS3 : Hid (∀ wl : World, Below wr.heap.size wr wl → w.heap.size ≤ wl.heap.size) := fun wl hb => Nat.le_trans HB.out.size hb.size
        have FIN : Hid (∀ (wl w6 : World) (dv : Value) (gb gc : Nat), Below wr.heap.size wr wl → HoldsB (mask (fun x => x < wr.heap.size) wl) dv dj → w6.ownsRow w.heap.size 69 2 (.slice (some ⟨gb, 0, none⟩) (k + 1) gc) (k + 1) (cellsFi ps ++ [.string y, dv]) → (wl.alloc (.cells #[.string y, dv] 69)).grownBy w6 (Value.slice xa k xc).ownBlock → ((Value.slice xa k xc).ownBlock = some gb ∨ gb = wl.heap.size + 1) → FilW w.heap.size (.slice (some ⟨gb, 0, none⟩) (k + 1) gc) (fs.take (k + 1)) w6 ∧ Below w.heap.size w w6) := by
          intro wl w6 dv gb gc hb hd hr hg hat
          have ba := below_alloc' wl (.cells #[.string y, dv] 69)
          have hbx := hb.trans (ba.mono hb.size)
          have za : (wl.alloc (.cells #[.string y, dv] 69)).heap.size = wl.heap.size + 1 := by simp
          have sub1 : Sub (mask (fun k' => k' < w.heap.size ∨ (Value.slice xa k xc).ownBlock = some k') wr) (mask (fun k' => k' < w.heap.size ∨ (Value.slice xa k xc).ownBlock = some k') (wl.alloc (.cells #[.string y, dv] 69))) := off_mask (off_of hbx) (fun k hk => .inl hk)
          have row1 := row_below P1.out hbx
          have hvb : ∀ k', (Value.slice xa k xc).ownBlock = some k' → k' < wr.heap.size := fun k' e => (P1.out.lt k' e).2
          have hd2 : HoldsB (mask (fun k' => k' < w.heap.size ∨ (Value.slice xa k xc).ownBlock = some k') (wl.alloc (.cells #[.string y, dv] 69))) dv dj := by
            refine holdsB_sub ?_ hd
            refine Sub.trans (mask_mono (S := fun k' => k' < w.heap.size ∨ (Value.slice xa k xc).ownBlock = some k') (fun k' hk => ?_)) (off_mask (off_of ba) (fun k hk => .inl hk))
            rcases hk with hk | hk
            · have := HB.out.size; omega
            · exact hvb k' hk
          have fr := fil_app (nm := nmj) (d := dj) hd2 ps ⟨row1, P23.out.1, fun i p f e1 e2 => by obtain ⟨x1, x2⟩ := P23.out.2 i p f e1 e2; exact ⟨x1, holdsB_sub sub1 x2⟩⟩ (g := gb) (cap := gc) (by rw [E9.out, XY.out]; exact hr) hg (by rw [za]; exact hat)
          rw [E9.out, ← E.out] at fr
          refine ⟨fr, ?_⟩
          have h0 := HB.out.trans (hbx.mono HB.out.size)
          exact Below.grown h0 hg (by have := HB.out.size; have := hbx.size; omega) (fun k' e => (P1.out.lt k' e).1)
        go_wp2_with fail
        go_region_held_law (fun w' => w'.cell? ⟨b1, o1 + k * 2, none⟩ = some (.string y) ∧ w'.cell? ⟨b1, o1 + k * 2 + 1, none⟩ = some (.slice ua L uc)) (go_keep)
          (first
            | (go_at_call 23; refine (CC.out _ ?_).mono ?_; (first | exact (Below.refl _ _).drew | exact Below.refl _ _); rintro e w5 ⟨da, dl, dc, rfl, B5, l5, m5⟩)
            | (refine step_appFi (by rfl) (.tmp 12) (.tmp 25) (by rfl) w.heap.size (.slice xa k xc) k ps (by rfl) (APP.out w5 _ B5.out.1) (by rfl) rfl (by omega) (HS3.out w5 B5.out.1) ?_; intro gb gc w6 r6 g6 a6; have FR := hide' (FIN.out w5 w6 _ gb gc B5.out.1 B5.out.2 r6 g6 a6); have z6 : w6.cell? ⟨b1, o1 + k * 2, none⟩ = some (.string y) ∧ w6.cell? ⟨b1, o1 + k * 2 + 1, none⟩ = some (.slice ua L uc) := K1.out w6 FR.out.2; obtain ⟨z6a, z6b⟩ := z6; clear r6 g6 a6))
        all_goals
          go_wp2_with fail
          go_roundw
          case rel => exact ⟨k + 1, _, _, by omega, by go_num, rfl, FR.out.1, FR.out.2⟩
          case measure => simp [intOf]; omega
      · have E : Hid (fs.take k = fs) := List.take_of_length_le (by rw [← HN.out]; omega)
        go_wp2_with fail
        go_ret
        refine ⟨_, rfl, ?_, HB.out⟩
        have := fil_holds HF.out
        rw [E.out] at this
        exact this
end Go.Proofs.YtijnjgnckipghaaGreat
namespace Go.Proofs.YtijnjgnckipghaaGreat
open Go.RowKit
theorem newPost_base {fs : FilL} {room : Int} {fails : List Int} {power : Int} {w W W' : World} {e : Ending} (h : NewPost fs room fails power W e W') (hb : Below w.heap.size w W) : NewPost fs room fails power w e W' := by
  refine ⟨hb.trans (h.1.mono hb.size), ?_⟩
  rcases h.2 with h1 | ⟨h1, g, o, h2, h3, h4⟩
  · exact .inl h1
  · exact .inr ⟨h1, g, o, h2, h3, fun k hk => Nat.le_trans hb.size (h4 k hk)⟩
end Go.Proofs.YtijnjgnckipghaaGreat
namespace Go.Proofs.YtijnjgnckipghaaGreat
open Go.RowKit
theorem stepPost_base {o : Ow} {g : Nat} {s : Dk} {op : DOp} {w W W' : World} {e : Ending} (h : StepPost o g s op W e W') (hb : Below w.heap.size w W) : StepPost o g s op w e W' := by
  obtain ⟨h1, o', h2, h3⟩ := h
  exact ⟨h1, o', h2, (grow_below hb).trans h3⟩
end Go.Proofs.YtijnjgnckipghaaGreat
namespace Go.Proofs.YtijnjgnckipghaaGreat
open Go.RowKit
/-- a disk that was made since W0 -/
structure Liv (o : Ow) (g : Nat) (s : Dk) (W0 W : World) : Prop where
  dsk : Dsk o g s W
  own : ∀ k, o.has k → W0.heap.size ≤ k
  bel : Below W0.heap.size W0 W
theorem liv_below {o : Ow} {g : Nat} {s : Dk} {W0 W W' : World} (h : Liv o g s W0 W) (hb : Below W.heap.size W W') : Liv o g s W0 W' := ⟨dsk_below h.dsk hb, h.own, h.bel.trans (hb.mono h.bel.size)⟩
theorem liv_grow {o o' : Ow} {g : Nat} {s s' : Dk} {W0 W W' : World} (h : Liv o g s W0 W) (hd : Dsk o' g s' W') (hg : Grow o W o' W') : Liv o' g s' W0 W' :=
  ⟨hd, fun k hk => by rcases hg.new k hk with h1 | h1; exact h.own k h1; exact Nat.le_trans h.bel.size h1, h.bel.trans (hg.off.below h.bel.size h.own)⟩
theorem liv_step {o : Ow} {g : Nat} {s : Dk} {op : DOp} {W0 W W' : World} {e : Ending} (h : Liv o g s W0 W) (hs : StepPost o g s op W e W') : ∃ o', Liv o' g (s.step op).1 W0 W' ∧ Grow o W o' W' := by
  obtain ⟨_, o', hd, hg⟩ := hs
  exact ⟨o', liv_grow h hd hg, hg⟩
theorem bd_new (fs : FilL) (room : Int) (fails : List Int) (power : Int) (m : Nat) (h1 : fs.length ≤ m) (h2 : ∀ f ∈ fs, f.2.length ≤ m) : Bd m (newS fs room fails power) := by
  refine ⟨Nat.zero_le _, by show (fs.map _).length ≤ m; simpa using h1, by show (numbered fs).length ≤ m; rw [num_len]; exact h1, by show (numbered fs).length ≤ m; rw [num_len]; exact h1, Nat.zero_le _, fun i => ?_⟩
  show ((fs.map (fun f => f.2)).getD i []).length ≤ m
  rw [List.getD_eq_getElem?_getD, List.getElem?_map]
  cases e : fs[i]? with
  | none => exact Nat.zero_le _
  | some f => exact h2 f (List.mem_of_getElem? e)
def al0 : Dk := newS [] 9 [3] 4
def al1 : Dk := (al0.step ⟨1, [97], [], []⟩).1
def al2 : Dk := (al1.step ⟨2, [97], [], [120, 121]⟩).1
def al3 : Dk := (al2.step ⟨3, [97], [], []⟩).1
def al4 : Dk := (al3.step ⟨4, [], [], []⟩).1
def al5 : Dk := (al4.step ⟨3, [97], [], []⟩).1
theorem al_1 : (al0.step ⟨1, [97], [], []⟩).2 = 0 := by decide
theorem al_2 : (al1.step ⟨2, [97], [], [120, 121]⟩).2 = 0 := by decide
theorem al_3 : (al2.step ⟨3, [97], [], []⟩).2 = 94 := by decide
theorem al_4 : (al3.step ⟨4, [], [], []⟩).2 = 0 := by decide
theorem al_5 : (al4.step ⟨3, [97], [], []⟩).2 = 93 := by decide
theorem al_d : al5.down = true := by decide
theorem al_l : (al5.left 0 []).length = 1 := by decide
theorem ba0 : Bd 100 al0 := bd_new _ _ _ _ _ (by decide) (fun f h => by cases h)
theorem ba1 : Bd 200 al1 := bd_mono (bd_step ba0 _) (by decide)
theorem ba2 : Bd 300 al2 := bd_mono (bd_step ba1 _) (by decide)
theorem ba3 : Bd 400 al3 := bd_mono (bd_step ba2 _) (by decide)
theorem ba4 : Bd 500 al4 := bd_mono (bd_step ba3 _) (by decide)
theorem ba5 : Bd 600 al5 := bd_mono (bd_step ba4 _) (by decide)
theorem holdsB_lit2 (w : World) : HoldsB (w.alloc (.cells #[.int .u8 120, .int .u8 121] 5 (2, 3))) (.slice (some ⟨w.heap.size, 0, none⟩) 2 2) [120, 121] := by
  refine ⟨_, 2, rfl, fun e => (by cases e), Nat.le_refl _, fun _ => ⟨w.heap.size, 0, rfl, by simp, fun j hj => ?_⟩⟩
  match j, hj with
  | 0, _ => simp [World.cell?_alloc_mark, B]
  | 1, _ => simp [World.cell?_alloc_mark, B]
theorem holdsI_lit1 (w : World) (z : Int) : OwnI w (.slice (some ⟨w.heap.size, 0, none⟩) 1 1) [z] (w.alloc (.cells #[.int .i64 z] 3)) :=
  ⟨World.ownsRow_lit w #[.int .i64 z] 1 (Nat.le_refl _) (by decide) rfl, (Below.refl _ _).alloc (Nat.le_refl _) _⟩
theorem mark_xy (W : World) : Sem.run Tryz.prog (convert 67 67 (.slice (some ⟨W.heap.size, 0, none⟩) 2 2)) (W.alloc (.cells #[.int .u8 120, .int .u8 121] 5)) = .ok (.slice (some ⟨W.heap.size, 0, none⟩) 2 2) (W.alloc (.cells #[.int .u8 120, .int .u8 121] 5 (2, 3))) :=
  Lib.run_convert_bytes_const W 67 5 #[.int .u8 120, .int .u8 121] 2 2 Tryz.underlying67 Tryz.underlying5
end Go.Proofs.YtijnjgnckipghaaGreat
namespace Go.Proofs.YtijnjgnckipghaaGreat
open Go.RowKit
def dop (o : OpT) : DOp := ⟨meant o.1, o.2.1, o.2.2.1, o.2.2.2⟩
def runD (s : Dk) (os : List OpT) : Dk := os.foldl (fun s o => (s.step (dop o)).1) s
theorem run_snoc (s : Dk) (os : List OpT) (j : Nat) (h : j < os.length) : runD s (os.take (j + 1)) = ((runD s (os.take j)).step (dop os[j])).1 := by
  unfold runD
  rw [List.take_succ_eq_append_getElem h, List.foldl_append]
  rfl
theorem bd_run : ∀ (os : List OpT) {m : Nat} {s : Dk}, Bd m s → Bd (m + bulkO os) (runD s os) := by
  intro os
  induction os with
  | nil => intro m s h; exact h
  | cons o r ih =>
    intro m s h
    have h1 := ih (bd_step h (dop o))
    refine bd_mono h1 ?_
    show m + 2 + (dop o).data.length + bulkO r ≤ m + (o.2.1.length + o.2.2.1.length + o.2.2.2.length + 4 + bulkO r)
    show m + 2 + o.2.2.2.length + bulkO r ≤ _
    omega
theorem bulk_take : ∀ (os : List OpT) (j : Nat), bulkO (os.take j) ≤ bulkO os := by
  intro os
  induction os with
  | nil => intro j; simp
  | cons o r ih =>
    intro j
    cases j with
    | zero => exact Nat.zero_le _
    | succ j =>
      show _ + bulkO (r.take j) ≤ _ + bulkO r
      have := ih j
      omega
theorem bulk_mem : ∀ (os : List OpT) (o : OpT), o ∈ os → o.2.1.length + o.2.2.1.length + o.2.2.2.length + 4 ≤ bulkO os := by
  intro os
  induction os with
  | nil => intro o h; cases h
  | cons x r ih =>
    intro o h
    show _ ≤ x.2.1.length + x.2.2.1.length + x.2.2.2.length + 4 + bulkO r
    rcases List.mem_cons.1 h with rfl | h
    · omega
    · have := ih o h; omega
theorem bulk_len : ∀ (os : List OpT), os.length ≤ bulkO os := by
  intro os
  induction os with
  | nil => exact Nat.le_refl _
  | cons x r ih =>
    show r.length + 1 ≤ x.2.1.length + x.2.2.1.length + x.2.2.2.length + 4 + bulkO r
    omega
theorem left_bd {o : Ow} {g : Nat} {s : Dk} {W : World} {m : Nat} (h : Dsk o g s W) (hB : Bd m s) (k : Int) (keep : List Int) : (s.left k keep).length ≤ m + m ∧ ∀ f ∈ s.left k keep, f.1.length ≤ 64 ∧ f.2.length ≤ m := by
  obtain ⟨m0, m1, m2, pv, fb, cs, v⟩ := h
  obtain ⟨h1, h2, h3, h4, h5, h6⟩ := hB
  have hw := leftNames_wf v.wf k
  constructor
  · unfold Dk.left
    rw [List.length_map, left_names v.sc k]
    have a1 := appAll_len (cs.take (min k.toNat cs.length)) s.safe
    have a2 : s.pend.length = cs.length := by rw [v.sc.1, scan_len]
    have a3 : (cs.take (min k.toNat cs.length)).length ≤ cs.length := by rw [List.length_take]; omega
    omega
  · intro f hf
    unfold Dk.left at hf
    obtain ⟨p, hp, rfl⟩ := List.mem_map.1 hf
    refine ⟨good_len (hw.2 p hp).2, ?_⟩
    show ((s.data.getD p.2 []).take _).length ≤ m
    rw [List.length_take]
    have := h6 p.2
    omega
theorem dsk_wf {o : Ow} {g : Nat} {s : Dk} {W : World} (h : Dsk o g s W) : Wf s ∧ Once s.now ∧ 0 ≤ s.room ∧ s.room ≤ 1073741824 := by
  obtain ⟨m0, m1, m2, pv, fb, cs, v⟩ := h
  exact ⟨v.wf, v.once, v.rm⟩
theorem meant_in (a : Int) : 1 ≤ meant a ∧ meant a ≤ 6 := by
  unfold meant
  split <;> omega
/-- one op of a script that came in, as it is read -/
theorem op_at {w : World} {b off cap : Nat} {os : List OpT} (h : HoldsO w (.slice (some ⟨b, off, none⟩) os.length cap) os) (j : Nat) (hj : j < os.length) :
    ∃ da dl dc, (w.cell? ⟨b, off + j * 4, none⟩ = some (.int .i64 os[j].1) ∧ w.cell? ⟨b, off + j * 4 + 1, none⟩ = some (.string ⟨os[j].2.1.toArray⟩) ∧ w.cell? ⟨b, off + j * 4 + 2, none⟩ = some (.string ⟨os[j].2.2.1.toArray⟩) ∧ w.cell? ⟨b, off + j * 4 + 3, none⟩ = some (.slice da dl dc)) ∧ HoldsB w (.slice da dl dc) os[j].2.2.2 := by
  obtain ⟨ao, cap', e, _, _, hc⟩ := h
  obtain ⟨b', off', e2, hlt, hcell⟩ := hc (fun e => by rw [e] at hj; cases hj)
  simp only [Value.slice.injEq] at e
  obtain ⟨rfl, _, rfl⟩ := e
  simp only [Option.some.injEq, Addr.mk.injEq, and_true] at e2
  obtain ⟨rfl, rfl⟩ := e2
  obtain ⟨h1, h2, h3, u, h4, h5⟩ := hcell j hj
  obtain ⟨da, dc, hu, _⟩ := id h5
  subst hu
  exact ⟨da, _, dc, ⟨h1, h2, h3, h4⟩, h5⟩
end Go.Proofs.YtijnjgnckipghaaGreat
