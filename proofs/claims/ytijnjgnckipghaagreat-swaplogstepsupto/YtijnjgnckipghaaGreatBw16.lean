/- The contracts of slices.Index and slices.Contains over texts. The contracts of removeUnfinished, of read where there is no log yet, of Open over whatever read answers. The contract of Open, over whatever read answers. -/
import Derived.Test.YtijnjgnckipghaaGreatBw1
import Derived.Lib.Bytealg
import Derived.Test.YtijnjgnckipghaaGreatSwA
import Derived.BigQuiet
namespace Go.Proofs.YtijnjgnckipghaaGreat
open Go.RowKit
theorem holds_parts {w : World} {v : Value} {ss : List (List UInt8)} (h : Holds w v ss) : ∃ ao cap b off, v = .slice ao ss.length cap ∧ (0 < ss.length → ao = some ⟨b, off, none⟩ ∧ b < w.heap.size ∧ ∀ j (h : j < ss.length), w.cell? ⟨b, off + j, none⟩ = some (S ss[j])) := by
  obtain ⟨ao, cap, rfl, hc⟩ := h
  by_cases he : ss = []
  · subst he; exact ⟨ao, cap, 0, 0, rfl, fun h => absurd h (by simp)⟩
  · obtain ⟨b, off, h1, h2, h3⟩ := hc he
    exact ⟨ao, cap, b, off, rfl, fun _ => ⟨h1, h2, h3⟩⟩
theorem ba_eql' (a b : List UInt8) (h : ¬ a = b) : ((⟨a.toArray⟩ : ByteArray).toList == (⟨b.toArray⟩ : ByteArray).toList) = false := by
  rw [Lib.toList_data, Lib.toList_data]; simpa using h
set_option maxHeartbeats 1000000 in
theorem indexS (v : Value) (ws : List (List UInt8)) (x : List UInt8) (w : World) (hv : Holds w v ws) (hl : ws.length ≤ 1000000000000000) :
    Calls Tryz.prog 94 #[v, .string ⟨x.toArray⟩] w fun e w' => ∃ i : Int, e = .returned (.int .i64 i) ∧ Hid (decide (0 ≤ i) = decide (x ∈ ws)) ∧ -1 ≤ i ∧ i ≤ 1000000000000000 ∧ w' = w := by
  obtain ⟨ao, ca, b, o, rfl, hc⟩ := holds_parts hv
  have C := hide' hc
  clear hv hc
  obtain ⟨n, en⟩ : ∃ n, n = ws.length := ⟨_, rfl⟩
  have N : Hid (ws.length = n) := en.symm
  rw [N.out] at hl ⊢
  clear en
  go_enter Tryz.func94, Tryz.ntmps94
  go_wp2_with fail
  go_loop [8] (fun i => ∃ k : Nat, k ≤ n ∧ i = .int .i64 k ∧ Hid (∀ j (h : j < ws.length), j < k → ¬ x = ws[j])) (fun i => n - (intOf i).toNat)
  case atStart => exact ⟨0, Nat.zero_le _, rfl, fun j h hj => absurd hj (by omega)⟩
  case round =>
    obtain ⟨k, hk, rfl, A⟩ := hrel
    by_cases hlt : k < n
    · have G : Hid (k < ws.length) := by unfold Hid; rw [N.out]; exact hlt
      obtain ⟨hao, hblt, hcell⟩ := C.out (by have := G.out; omega)
      subst hao
      have ck := hcell k G.out
      unfold S at ck
      clear hcell
      by_cases he : x = ws[k]'G.out
      · have M : Hid (x ∈ ws) := by unfold Hid; rw [he]; exact List.getElem_mem _
        rw [← he] at ck
        clear he
        go_wp2_with fail
        go_ret
        exact ⟨(k : Int), rfl, by have m := M.out; unfold Hid; simp [m], by omega, by omega, rfl⟩
      · have A2 : Hid (∀ j (h : j < ws.length), j < k + 1 → ¬ x = ws[j]) := by
          intro j h hj
          by_cases hjk : j = k
          · subst hjk; exact he
          · exact A.out j h (by omega)
        have hne := ba_eql' _ _ he
        have hne2 : (x == ws[k]'G.out) = false := by simpa using he
        clear he
        generalize ws[k]'G.out = q at ck hne hne2
        go_wp2_with fail
        go_round
        case rel => exact ⟨k + 1, by omega, by go_num, A2⟩
        case measure => simp [intOf]; omega
    · have M : Hid (¬ x ∈ ws) := by
        intro hm
        obtain ⟨j, hj, e⟩ := List.getElem_of_mem hm
        exact A.out j hj (by have := N.out; omega) e.symm
      go_wp2_with fail
      go_ret
      exact ⟨-1, rfl, by have m := M.out; unfold Hid; simp [m], by omega, by omega, rfl⟩
set_option maxHeartbeats 400000 in
theorem containsS (v : Value) (ws : List (List UInt8)) (x : List UInt8) (w : World) (hv : Holds w v ws) (hl : ws.length ≤ 1000000000000000) :
    Calls Tryz.prog 60 #[v, .string ⟨x.toArray⟩] w fun e w' => e = .returned (.bool (decide (x ∈ ws))) ∧ w' = w := by
  have c := hide' (indexS v ws x w hv hl)
  obtain ⟨ao, ca, b, o, rfl, _⟩ := holds_parts hv
  generalize decide (x ∈ ws) = d at c ⊢
  clear hv
  go_enter Tryz.func60, Tryz.ntmps60
  go_wp2_with fail
  refine c.out.mono ?_
  rintro e w' ⟨i, rfl, hd, h1, h2, ew⟩
  rw [ew]
  go_wp2_with fail
  go_ret
  exact ⟨by rw [← hd.out]; rfl, rfl⟩
end Go.Proofs.YtijnjgnckipghaaGreat
namespace Go.Proofs.YtijnjgnckipghaaGreat
open Go.RowKit Go.Shelf
set_option maxRecDepth 20000
def remU (st : LSt) : LSt × Int := if nwN ∈ st.1.list then opT ⟨6, nwN, [], []⟩ st else (st, 0)
theorem list_le {m : Nat} {s : Dk} (h : Bd m s) : s.list.length ≤ m := by
  unfold Dk.list
  split
  · exact Nat.zero_le _
  · rw [List.length_map]; exact h.2.2.1
set_option maxHeartbeats 1000000 in
theorem removeUC {o : Ow} {g lb : Nat} {s : Dk} {c : Int} {W : World} (h : LogS o g lb s c W) (hB : Bd 90000000 s) :
    Calls Tryz.prog 27 #[lptr lb] W fun e W' => LPost o g lb (remU (s, c)) W e W' := by
  have CL := hide' (listC h.dsk (bd_mono hB (by decide)))
  have LN := hide' (list_le hB)
  obtain ⟨c0, _, _⟩ := logS_cells h
  have H := hide' h
  have HB := hide' hB
  clear h hB
  by_cases hm : nwN ∈ s.list
  · have R : Hid (remU (s, c) = opT ⟨6, nwN, [], []⟩ (s, c)) := by unfold Hid remU; rw [if_pos hm]
    have hd : Hid (decide (nwN ∈ s.list) = true) := by unfold Hid; simpa using hm
    clear hm
    go_enter Tryz.func27, Tryz.ntmps27
    go_wp2_with fail
    refine CL.out.mono ?_
    rintro e w1 ⟨v, rfl, hv⟩
    have CC := hide' (containsS v s.list nwN w1 (holds_own hv) (by have := LN.out; omega))
    rw [hd.out] at CC
    have h1 := logS_below H.out hv.2
    have B1 := hide' hv.2
    have C6 := hide' (removeC h1.dsk nwBa [] [] (by decide) (bd_mono HB.out (by decide)))
    obtain ⟨c1, _, _⟩ := logS_cells h1
    have H1 := hide' h1
    clear h1 hv
    go_wp2_with fail
    refine CC.out.mono ?_
    rintro e w2 ⟨rfl, ew⟩
    rw [ew]
    clear ew w2
    go_wp2_with fail
    refine C6.out.mono ?_
    intro e w3 sp
    have P := hide' (lpost_from (growL_below B1.out) (lpost_step H1.out sp))
    obtain ⟨rfl, _⟩ := sp
    go_wp2_with fail
    go_ret
    rw [R.out]
    exact P.out
  · have R : Hid (remU (s, c) = ((s, c), 0)) := by unfold Hid remU; rw [if_neg hm]
    have hd : Hid (decide (nwN ∈ s.list) = false) := by unfold Hid; simpa using hm
    clear hm
    go_enter Tryz.func27, Tryz.ntmps27
    go_wp2_with fail
    refine CL.out.mono ?_
    rintro e w1 ⟨v, rfl, hv⟩
    have CC := hide' (containsS v s.list nwN w1 (holds_own hv) (by have := LN.out; omega))
    rw [hd.out] at CC
    have B1 := hide' hv.2
    have H1 := hide' (logS_below H.out hv.2)
    clear hv
    go_wp2_with fail
    refine CC.out.mono ?_
    rintro e w2 ⟨rfl, ew⟩
    rw [ew]
    clear ew w2
    go_wp2_with fail
    go_ret
    rw [R.out]
    exact ⟨rfl, o, H1.out, growL_below B1.out⟩
/-- a list of records that lies aside from the log -/
def Rsd (o : Ow) (lb n0 : Nat) (v : Value) (rs : RL) (W : World) : Prop := HoldsR W v rs ∧ ∀ ad n c, v = .slice (some ad) n c → o ad.block = none ∧ ad.block ≠ lb ∧ n0 ≤ ad.block ∧ ad.block < W.heap.size
theorem rsd_nil (o : Ow) (lb n0 : Nat) (W : World) : Rsd o lb n0 (.slice none 0 0) [] W := ⟨holdsR_nil W, fun ad n c e => by cases e⟩
def RdPost (o : Ow) (g lb : Nat) (q : (LSt × Int) × RL) (W : World) (e : Ending) (W' : World) : Prop := ∃ lv o', e = .returned (.tuple #[lv, .int .i64 q.1.2]) ∧ LogS o' g lb q.1.1.1 q.1.1.2 W' ∧ GrowL lb o W o' W' ∧ Rsd o' lb W.heap.size lv q.2 W'
set_option maxHeartbeats 1000000 in
/-- where there is no log, one without records is begun -/
theorem readNone {o : Ow} {g lb : Nat} {s : Dk} {c : Int} {W : World} (h : LogS o g lb s c W) (m : Nat) (hm : m ≤ 80000000) (hB : Bd m s) (hr : (s.read lgN).2 = 90) :
    Calls Tryz.prog 25 #[lptr lb] W fun e W' => RdPost o g lb (beginT (s, c), []) W e W' ∧ Bd (m + 6) (beginT (s, c)).1.1 := by
  have CR := hide' (readC h.dsk lgB (by decide) (bd_mono hB (by omega)))
  have hr2 : (s.read (lgB).data.toList).2 = 90 := hr
  rw [hr2] at CR
  obtain ⟨c0, _, _⟩ := logS_cells h
  have H := hide' h
  have HB := hide' hB
  clear h hB hr hr2
  go_enter Tryz.func25, Tryz.ntmps25
  go_wp2_with fail
  refine CR.out.mono ?_
  rintro e w1 ⟨v, rfl, hv⟩
  have B1 := hide' hv.2
  have CB := hide' (beginC0 (logS_below H.out hv.2) m hm HB.out)
  obtain ⟨va, vl, vc, rfl⟩ := own_sl hv
  clear hv
  go_wp2_with fail
  refine CB.out.mono ?_
  rintro e w2 ⟨P, hbd⟩
  have PP := hide' P
  have HBD := hide' hbd
  obtain ⟨rfl, _⟩ := P
  clear hbd
  go_wp2_with fail
  go_ret2
  obtain ⟨_, o', hl, hg⟩ := lpost_from (growL_below B1.out) PP.out
  exact ⟨⟨_, o', rfl, hl, hg, rsd_nil _ _ _ _⟩, HBD.out⟩
end Go.Proofs.YtijnjgnckipghaaGreat
namespace Go.Proofs.YtijnjgnckipghaaGreat
open Go.RowKit Go.Shelf
set_option maxRecDepth 20000
abbrev OSt := LSt × RL
structure IO (o : Ow) (g lb bx : Nat) (W : World) (b : Nat) (q : OSt) (o' : Ow) (lv : Value) (w : World) : Prop where
  log : LogS o' g lb q.1.1 q.1.2 w
  off : Off (fun k => o.has k ∨ k = lb ∨ k = bx) W w
  le : o.le o'
  new : ∀ k, o'.has k → o.has k ∨ W.heap.size ≤ k
  box : Cap o' lb bx lv w
  rs : Rsd o' lb W.heap.size lv q.2 w
  bd : Bd b q.1.1
def IOx (o : Ow) (g lb bx : Nat) (W : World) (m K i : Nat) (q : OSt) (w : World) : Prop := ∃ o' lv, IO o g lb bx W (m + i * K) q o' lv w
def stepA (f : LSt → LSt × Int) (q : OSt) : OSt × Int := (((f q.1).1, q.2), (f q.1).2)
def stepBo (f : LSt → (LSt × Int) × RL) (q : OSt) : OSt × Int := (((f q.1).1.1, (f q.1).2), (f q.1).1.2)
theorem holdsR_off {S : Nat → Prop} {W W' : World} {v : Value} {rs : RL} (h : HoldsR W v rs) (hb : Off S W W') (hS : ∀ ad n c, v = .slice (some ad) n c → ¬ S ad.block) : HoldsR W' v rs := by
  obtain ⟨ao, cap, rfl, h0, hcp, hc⟩ := h
  refine ⟨ao, cap, rfl, h0, hcp, fun hne => ?_⟩
  obtain ⟨b, off, rfl, hlt, hcell⟩ := hc hne
  have e := hb.block b hlt (hS _ _ _ rfl)
  refine ⟨b, off, rfl, Nat.lt_of_lt_of_le hlt hb.size, fun j hj => ?_⟩
  obtain ⟨c0, c1, c2, c3⟩ := hcell j hj
  exact ⟨by rw [World.cell?_of_block (w := W) (a := ⟨b, off + j * 4, none⟩) e]; exact c0, by rw [World.cell?_of_block (w := W) (a := ⟨b, off + j * 4 + 1, none⟩) e]; exact c1, by rw [World.cell?_of_block (w := W) (a := ⟨b, off + j * 4 + 2, none⟩) e]; exact c2, by rw [World.cell?_of_block (w := W) (a := ⟨b, off + j * 4 + 3, none⟩) e]; exact c3⟩
theorem none_grow {o o' : Ow} {W : World} {b : Nat} (hn : o b = none) (hb : b < W.heap.size) (new : ∀ k, o'.has k → o.has k ∨ W.heap.size ≤ k) : o' b = none := by
  cases e : o' b with
  | none => rfl
  | some r =>
    rcases new b (by unfold Ow.has; rw [e]; simp) with h1 | h1
    · exact absurd hn h1
    · omega
theorem rsd_grow {o o' : Ow} {lb n0 : Nat} {v : Value} {rs : RL} {W W' : World} (h : Rsd o lb n0 v rs W) (hg : GrowL lb o W o' W') : Rsd o' lb n0 v rs W' := by
  refine ⟨holdsR_off h.1 hg.off (fun ad n c e hh => ?_), fun ad n c e => ?_⟩
  · obtain ⟨h1, h2, _, _⟩ := h.2 ad n c e
    rcases hh with hh | hh
    · exact hh h1
    · exact h2 hh
  · obtain ⟨h1, h2, h3, h4⟩ := h.2 ad n c e
    exact ⟨none_grow h1 h4 hg.new, h2, h3, Nat.lt_of_lt_of_le h4 hg.off.size⟩
theorem io_step {o o' o2 : Ow} {g lb bx b b2 : Nat} {W w w' : World} {q : OSt} {lv : Value} {st' : LSt} (h : IO o g lb bx W b q o' lv w) (hl : LogS o2 g lb st'.1 st'.2 w') (hg : GrowL lb o' w o2 w') (hb : Bd b2 st'.1) : IO o g lb bx W b2 (st', q.2) o2 lv w' where
  log := hl
  off := h.off.trans hg.off (fun i hi => by
    rcases hi with hi | hi
    · rcases h.new i hi with h1 | h1
      · exact .inl (.inl h1)
      · exact .inr h1
    · exact .inl (.inr (.inl hi)))
  le := fun i r e => hg.le i r (h.le i r e)
  new := fun i hi => by
    rcases hg.new i hi with h1 | h1
    · exact h.new i h1
    · exact .inr (Nat.le_trans h.off.size h1)
  box := cap_grow h.box hg
  rs := rsd_grow h.rs hg
  bd := hb
/-- the list's box is written -/
theorem io_set {o o' o2 : Ow} {g lb bx b b2 : Nat} {W w w' : World} {q : OSt} {lv lv' : Value} {st' : LSt} {rs' : RL} (h : IO o g lb bx W b q o' lv w) (hl : LogS o2 g lb st'.1 st'.2 w') (hg : GrowL lb o' w o2 w') (hb : Bd b2 st'.1) (hr : Rsd o2 lb w.heap.size lv' rs' w') (hbx : bx < W.heap.size) :
    IO o g lb bx W b2 (st', rs') o2 lv' (w'.setCell ⟨bx, 0, none⟩ lv') := by
  have k := io_step h hl hg hb
  have hoff : Off (fun x => x = bx) w' (w'.setCell ⟨bx, 0, none⟩ lv') := off_poke (S := fun x => x = bx) ⟨bx, 0, none⟩ rfl _
  have kc := cap_cell k.box
  have kf := (k.box.1.1 0 (by simp)).2
  refine ⟨⟨dsk_off hl.dsk hoff (fun x hx => by rw [hx]; exact k.box.2.1), blk_offL hl.blk hoff (fun e => k.box.2.2 e.symm), hl.no⟩, k.off.trans hoff (fun i hi => .inl (.inr (.inr hi))), k.le, k.new, ⟨⟨fun j hj => ?_, Nat.lt_of_lt_of_le k.box.1.2 hoff.size⟩, k.box.2.1, k.box.2.2⟩, ⟨holdsR_off hr.1 hoff (fun ad n c e hh => ?_), fun ad n c e => ?_⟩, hb⟩
  · match j, hj with
    | 0, _ => exact ⟨World.cell?_setCell_same' _ _ _ (by rw [kc]; rfl), by rw [World.frozen?_setCell]; exact kf⟩
  · obtain ⟨_, _, h3, _⟩ := hr.2 ad n c e
    have := h.off.size
    omega
  · obtain ⟨h1, h2, h3, h4⟩ := hr.2 ad n c e
    have := h.off.size
    exact ⟨h1, h2, by omega, Nat.lt_of_lt_of_le h4 hoff.size⟩
set_option maxHeartbeats 1000000 in
theorem openF1 {o o' : Ow} {g lb bl bx b b2 : Nat} {W w : World} {q : OSt} {lv : Value} {RD : LSt → (LSt × Int) × RL} (h : IO o g lb bx W b q o' lv w) (hc : Cap o' lb bl (lptr lb) w) (hbx : bx < W.heap.size)
    (hread : Calls Tryz.prog 25 #[lptr lb] w fun e W' => RdPost o' g lb (RD q.1) w e W' ∧ Bd b2 (RD q.1).1.1.1) :
    Calls Tryz.prog 24 #[lptr bl, lptr bx] w fun e w' => e = .returned (.int .i64 (stepBo RD q).2) ∧ ∃ o2 lv2, IO o g lb bx W b2 (stepBo RD q).1 o2 lv2 w' := by
  have HC := hide' hread
  have H := hide' h
  have k0 := cap_cell hc
  clear hread h hc
  go_enter Tryz.func24, Tryz.ntmps24
  go_wp2_with fail
  refine HC.out.mono ?_
  rintro e w1 ⟨⟨lv2, o2, rfl, hl, hg, hr⟩, hbd⟩
  obtain ⟨la, lc, hlv, _⟩ := id hr.1
  have K := hide' (io_set H.out hl hg hbd hr hbx)
  have kx := cap_cell (cap_grow H.out.box hg)
  have kf := ((cap_grow H.out.box hg).1.1 0 (by simp)).2
  subst hlv
  clear hl hg hr hbd
  obtain ⟨y, hy⟩ : ∃ y, y = (RD q.1).1.2 := ⟨_, rfl⟩
  have HY : Hid ((RD q.1).1.2 = y) := hy.symm
  rw [HY.out]
  clear hy
  have kf' : w1.frozen? ⟨bx, 0, none⟩ = false := kf
  obtain ⟨xs, xn, xc, hx⟩ : ∃ a n c, lv = .slice a n c := by obtain ⟨a, c, e, _⟩ := H.out.rs.1; exact ⟨a, _, c, e⟩
  rw [hx] at kx
  go_wp2_with fail
  go_ret
  exact ⟨by show _ = Ending.returned (Value.int .i64 (RD q.1).1.2); rw [HY.out]; rfl, o2, _, K.out⟩
theorem io_cap {o o' : Ow} {g lb bx b bl : Nat} {W w : World} {q : OSt} {lv v : Value} (h : IO o g lb bx W b q o' lv w) (hc : Cap o lb bl v W) (hne : bl ≠ bx) : Cap o' lb bl v w :=
  ⟨blk_offL hc.1 h.off (fun hh => by
    rcases hh with hh | hh | hh
    · exact hh hc.2.1
    · exact hc.2.2 hh
    · exact hne hh), none_grow hc.2.1 hc.1.2 h.new, hc.2.2⟩
def openT (RD : LSt → (LSt × Int) × RL) (s : Dk) : OSt × Int := runT [stepA remU, stepBo RD] ((s, 0), [])
def OpPost (o : Ow) (g : Nat) (q : OSt × Int) (W : World) (e : Ending) (W' : World) : Prop :=
  (q.2 ≠ 0 ∧ e = .returned (.tuple #[.pointer none, .slice none 0 0, .int .i64 q.2]) ∧ ∃ o', Dsk o' g q.1.1.1 W' ∧ Grow o W o' W') ∨
  (q.2 = 0 ∧ ∃ lb lv o', e = .returned (.tuple #[lptr lb, lv, .int .i64 0]) ∧ LogS o' g lb q.1.1.1 (q.1.2.length : Int) W' ∧ Grow o W o' W' ∧ W.heap.size ≤ lb ∧ Rsd o' lb W.heap.size lv q.1.2 W')
theorem remU_bd {m : Nat} {st : LSt} (h : Bd m st.1) : Bd (m + 2) (remU st).1.1 := by
  unfold remU
  split
  · exact bd_step h ⟨6, nwN, [], []⟩
  · exact bd_mono h (by omega)
set_option maxHeartbeats 4000000 in
theorem openC {o : Ow} {g : Nat} {s : Dk} {W : World} (h : Dsk o g s W) (m K : Nat) (hB : Bd m s) (hK : 2 ≤ K) (hm : m + K ≤ 80000000) (RD : LSt → (LSt × Int) × RL)
    (hread : ∀ lb o' w, LogS o' g lb (remU (s, 0)).1.1 (remU (s, 0)).1.2 w → Bd (m + K) (remU (s, 0)).1.1 → Calls Tryz.prog 25 #[lptr lb] w fun e W' => RdPost o' g lb (RD (remU (s, 0)).1) w e W' ∧ Bd (m + K + K) (RD (remU (s, 0)).1).1.1.1) :
    Calls Tryz.prog 7 #[lptr g] W fun e W' => OpPost o g (openT RD s) W e W' ∧ Bd (m + K + K) (openT RD s).1.1.1 := by
  have b1 := bel_a W (.cells #[lptr g, .int .i64 0] 74)
  have b2 := bel_a (W.alloc (.cells #[lptr g, .int .i64 0] 74)) (.cells #[lptr W.heap.size] 41)
  have b3 := bel_a ((W.alloc (.cells #[lptr g, .int .i64 0] 74)).alloc (.cells #[lptr W.heap.size] 41)) (.cells #[.slice none 0 0] 42)
  have h1 : LogS o g W.heap.size s 0 (W.alloc (.cells #[lptr g, .int .i64 0] 74)) := ⟨dsk_below h b1, by simpa using cells_lit W #[lptr g, .int .i64 0] 74, none_of_lt (dsk_lt h) (Nat.le_refl _)⟩
  have h2 := logS_below h1 b2
  have h3 := logS_below h2 b3
  have k2 := cap_below (cap_new h1 (lptr W.heap.size) 41) b3
  have k3 := cap_new h2 (.slice none 0 0) 42
  rw [World.size_alloc] at k2
  rw [World.size_alloc, World.size_alloc] at k3
  have b13 := b1.trans ((b2.trans (b3.mono b2.size)).mono b1.size)
  obtain ⟨W3, hW3⟩ : ∃ W3, W3 = ((W.alloc (.cells #[lptr g, .int .i64 0] 74)).alloc (.cells #[lptr W.heap.size] 41)).alloc (.cells #[.slice none 0 0] 42) := ⟨_, rfl⟩
  have z3 : W3.heap.size = W.heap.size + 1 + 1 + 1 := by rw [hW3]; simp
  obtain ⟨c0, c1, _⟩ := logS_cells h3
  have kc := cap_cell k2
  have kd := cap_cell k3
  rw [← hW3] at h3 k2 k3 b13
  have C : Hid (Calls Tryz.prog 26 #[.slice (some ⟨W3.heap.size, 0, none⟩) 2 2] (W3.alloc (.cells #[.func (.func 27) #[lptr W.heap.size] #[], .func (.func 24) #[] #[lptr (W.heap.size + 1), lptr (W.heap.size + 1 + 1)]] 77)) fun e W' =>
      e = .returned (.int .i64 (openT RD s).2) ∧ Bd (m + K + K) (openT RD s).1.1.1 ∧ ∃ o' lv, LogS o' g W.heap.size (openT RD s).1.1.1 (openT RD s).1.1.2 W' ∧ Grow o W o' W' ∧ Rsd o' W.heap.size W.heap.size lv (openT RD s).1.2 W' ∧ Cap o' W.heap.size (W.heap.size + 1) (lptr W.heap.size) W' ∧ Cap o' W.heap.size (W.heap.size + 1 + 1) lv W') := by
    have b4 := bel_a W3 (.cells #[.func (.func 27) #[lptr W.heap.size] #[], .func (.func 24) #[] #[lptr (W.heap.size + 1), lptr (W.heap.size + 1 + 1)]] 77)
    have h4 := logS_below h3 b4
    have q2 := cap_below k2 b4
    have q3 := cap_below k3 b4
    have b14 := b13.trans (b4.mono b13.size)
    have nb : o W3.heap.size = none := none_of_lt (dsk_lt h3.dsk) (Nat.le_refl _)
    obtain ⟨W4, hW4⟩ : ∃ W4, W4 = W3.alloc (.cells #[.func (.func 27) #[lptr W.heap.size] #[], .func (.func 24) #[] #[lptr (W.heap.size + 1), lptr (W.heap.size + 1 + 1)]] 77) := ⟨_, rfl⟩
    have z4 : W4.heap.size = W3.heap.size + 1 := by rw [hW4]; simp
    have e0 : W4.cell? ⟨W3.heap.size, 0, none⟩ = some (.func (.func 27) #[lptr W.heap.size] #[]) := by rw [hW4]; simp
    have e1 : W4.cell? ⟨W3.heap.size, 1, none⟩ = some (.func (.func 24) #[] #[lptr (W.heap.size + 1), lptr (W.heap.size + 1 + 1)]) := by rw [hW4]; simp
    rw [← hW4] at h4 q2 q3 b4 b14
    rw [← hW4]
    refine (inTurnC (σ := OSt) (fun i q w => ∃ o' lv, IO o g W.heap.size (W.heap.size + 1 + 1) W4 (m + i * K) q o' lv w ∧ (i = 0 → q = ((s, 0), [])) ∧ (i = 1 → q = (stepA remU ((s, 0), [])).1)) W3.heap.size 2 [.func (.func 27) #[lptr W.heap.size] #[], .func (.func 24) #[] #[lptr (W.heap.size + 1), lptr (W.heap.size + 1 + 1)]] [stepA remU, stepBo RD] rfl rfl (by decide) (fun i i1 i2 => ?_) ?_ ((s, 0), []) W4 ⟨o, .slice none 0 0, ⟨h4, Off.refl _ _, fun _ _ e => e, fun _ hh => .inl hh, q3, rsd_nil _ _ _ _, by rw [Nat.zero_mul]; exact hB⟩, fun _ => rfl, fun e => by cases e⟩).mono ?_
    · match i, i1 with
      | 0, _ =>
        refine ⟨_, _, _, rfl, enters_of Tryz.func27 (by kernel_rfl) rfl, ?_⟩
        rintro q w ⟨o', lv, hio, hq, _⟩
        obtain rfl := hq rfl
        refine (removeUC hio.log (bd_mono hio.bd (by omega))).mono ?_
        rintro e w' ⟨he, o2, hl2, hg2⟩
        exact ⟨he, o2, lv, io_step hio hl2 hg2 (bd_mono (remU_bd hio.bd) (by omega)), (fun e => by cases e), fun _ => rfl⟩
      | 1, _ =>
        refine ⟨_, _, _, rfl, enters_of Tryz.func24 (by kernel_rfl) rfl, ?_⟩
        rintro q w ⟨o', lv, hio, _, hq⟩
        obtain rfl := hq rfl
        refine (openF1 (RD := RD) (b2 := m + 2 * K) hio (io_cap hio q2 (by omega)) (by omega) ?_).mono ?_
        · refine (hread _ _ _ hio.log (bd_mono hio.bd (by omega))).mono ?_
          rintro e w' ⟨p1, p2⟩
          exact ⟨p1, bd_mono p2 (by omega)⟩
        · rintro e w' ⟨he, o2, lv2, k⟩
          exact ⟨he, o2, lv2, k, (fun e => by cases e), (fun e => by cases e)⟩
    · rintro i q w ⟨o', lv, hio, _⟩ j hj
      have hblk := hio.off.block W3.heap.size (by omega) (fun hh => by
        rcases hh with hh | hh | hh
        · exact hh nb
        · omega
        · omega)
      match j, hj with
      | 0, _ => rw [World.cell?_of_block (w := W4) (a := ⟨W3.heap.size, 0, none⟩) hblk]; exact e0
      | 1, _ => rw [World.cell?_of_block (w := W4) (a := ⟨W3.heap.size, 1, none⟩) hblk]; exact e1
    · rintro e w' ⟨he, i, hi, o', lv, hio, _⟩
      refine ⟨he, bd_mono hio.bd (by have := Nat.mul_le_mul_right K hi; omega), o', lv, hio.log, ⟨(off_of b14).trans hio.off (fun k hk => ?_), hio.le, fun k hk => ?_⟩, ⟨hio.rs.1, fun ad n c e => ?_⟩, io_cap hio q2 (by omega), hio.box⟩
      · rcases hk with hk | hk | hk
        · exact .inl hk
        · exact .inr (by omega)
        · exact .inr (by omega)
      · rcases hio.new k hk with h1 | h1
        · exact .inl h1
        · exact .inr (by omega)
      · obtain ⟨p1, p2, p3, p4⟩ := hio.rs.2 ad n c e
        exact ⟨p1, p2, by omega, p4⟩
  rw [hW3] at C
  simp only [World.size_alloc] at C
  clear h h1 h2 h3 k2 k3 b1 b2 b3 b13 hW3 z3 W3 hB hread
  by_cases hz : (openT RD s).2 = 0
  · rw [hz] at C
    go_enter Tryz.func7, Tryz.ntmps7
    go_wp2_with fail
    refine C.out.mono ?_
    rintro e w1 ⟨rfl, hbd, o', lv, hl, hg, hr, hc1, hc2⟩
    obtain ⟨la, lc, hlv, _⟩ := id hr.1
    obtain ⟨N, hN⟩ : ∃ N, N = (openT RD s).1.2.length := ⟨_, rfl⟩
    rw [← hN] at hlv
    subst hlv
    have k1 := cap_cell hc1
    have k2 := cap_cell hc2
    obtain ⟨j0, j1, j2⟩ := logS_cells hl
    have P := hide' (logS_set hl (N : Int))
    have HR := hide' hr
    have HG := hide' hg
    have HL := hide' hl
    have HBD := hide' hbd
    have HC1 := hide' hc1
    have HC2 := hide' hc2
    have HN := hide' hN
    have n1 : (W.heap.size + 1 : Nat) ≠ W.heap.size := by omega
    have n2 : (W.heap.size + 1 + 1 : Nat) ≠ W.heap.size := by omega
    have k3 : (w1.setCell ⟨W.heap.size, 1, none⟩ (.int .i64 (N : Int))).cell? ⟨W.heap.size + 1, 0, none⟩ = some (lptr W.heap.size) := cap_cell (cap_grow hc1 P.out.2)
    have k4 : (w1.setCell ⟨W.heap.size, 1, none⟩ (.int .i64 (N : Int))).cell? ⟨W.heap.size + 1 + 1, 0, none⟩ = some (.slice la N lc) := cap_cell (cap_grow hc2 P.out.2)
    clear hl hg hr hc1 hc2 hbd hN
    go_wp2_with fail
    go_quiet (fail)
    go_wp2_with fail
    refine bodyPost_ret (v := .tuple #[lptr W.heap.size, .slice la N lc, .int .i64 0]) (by simp [results, Tryz.results7, go_sem]) rfl ?_
    have bq := below_drewN (w1.setCell ⟨W.heap.size, 1, none⟩ (.int .i64 (N : Int))) nq
    have hset := P.out
    have hgr : Grow o' w1 o' (w1.setCell ⟨W.heap.size, 1, none⟩ (.int .i64 (N : Int))) → True := fun _ => trivial
    refine ⟨.inr ⟨hz, W.heap.size, _, o', rfl, ?_, ?_, Nat.le_refl _, ?_⟩, HBD.out⟩
    · rw [← HN.out]; exact logS_below hset.1 bq
    · refine ⟨?_, HG.out.le, HG.out.new⟩
      exact (HG.out.off.trans (hset.2.off.trans (off_of (S := fun k => o'.has k ∨ k = W.heap.size) bq) (fun i hi => .inl hi)) (fun i hi => by
        rcases hi with hi | hi
        · exact HG.out.new i hi
        · exact .inr (by omega)))
    · have r1 := rsd_grow HR.out hset.2
      exact rsd_grow r1 (growL_below bq)
  · obtain ⟨y, hy⟩ : ∃ y, y = (openT RD s).2 := ⟨_, rfl⟩
    have hy0 : decide (y = 0) = false := by rw [decide_eq_false_iff_not, hy]; exact hz
    have hy2 : ¬ y = 0 := by rw [hy]; exact hz
    rw [← hy] at C
    have HY := hide' hy
    have HZ := hide' hz
    clear hz hy
    go_enter Tryz.func7, Tryz.ntmps7
    go_wp2_with fail
    refine C.out.mono ?_
    rintro e w1 ⟨rfl, hbd, o', lv, hl, hg, hr, hc1, hc2⟩
    have HG := hide' hg
    have HL := hide' hl
    have HBD := hide' hbd
    clear hl hg hr hc1 hc2 hbd
    go_wp2_with fail
    refine bodyPost_ret (v := .tuple #[.pointer none, .slice none 0 0, .int .i64 y]) (by simp [results, Tryz.results7, go_sem]) rfl ?_
    exact ⟨.inl ⟨HZ.out, by rw [HY.out], o', HL.out.dsk, HG.out⟩, HBD.out⟩
end Go.Proofs.YtijnjgnckipghaaGreat
