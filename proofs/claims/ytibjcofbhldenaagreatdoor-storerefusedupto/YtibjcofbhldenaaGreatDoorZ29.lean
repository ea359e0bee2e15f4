/- The contract of List. A log in memory: its block beside its disk; the small functions and closures of the log: each makes one step of the disk. The store in memory: its block beside its log and its table (a map from texts to numbers); what is kept of it. The contract of a file's left. The contract of the store's rising: the ids of the table in their order. A row of files that a call itself made: one more appended to it, and what it holds. The contracts of the store's fill and create, and of the log's Count. -/
import Derived.Laws.OwnMore
import Derived.Maps.RangeWalk
import Derived.Deep.AppendLies
import Derived.Test.YtibjcofbhldenaaGreatDoorZ28
import Derived.Test.YtibjcofbhldenaaGreatDoorZ15
import Derived.Test.YtibjcofbhldenaaGreatDoorZ20
import Derived.Test.YtibjcofbhldenaaGreatDoorZ16
import Derived.Test.YtibjcofbhldenaaGreatDoorZ27
namespace Go.Proofs.YtibjcofbhldenaaGreatDoor
open Go.RowKit Go.Maps
/-- a cell of an own row of texts, written with what it held -/
theorem ownS_again {w0 W : World} {b cap j : Nat} {ss : List (List UInt8)} (h : OwnS w0 (.slice (some ⟨b, 0, none⟩) ss.length cap) ss W) (hj : j < ss.length) : OwnS w0 (.slice (some ⟨b, 0, none⟩) ss.length cap) ss (W.setCell ⟨b, j, none⟩ (S ss[j])) := by
  have h1 := h.1.stored j (S ss[j])
  have e : (ss.map S).set j (S ss[j]) = ss.map S := by
    rw [← List.map_set, List.set_getElem_self]
  rw [e] at h1
  exact ⟨h1.1, h.2.setCell (h.1.lt b rfl).1 _⟩
theorem ownS_slice {w0 W : World} {v : Value} {ss : List (List UInt8)} (h : OwnS w0 v ss W) (hne : 0 < ss.length) : ∃ b cap, v = .slice (some ⟨b, 0, none⟩) ss.length cap ∧ ∀ j (hj : j < ss.length), W.cell? ⟨b, j, none⟩ = some (S ss[j]) ∧ W.frozen? ⟨b, j, none⟩ = false := by
  rcases h.1.2 with ⟨_, e⟩ | ⟨x, cap, cur, hv, hx, hh, hr⟩
  · omega
  · refine ⟨x, cap, hv, fun j hj => ⟨?_, ?_⟩⟩
    · subst hv
      rw [h.1.cellAt j (by omega)]
      simp [hj]
    · unfold World.frozen?
      rw [hh]
      simp
theorem ownS_at {w0 W : World} {b L cap : Nat} {ss : List (List UInt8)} (h : OwnS w0 (.slice (some ⟨b, 0, none⟩) L cap) ss W) (hL : L = ss.length) (j : Nat) (hj : j < ss.length) : W.cell? ⟨b, j, none⟩ = some (S ss[j]) ∧ W.frozen? ⟨b, j, none⟩ = false := by
  subst hL
  refine ⟨?_, h.1.frozenAt j⟩
  rw [h.1.cellAt j (by omega)]
  simp [hj]
set_option maxRecDepth 20000 in
set_option maxHeartbeats 2000000 in
theorem listC {o : Ow} {g : Nat} {s : Dk} {W : World} (h : Dsk o g s W) (hB : Bd 1000000000 s) :
    Calls Tryz.prog 30 #[.pointer (some ⟨g, 0, none⟩)] W fun e W' => ∃ v, e = .returned v ∧ OwnS W v s.list W' := by
  have CD := hide' (downC h)
  obtain ⟨m0, m1, m2, pv, fb, cs, v⟩ := h
  have V := hide' v
  cases hd : s.down with
  | true =>
    have R : Hid (s.list = []) := by unfold Hid Dk.list; rw [if_pos hd]
    rw [hd] at CD
    clear v hd
    go_enter Tryz.func30, Tryz.ntmps30
    go_wp2_with (go_at_call 80; refine CD.out.mono ?_; rintro e w1 ⟨rfl, n, rfl⟩)
    go_ret
    rw [R.out]
    exact ⟨_, rfl, ownS_nil _ _ (below_drewN _ _)⟩
  | false =>
    have R : Hid (s.list = s.now.map (fun p => p.1)) := by unfold Hid Dk.list; rw [if_neg (by rw [hd]; decide)]
    rw [hd] at CD
    have CR : Hid (∀ n, Calls Tryz.prog 76 #[.map (some m1)] (W.drewN n) fun e w' => ∃ v, e = .returned v ∧ OwnS (W.drewN n) v (s.now.map (fun p => p.1)) w') := fun n => risingC (dkV_drew V.out n).seen V.out.wf.now.1 hB.2.2.1
    have c5 := (cells_eight v.blk).1.2.2.2.2.2.1
    have HSZ : Hid (∀ x ∈ s.now.map (fun p => p.1), x.length ≤ 64) := fun x hx => by
      obtain ⟨p, hp, rfl⟩ := List.mem_map.1 hx
      exact good_len (V.out.wf.now.2 p hp).2
    have hnl : (s.now.map (fun p => p.1)).length ≤ 1000000000 := by rw [List.length_map]; exact hB.2.2.1
    generalize s.now.map (fun p => p.1) = ns at R CR HSZ hnl
    clear v hd hB
    go_enter Tryz.func30, Tryz.ntmps30
    go_wp2_with fail
    refine CD.out.mono ?_
    rintro e w1 ⟨rfl, n, rfl⟩
    go_wp2_with fail
    refine (CR.out n).mono ?_
    rintro e w2 ⟨lv, rfl, ho⟩
    have HO : Hid (OwnS W lv ns w2) := ownS_base ho (below_drewN W n)
    clear ho
    by_cases hz : ns = []
    · obtain ⟨la, lc, hlv⟩ := row_sl HO.out.1
      have e0 : ns.length = 0 := by rw [hz]; rfl
      rw [e0] at hlv
      subst hlv
      clear hz e0 hnl
      go_wp2_with fail
      go_rounds 1
      go_ret
      exact ⟨_, rfl, by rw [R.out]; exact HO.out⟩
    · have hpos : 0 < ns.length := List.length_pos_iff.2 hz
      obtain ⟨b, lc, hlv, hcell⟩ := ownS_slice HO.out hpos
      obtain ⟨L, hL⟩ : ∃ L, L = ns.length := ⟨_, rfl⟩
      have HL := hide' hL
      rw [← hL] at hlv hnl
      subst hlv
      clear hz hpos hcell hL
      go_wp2_with fail
      go_loopw [4, 5, 15] (fun _ _ i wr => ∃ j : Nat, j ≤ L ∧ i = .int .i64 j ∧ Hid (OwnS W (.slice (some ⟨b, 0, none⟩) L lc) ns wr)) (fun _ _ i _ => L - (intOf i).toNat)
      case atStart => exact ⟨0, by omega, rfl, HO⟩
      case round =>
        obtain ⟨j, hj, rfl, HW⟩ := hrel
        by_cases hlt : j < L
        · have hlt' : j < ns.length := by rw [← HL.out]; exact hlt
          obtain ⟨x1, x2⟩ := ownS_at HW.out HL.out j hlt'
          unfold S at x1
          have HX : Hid (S (ns[j]'hlt') = .string ⟨(ns[j]'hlt').toArray⟩) := rfl
          have hxl : (⟨(ns[j]'hlt').toArray⟩ : ByteArray).size ≤ 140737488351232 := by rw [size_l]; have := HSZ.out _ (List.getElem_mem hlt'); omega
          have AG : Hid (∀ w3, Below wr.heap.size wr w3 → OwnS W (.slice (some ⟨b, 0, none⟩) L lc) ns (w3.setCell ⟨b, j, none⟩ (S (ns[j]'hlt'))) ∧ w3.cell? ⟨b, j, none⟩ = some (S (ns[j]'hlt')) ∧ w3.frozen? ⟨b, j, none⟩ = false) := by
            intro w3 hb
            have h3 := ownS_mono HW.out hb
            have h4 := ownS_at h3 HL.out j hlt'
            have hL2 := HL.out
            subst hL2
            exact ⟨ownS_again h3 hlt', h4.1, h4.2⟩
          rw [HX.out] at AG
          generalize (⟨(ns[j]'hlt').toArray⟩ : ByteArray) = y at x1 AG hxl
          clear HX
          go_wp2_with (go_at_call 73; refine (clone y _ hxl).mono ?_; rintro e w3 ⟨rfl, b3⟩; obtain ⟨a3, y3, z3⟩ := AG.out w3 b3; have A3 := hide' a3; clear a3 b3)
          go_roundw
          case rel => exact ⟨j + 1, by omega, by go_num, A3⟩
          case measure => simp [intOf]; omega
        · go_wp2_with fail
          go_ret
          exact ⟨_, rfl, by rw [R.out]; exact HW.out⟩
end Go.Proofs.YtibjcofbhldenaaGreatDoor
namespace Go.Proofs.YtibjcofbhldenaaGreatDoor
open Go.RowKit
abbrev LSt := Dk × Int
def lgN : Nm := [108, 111, 103]
def nwN : Nm := [108, 111, 103, 46, 110, 101, 119]
abbrev lgB : ByteArray := ⟨#[108, 111, 103]⟩
abbrev nwBa : ByteArray := ⟨#[108, 111, 103, 46, 110, 101, 119]⟩
/-- one step of the disk, as a step of the log -/
def opT (op : DOp) (st : LSt) : LSt × Int := (((st.1.step op).1, st.2), (st.1.step op).2)
def setT (c : Int) (st : LSt) : LSt × Int := ((st.1, c), 0)
abbrev lptr (b : Nat) : Value := .pointer (some ⟨b, 0, none⟩)
/-- a log at block lb over the disk at block g -/
structure LogS (o : Ow) (g lb : Nat) (s : Dk) (c : Int) (W : World) : Prop where
  dsk : Dsk o g s W
  blk : Blk lb W [lptr g, .int .i64 c]
  no : o lb = none
structure GrowL (lb : Nat) (o : Ow) (W : World) (o' : Ow) (W' : World) : Prop where
  off : Off (fun k => o.has k ∨ k = lb) W W'
  le : o.le o'
  new : ∀ k, o'.has k → o.has k ∨ W.heap.size ≤ k
theorem GrowL.refl (lb : Nat) (o : Ow) (W : World) : GrowL lb o W o W := ⟨Off.refl _ _, fun _ _ e => e, fun _ h => .inl h⟩
theorem GrowL.trans {lb : Nat} {o o' o'' : Ow} {A B C : World} (h : GrowL lb o A o' B) (k : GrowL lb o' B o'' C) : GrowL lb o A o'' C :=
  ⟨h.off.trans k.off (fun i hi => by
    rcases hi with hi | hi
    · rcases h.new i hi with h1 | h1
      · exact .inl (.inl h1)
      · exact .inr h1
    · exact .inl (.inr hi)), fun i r e => k.le i r (h.le i r e), fun i hi => by
    rcases k.new i hi with h1 | h1
    · exact h.new i h1
    · exact .inr (Nat.le_trans h.off.size h1)⟩
theorem growL_of {lb : Nat} {o o' : Ow} {W W' : World} (h : Grow o W o' W') : GrowL lb o W o' W' := ⟨h.off.mono (fun _ e => .inl e), h.le, h.new⟩
theorem growL_below {lb : Nat} {o : Ow} {W W' : World} (h : Below W.heap.size W W') : GrowL lb o W o W' := growL_of (grow_below h)
theorem blk_below {b : Nat} {W W' : World} {vs : List Value} (h : Blk b W vs) (hb : Below W.heap.size W W') : Blk b W' vs :=
  ⟨fun j hj => ⟨(hb.cell (p := ⟨b, j, none⟩) h.2).trans (h.1 j hj).1, by rw [World.frozen?_of_block (w := W) (a := ⟨b, j, none⟩) (hb.block b h.2)]; exact (h.1 j hj).2⟩, Nat.lt_of_lt_of_le h.2 hb.size⟩
theorem blk_offL {W W' : World} {b : Nat} {vs : List Value} {S : Nat → Prop} (h : Blk b W vs) (ho : Off S W W') (hn : ¬ S b) : Blk b W' vs := by
  have e := ho.block b h.2 hn
  exact ⟨fun j hj => ⟨by rw [World.cell?_of_block (w := W) (a := ⟨b, j, none⟩) e]; exact (h.1 j hj).1, by rw [World.frozen?_of_block (w := W) (a := ⟨b, j, none⟩) e]; exact (h.1 j hj).2⟩, Nat.lt_of_lt_of_le h.2 ho.size⟩
theorem logS_below {o : Ow} {g lb : Nat} {s : Dk} {c : Int} {W W' : World} (h : LogS o g lb s c W) (hb : Below W.heap.size W W') : LogS o g lb s c W' := ⟨dsk_below h.dsk hb, blk_below h.blk hb, h.no⟩
theorem logS_cells {o : Ow} {g lb : Nat} {s : Dk} {c : Int} {W : World} (h : LogS o g lb s c W) : W.cell? ⟨lb, 0, none⟩ = some (lptr g) ∧ W.cell? ⟨lb, 1, none⟩ = some (.int .i64 c) ∧ W.frozen? ⟨lb, 1, none⟩ = false :=
  ⟨(h.blk.1 0 (by simp)).1, (h.blk.1 1 (by simp)).1, (h.blk.1 1 (by simp)).2⟩
def LPost (o : Ow) (g lb : Nat) (q : LSt × Int) (W : World) (e : Ending) (W' : World) : Prop := e = .returned (.int .i64 q.2) ∧ ∃ o', LogS o' g lb q.1.1 q.1.2 W' ∧ GrowL lb o W o' W'
theorem lpost_step {o : Ow} {g lb : Nat} {s : Dk} {c : Int} {op : DOp} {W W' : World} {e : Ending} (h : LogS o g lb s c W) (hs : StepPost o g s op W e W') : LPost o g lb (opT op (s, c)) W e W' := by
  obtain ⟨he, o', hd, hg⟩ := hs
  refine ⟨he, o', ⟨hd, blk_offL h.blk hg.off (fun hh => hh h.no), ?_⟩, growL_of hg⟩
  cases e2 : o' lb with
  | none => rfl
  | some r =>
    rcases hg.new lb (by unfold Ow.has; rw [e2]; simp) with h1 | h1
    · exact absurd h.no h1
    · have := h.blk.2; omega
theorem lpost_from {o o1 : Ow} {g lb : Nat} {q : LSt × Int} {W W1 W' : World} {e : Ending} (hg : GrowL lb o W o1 W1) (h : LPost o1 g lb q W1 e W') : LPost o g lb q W e W' := by
  obtain ⟨he, o', hl, hg'⟩ := h
  exact ⟨he, o', hl, hg.trans hg'⟩
/-- a block that a closure has captured: it lies aside from the log and its disk -/
def Cap (o : Ow) (lb b : Nat) (v : Value) (W : World) : Prop := Blk b W [v] ∧ o b = none ∧ b ≠ lb
theorem cap_cell {o : Ow} {lb b : Nat} {v : Value} {W : World} (h : Cap o lb b v W) : W.cell? ⟨b, 0, none⟩ = some v := (h.1.1 0 (by simp)).1
theorem cap_grow {o o' : Ow} {lb b : Nat} {v : Value} {W W' : World} (h : Cap o lb b v W) (hg : GrowL lb o W o' W') : Cap o' lb b v W' := by
  refine ⟨blk_offL h.1 hg.off (fun hh => ?_), ?_, h.2.2⟩
  · rcases hh with hh | hh
    · exact hh h.2.1
    · exact h.2.2 hh
  · cases e2 : o' b with
    | none => rfl
    | some r =>
      rcases hg.new b (by unfold Ow.has; rw [e2]; simp) with h1 | h1
      · exact absurd h.2.1 h1
      · have := h.1.2; omega
/-- bytes that a step is handed: they lie aside from the disk -/
def Byt (o : Ow) (lb : Nat) (v : Value) (bs : List UInt8) (W : World) : Prop := HoldsB W v bs ∧ ∀ ad n c, v = .slice (some ad) n c → o ad.block = none ∧ ad.block ≠ lb ∧ ad.block < W.heap.size
theorem byt_grow {o o' : Ow} {lb : Nat} {v : Value} {bs : List UInt8} {W W' : World} (h : Byt o lb v bs W) (hg : GrowL lb o W o' W') : Byt o' lb v bs W' := by
  refine ⟨holdsB_off h.1 hg.off (fun ad n c e hh => ?_), fun ad n c e => ?_⟩
  · obtain ⟨h1, h2, _⟩ := h.2 ad n c e
    rcases hh with hh | hh
    · exact hh h1
    · exact h2 hh
  · obtain ⟨h1, h2, h3⟩ := h.2 ad n c e
    refine ⟨?_, h2, Nat.lt_of_lt_of_le h3 hg.off.size⟩
    cases e2 : o' ad.block with
    | none => rfl
    | some r =>
      rcases hg.new ad.block (by unfold Ow.has; rw [e2]; simp) with h4 | h4
      · exact absurd h1 h4
      · omega
set_option maxRecDepth 20000
set_option maxHeartbeats 1000000
theorem syncF {o : Ow} {g lb : Nat} {s : Dk} {c : Int} {W : World} (h : LogS o g lb s c W) (hB : Bd 90000000 s) :
    Calls Tryz.prog 99 #[lptr lb] W fun e W' => LPost o g lb (opT ⟨3, lgN, [], []⟩ (s, c)) W e W' := by
  have C := hide' (syncC h.dsk lgB [] [] (by decide) (bd_mono hB (by decide)))
  have H := hide' h
  obtain ⟨c0, _, _⟩ := logS_cells h
  clear h hB
  go_enter Tryz.func99, Tryz.ntmps99
  go_wp2_with fail
  refine C.out.mono ?_
  intro e w1 sp
  have P := hide' (lpost_step H.out sp)
  obtain ⟨rfl, _⟩ := sp
  go_wp2_with fail
  go_ret
  exact P.out
theorem beginF1 {o : Ow} {g lb bl : Nat} {s : Dk} {c : Int} {W : World} (h : LogS o g lb s c W) (hc : Cap o lb bl (lptr lb) W) (hB : Bd 90000000 s) :
    Calls Tryz.prog 165 #[lptr bl] W fun e W' => LPost o g lb (opT ⟨1, lgN, [], []⟩ (s, c)) W e W' := by
  have C := hide' (createC h.dsk lgB [] [] (by decide) (bd_mono hB (by decide)))
  have H := hide' h
  obtain ⟨c0, _, _⟩ := logS_cells h
  have k0 := cap_cell hc
  clear h hB hc
  go_enter Tryz.func165, Tryz.ntmps165
  go_wp2_with fail
  refine C.out.mono ?_
  intro e w1 sp
  have P := hide' (lpost_step H.out sp)
  obtain ⟨rfl, _⟩ := sp
  go_wp2_with fail
  go_ret
  exact P.out
theorem rewriteF1 {o : Ow} {g lb bl : Nat} {s : Dk} {c : Int} {W : World} (h : LogS o g lb s c W) (hc : Cap o lb bl (lptr lb) W) (hB : Bd 90000000 s) :
    Calls Tryz.prog 168 #[lptr bl] W fun e W' => LPost o g lb (opT ⟨1, nwN, [], []⟩ (s, c)) W e W' := by
  have C := hide' (createC h.dsk nwBa [] [] (by decide) (bd_mono hB (by decide)))
  have H := hide' h
  obtain ⟨c0, _, _⟩ := logS_cells h
  have k0 := cap_cell hc
  clear h hB hc
  go_enter Tryz.func168, Tryz.ntmps168
  go_wp2_with fail
  refine C.out.mono ?_
  intro e w1 sp
  have P := hide' (lpost_step H.out sp)
  obtain ⟨rfl, _⟩ := sp
  go_wp2_with fail
  go_ret
  exact P.out
theorem replaceF2 {o : Ow} {g lb bl : Nat} {s : Dk} {c : Int} {W : World} (h : LogS o g lb s c W) (hc : Cap o lb bl (lptr lb) W) (hB : Bd 90000000 s) :
    Calls Tryz.prog 194 #[lptr bl] W fun e W' => LPost o g lb (opT ⟨3, nwN, [], []⟩ (s, c)) W e W' := by
  have C := hide' (syncC h.dsk nwBa [] [] (by decide) (bd_mono hB (by decide)))
  have H := hide' h
  obtain ⟨c0, _, _⟩ := logS_cells h
  have k0 := cap_cell hc
  clear h hB hc
  go_enter Tryz.func194, Tryz.ntmps194
  go_wp2_with fail
  refine C.out.mono ?_
  intro e w1 sp
  have P := hide' (lpost_step H.out sp)
  obtain ⟨rfl, _⟩ := sp
  go_wp2_with fail
  go_ret
  exact P.out
theorem replaceF3 {o : Ow} {g lb bl : Nat} {s : Dk} {c : Int} {W : World} (h : LogS o g lb s c W) (hc : Cap o lb bl (lptr lb) W) (hB : Bd 90000000 s) :
    Calls Tryz.prog 195 #[lptr bl] W fun e W' => LPost o g lb (opT ⟨5, nwN, lgN, []⟩ (s, c)) W e W' := by
  have C := hide' (renameC h.dsk nwBa lgB [] (by decide) (by decide) (bd_mono hB (by decide)))
  have H := hide' h
  obtain ⟨c0, _, _⟩ := logS_cells h
  have k0 := cap_cell hc
  clear h hB hc
  go_enter Tryz.func195, Tryz.ntmps195
  go_wp2_with fail
  refine C.out.mono ?_
  intro e w1 sp
  have P := hide' (lpost_step H.out sp)
  obtain ⟨rfl, _⟩ := sp
  go_wp2_with fail
  go_ret
  exact P.out
theorem appendL {o : Ow} {g lb bl bb : Nat} {s : Dk} {c : Int} {W : World} (h : LogS o g lb s c W) (nm : ByteArray) (hn : nm.size ≤ 100) {dv : Value} {d : List UInt8} (hc : Cap o lb bl (lptr lb) W) (hc2 : Cap o lb bb dv W) (hd : Byt o lb dv d W) (hl : d.length ≤ 1000000000) (hB : Bd 90000000 s) :
    ∀ w', Below W.heap.size W w' → Calls Tryz.prog 97 #[lptr g, .string nm, dv] w' fun e W' => LPost o g lb (opT ⟨2, nm.data.toList, [], d⟩ (s, c)) W e W' ∧ W'.cell? ⟨bl, 0, none⟩ = some (lptr lb) ∧ W'.cell? ⟨lb, 0, none⟩ = some (lptr g) ∧ W'.cell? ⟨bb, 0, none⟩ = some dv := by
  intro w' hb
  have h2 := logS_below h hb
  refine (appendC h2.dsk nm [] dv d (by omega) (bd_mono hB (by decide)) (holdsB_mono hd.1 hb) hl (fun ad n c e => (hd.2 ad n c e).1)).mono ?_
  intro e W' sp
  have P := lpost_from (growL_below hb) (lpost_step h2 sp)
  obtain ⟨_, o', hl', hg'⟩ := id P
  exact ⟨P, cap_cell (cap_grow hc hg'), (logS_cells hl').1, cap_cell (cap_grow hc2 hg')⟩
theorem addF1 {o : Ow} {g lb bl bb : Nat} {s : Dk} {c : Int} {W : World} (h : LogS o g lb s c W) (hc : Cap o lb bl (lptr lb) W) {da : Option Addr} {dl dc : Nat} {d : List UInt8} (hc2 : Cap o lb bb (.slice da dl dc) W) (hd : Byt o lb (.slice da dl dc) d W) (hl : d.length ≤ 1000000000) (hB : Bd 90000000 s) :
    Calls Tryz.prog 96 #[lptr bl, lptr bb] W fun e W' => LPost o g lb (opT ⟨2, lgN, [], d⟩ (s, c)) W e W' := by
  have C := hide' (appendL h lgB (by decide) hc hc2 hd hl hB)
  obtain ⟨c0, _, _⟩ := logS_cells h
  have k0 := cap_cell hc
  have k1 := cap_cell hc2
  clear h hB hc hc2 hd
  go_enter Tryz.func96, Tryz.ntmps96
  go_wp2_with fail
  go_region_held3 (fun w' => w'.cell? ⟨bl, 0, none⟩ = some (lptr lb) ∧ w'.cell? ⟨lb, 0, none⟩ = some (lptr g) ∧ w'.cell? ⟨bb, 0, none⟩ = some (.slice da dl dc)) (go_keep)
    (first | (go_at_call 97; refine (C.out _ ?_).mono ?_; (first | exact (Below.refl _ _).drew | exact Below.refl _ _); rintro e w2 ⟨P, j0, j1, j2⟩; have PP := hide' P; obtain ⟨rfl, _⟩ := P))
  all_goals
    go_wp2_with fail
    go_ret
    exact PP.out
theorem replaceF1 {o : Ow} {g lb bl bb : Nat} {s : Dk} {c : Int} {W : World} (h : LogS o g lb s c W) (hc : Cap o lb bl (lptr lb) W) {da : Option Addr} {dl dc : Nat} {d : List UInt8} (hc2 : Cap o lb bb (.slice da dl dc) W) (hd : Byt o lb (.slice da dl dc) d W) (hl : d.length ≤ 1000000000) (hB : Bd 90000000 s) :
    Calls Tryz.prog 193 #[lptr bl, lptr bb] W fun e W' => LPost o g lb (opT ⟨2, nwN, [], d⟩ (s, c)) W e W' := by
  have C := hide' (appendL h nwBa (by decide) hc hc2 hd hl hB)
  obtain ⟨c0, _, _⟩ := logS_cells h
  have k0 := cap_cell hc
  have k1 := cap_cell hc2
  clear h hB hc hc2 hd
  go_enter Tryz.func193, Tryz.ntmps193
  go_wp2_with fail
  go_region_held3 (fun w' => w'.cell? ⟨bl, 0, none⟩ = some (lptr lb) ∧ w'.cell? ⟨lb, 0, none⟩ = some (lptr g) ∧ w'.cell? ⟨bb, 0, none⟩ = some (.slice da dl dc)) (go_keep)
    (first | (go_at_call 97; refine (C.out _ ?_).mono ?_; (first | exact (Below.refl _ _).drew | exact Below.refl _ _); rintro e w2 ⟨P, j0, j1, j2⟩; have PP := hide' P; obtain ⟨rfl, _⟩ := P))
  all_goals
    go_wp2_with fail
    go_ret
    exact PP.out
theorem logS_set {o : Ow} {g lb : Nat} {s : Dk} {c : Int} {W : World} (h : LogS o g lb s c W) (c' : Int) : LogS o g lb s c' (W.setCell ⟨lb, 1, none⟩ (.int .i64 c')) ∧ GrowL lb o W o (W.setCell ⟨lb, 1, none⟩ (.int .i64 c')) := by
  have hoff : Off (fun k => o.has k ∨ k = lb) W (W.setCell ⟨lb, 1, none⟩ (.int .i64 c')) := off_poke (S := fun k => o.has k ∨ k = lb) ⟨lb, 1, none⟩ (.inr rfl) _
  have hoff2 : Off (fun k => k = lb) W (W.setCell ⟨lb, 1, none⟩ (.int .i64 c')) := off_poke (S := fun k => k = lb) ⟨lb, 1, none⟩ rfl _
  obtain ⟨k0, k1, k2⟩ := logS_cells h
  refine ⟨⟨dsk_off h.dsk hoff2 (fun k hk => by rw [hk]; exact h.no), ⟨fun j hj => ?_, ?_⟩, h.no⟩, ⟨hoff, fun _ _ e => e, fun _ hh => .inl hh⟩⟩
  · match j, hj with
    | 0, _ =>
      have f0 := (h.blk.1 0 (by simp)).2
      exact ⟨by rw [World.cell?_setCell_other _ _ _ _ (by simp)]; exact k0, by rw [World.frozen?_setCell]; exact f0⟩
    | 1, _ => exact ⟨World.cell?_setCell_same' _ _ _ (by rw [k1]; rfl), by rw [World.frozen?_setCell]; exact k2⟩
  · exact Nat.lt_of_lt_of_le h.blk.2 hoff.size
theorem countF1 {o : Ow} {g lb bc bl : Nat} {s : Dk} {c c' : Int} {W : World} (h : LogS o g lb s c W) (hc : Cap o lb bc (.int .i64 c') W) (hl : Cap o lb bl (lptr lb) W) :
    Calls Tryz.prog 141 #[lptr bc, lptr bl] W fun e W' => LPost o g lb (setT c' (s, c)) W e W' := by
  have P := hide' (logS_set h c')
  obtain ⟨c0, c1, c2⟩ := logS_cells h
  have k0 := cap_cell hc
  have k1 := cap_cell hl
  clear h hc hl
  go_enter Tryz.func141, Tryz.ntmps141
  go_wp2_with fail
  go_ret
  exact ⟨rfl, o, P.out.1, P.out.2⟩
theorem countF (lb : Nat) (c : Int) (W : World) :
    Calls Tryz.prog 98 #[lptr lb, .int .i64 c] W fun e W' => e = .returned (.func (.func 141) #[] #[lptr (W.heap.size + 1), lptr W.heap.size]) ∧ W' = (W.alloc (.cells #[lptr lb] 95)).alloc (.cells #[.int .i64 c] 3) := by
  go_enter Tryz.func98, Tryz.ntmps98
  go_wp2_with fail
  go_ret
  exact ⟨rfl, rfl⟩
end Go.Proofs.YtibjcofbhldenaaGreatDoor
namespace Go.Proofs.YtibjcofbhldenaaGreatDoor
open Go.RowKit Go.Maps Go.WideMaps
/-- an element of the table: a number -/
def iel (v : Value) : Option (DU × List MemPlace) := match v with
  | .int .i64 n => some (.lit (.int .i64 n), [])
  | _ => none
theorem iel_at (n : Int) : iel (.int .i64 n) = some (.lit (.int .i64 n), []) := rfl
theorem iel_inv {v : Value} {z : DU × List MemPlace} (h : iel v = some z) : ∃ n : Int, v = .int .i64 n ∧ z = (.lit (.int .i64 n), []) := by
  unfold iel at h
  split at h
  · simp only [Option.some.injEq] at h; exact ⟨_, rfl, h.symm⟩
  · cases h
theorem iel_lit {v : Value} {n : Int} {ps : List MemPlace} (h : iel v = some (.lit (.int .i64 n), ps)) : v = .int .i64 n := by
  obtain ⟨m, hv, e⟩ := iel_inv h
  simp only [Prod.mk.injEq, DataW.lit.injEq, Lit.int.injEq, true_and] at e
  rw [hv, e.1]
/-- a table of ids -/
def Tbi (W : World) (m : Nat) (t : NL) : Prop := W.ownsMap Tryz.prog 9 iel m t.length (dOf (fun b => b) t)
theorem zeroI (w : World) : (zeroValue 3).run Tryz.prog w = .ok (.int .i64 0) w := by kernel_rfl
theorem tbi_put {W : World} {m : Nat} {l : NL} {n : Nm} {k : Nat} {x : Nat} (h : W.ownsMap Tryz.prog 9 iel m x ((dOf (fun b => b) l).put (.string n) (.lit (.int .i64 (k : Int))))) : Tbi W m (putN l n k) := by
  rw [dOf_put (fun b => b)] at h
  have := own_tight h
  rw [dOf_size] at this
  exact this
theorem tbi_del {W : World} {m : Nat} {l : NL} {n : Nm} {x : Nat} (h : W.ownsMap Tryz.prog 9 iel m x ((dOf (fun b => b) l).del (.string n))) : Tbi W m (delN l n) := by
  rw [dOf_del] at h
  have := own_tight h
  rw [dOf_size] at this
  exact this
theorem tbi_block {W W' : World} {m : Nat} {l : NL} (h : Tbi W m l) (hb : W'.heap[m]? = W.heap[m]?) : Tbi W' m l := by
  obtain ⟨es, clock, hh, F, hn, hD⟩ := h
  exact ⟨es, clock, by rw [hb]; exact hh, F, hn, hD⟩
theorem tbi_lt {W : World} {m : Nat} {l : NL} (h : Tbi W m l) : m < W.heap.size := by
  obtain ⟨es, clock, hh, _⟩ := h
  rcases Nat.lt_or_ge m W.heap.size with h | h
  · exact h
  · rw [Array.getElem?_eq_none h] at hh; cases hh
theorem tbi_off {W W' : World} {m : Nat} {l : NL} {S : Nat → Prop} (h : Tbi W m l) (ho : Off S W W') (hn : ¬ S m) : Tbi W' m l := tbi_block h (ho.block m (tbi_lt h) hn)
theorem tbi_some {W : World} {m : Nat} {l : NL} (h : Tbi W m l) {s : ByteArray} (hs : s.size ≤ 140737488351232) {k : Nat} (ha : atN l s.data.toList = some k) :
    (Instr.lookup 99 (.map (some m)) (.string s) true).run Tryz.prog W = .ok (.tuple #[.int .i64 (k : Int), .bool true]) W := by
  obtain ⟨v, ps, h1, h2⟩ := World.ownsMap.look_ok h kStr Tryz.underlying99 (zeroI W) (iel_at 0) (key_str hs)
  rw [dOf_some ha] at h2
  rw [dOf_has, ha] at h1
  rw [h1, iel_lit h2]
  rfl
theorem tbi_none {W : World} {m : Nat} {l : NL} (h : Tbi W m l) {s : ByteArray} (hs : s.size ≤ 140737488351232) (ha : atN l s.data.toList = none) :
    (Instr.lookup 99 (.map (some m)) (.string s) true).run Tryz.prog W = .ok (.tuple #[.int .i64 0, .bool false]) W := by
  obtain ⟨v, ps, h1, h2⟩ := World.ownsMap.look_ok h kStr Tryz.underlying99 (zeroI W) (iel_at 0) (key_str hs)
  rw [dOf_none ha] at h2
  rw [dOf_has, ha] at h1
  rw [h1, iel_lit h2]
  rfl
theorem tbi_one {W : World} {m : Nat} {l : NL} (h : Tbi W m l) {s : ByteArray} (hs : s.size ≤ 140737488351232) {k : Nat} (ha : atN l s.data.toList = some k) :
    (Instr.lookup 99 (.map (some m)) (.string s) false).run Tryz.prog W = .ok (.int .i64 (k : Int)) W := by
  obtain ⟨v, ps, h1, h2⟩ := World.ownsMap.lookup h kStr Tryz.underlying99 (zeroI W) (iel_at 0) (key_str hs)
  rw [dOf_some ha] at h2
  rw [h1, iel_lit h2]
theorem tbi_len {W : World} {m : Nat} {l : NL} (h : Tbi W m l) (ty : TypeId) : (Builtin.len_ #[99] ty #[.map (some m)]).run Tryz.prog W = .ok (.int .i64 (l.length : Int)) W := by
  have h1 := World.ownsMap.len h Tryz.underlying99 ty
  rw [dOf_size] at h1
  exact h1
theorem tbi_update {W : World} {m : Nat} {l : NL} (h : Tbi W m l) {s : ByteArray} (hs : s.size ≤ 140737488351232) (k : Nat) (hl : l.length < 1000000000) :
    ∃ w', (Instr.mapUpdate 99 (.map (some m)) (.string s) (.int .i64 (k : Int))).run Tryz.prog W = .ok () w' ∧ Tbi w' m (putN l s.data.toList k) ∧ Off (fun x => x = m) W w' := by
  obtain ⟨w', h1, h2, h3⟩ := World.ownsMap.update h kStr Tryz.underlying99 (by unfold maxLen; omega) (key_str hs) (iel_at (k : Int))
  exact ⟨w', h1, tbi_put h2, off_grown h3 (fun x e => (Option.some.inj e).symm)⟩
theorem tbi_delete {W : World} {m : Nat} {l : NL} (h : Tbi W m l) {s : ByteArray} (hs : s.size ≤ 140737488351232) (ty : TypeId) :
    ∃ w', (Builtin.delete_ #[99, 9] ty #[.map (some m), .string s]).run Tryz.prog W = .ok (.tuple #[]) w' ∧ Tbi w' m (delN l s.data.toList) ∧ Off (fun x => x = m) W w' := by
  obtain ⟨w', h1, h2, h3⟩ := World.ownsMap.drop h kStr Tryz.underlying99 (key_str hs) ty
  exact ⟨w', h1, tbi_del h2, off_grown h3.grown (fun x e => (Option.some.inj e).symm)⟩
/-- a store at block sb over the log at lb, the disk at g and the table at tm -/
structure StoS (o : Ow) (g lb sb tm : Nat) (slots : Int) (s : Dk) (c : Int) (t : NL) (W : World) : Prop where
  log : LogS o g lb s c W
  blk : Blk sb W [lptr g, lptr lb, .int .i64 slots, .map (some tm)]
  tab : Tbi W tm t
  osb : o sb = none
  otm : o tm = none
  nls : sb ≠ lb
  nlt : tm ≠ lb
  nst : sb ≠ tm
  srt : SortedN t
/-- what the store's own work does: the blocks of the disk, of the log and of the table alone are written, new ones may be made -/
structure GrowT (lb tm : Nat) (o : Ow) (W : World) (o' : Ow) (W' : World) : Prop where
  off : Off (fun k => o.has k ∨ k = lb ∨ k = tm) W W'
  le : o.le o'
  new : ∀ k, o'.has k → o.has k ∨ W.heap.size ≤ k
theorem GrowT.refl (lb tm : Nat) (o : Ow) (W : World) : GrowT lb tm o W o W := ⟨Off.refl _ _, fun _ _ e => e, fun _ h => .inl h⟩
theorem GrowT.trans {lb tm : Nat} {o o' o'' : Ow} {A B C : World} (h : GrowT lb tm o A o' B) (k : GrowT lb tm o' B o'' C) : GrowT lb tm o A o'' C :=
  ⟨h.off.trans k.off (fun i hi => by
    rcases hi with hi | hi
    · rcases h.new i hi with h1 | h1
      · exact .inl (.inl h1)
      · exact .inr h1
    · exact .inl (.inr hi)), fun i r e => k.le i r (h.le i r e), fun i hi => by
    rcases k.new i hi with h1 | h1
    · exact h.new i h1
    · exact .inr (Nat.le_trans h.off.size h1)⟩
theorem growT_of {lb tm : Nat} {o o' : Ow} {W W' : World} (h : GrowL lb o W o' W') : GrowT lb tm o W o' W' := ⟨h.off.mono (fun _ e => by rcases e with e | e; exact .inl e; exact .inr (.inl e)), h.le, h.new⟩
theorem growT_below {lb tm : Nat} {o : Ow} {W W' : World} (h : Below W.heap.size W W') : GrowT lb tm o W o W' := growT_of (growL_below h)
theorem growT_tab {lb tm : Nat} {o : Ow} {W W' : World} (h : Off (fun x => x = tm) W W') : GrowT lb tm o W o W' := ⟨h.mono (fun _ e => .inr (.inr e)), fun _ _ e => e, fun _ h => .inl h⟩
theorem none_growT {lb tm b : Nat} {o o' : Ow} {W W' : World} (hg : GrowT lb tm o W o' W') (h : o b = none) (hb : b < W.heap.size) : o' b = none := by
  cases e2 : o' b with
  | none => rfl
  | some r =>
    rcases hg.new b (by unfold Ow.has; rw [e2]; simp) with h1 | h1
    · exact absurd h h1
    · omega
theorem stoS_below {o : Ow} {g lb sb tm : Nat} {slots : Int} {s : Dk} {c : Int} {t : NL} {W W' : World} (h : StoS o g lb sb tm slots s c t W) (hb : Below W.heap.size W W') : StoS o g lb sb tm slots s c t W' :=
  ⟨logS_below h.log hb, blk_below h.blk hb, tbi_block h.tab (hb.block tm (tbi_lt h.tab)), h.osb, h.otm, h.nls, h.nlt, h.nst, h.srt⟩
/-- the log has worked -/
theorem stoS_log {o o' : Ow} {g lb sb tm : Nat} {slots : Int} {s s' : Dk} {c c' : Int} {t : NL} {W W' : World} (h : StoS o g lb sb tm slots s c t W) (hl : LogS o' g lb s' c' W') (hg : GrowL lb o W o' W') : StoS o' g lb sb tm slots s' c' t W' := by
  have n1 : ¬ (o.has sb ∨ sb = lb) := fun e => by rcases e with e | e; exact e h.osb; exact h.nls e
  have n2 : ¬ (o.has tm ∨ tm = lb) := fun e => by rcases e with e | e; exact e h.otm; exact h.nlt e
  exact ⟨hl, blk_offL h.blk hg.off n1, tbi_off h.tab hg.off n2, none_growT (tm := tm) (growT_of hg) h.osb h.blk.2, none_growT (tm := tm) (growT_of hg) h.otm (tbi_lt h.tab), h.nls, h.nlt, h.nst, h.srt⟩
/-- the table has turned -/
theorem stoS_tab {o : Ow} {g lb sb tm : Nat} {slots : Int} {s : Dk} {c : Int} {t t' : NL} {W W' : World} (h : StoS o g lb sb tm slots s c t W) (ht : Tbi W' tm t') (ho : Off (fun x => x = tm) W W') (hs : SortedN t') : StoS o g lb sb tm slots s c t' W' := by
  refine ⟨⟨?_, blk_offL h.log.blk ho (fun e => h.nlt e.symm), h.log.no⟩, blk_offL h.blk ho h.nst, ht, h.osb, h.otm, h.nls, h.nlt, h.nst, hs⟩
  exact dsk_off h.log.dsk ho (fun k e => by rw [e]; exact h.otm)
theorem stoS_cells {o : Ow} {g lb sb tm : Nat} {slots : Int} {s : Dk} {c : Int} {t : NL} {W : World} (h : StoS o g lb sb tm slots s c t W) : W.cell? ⟨sb, 0, none⟩ = some (lptr g) ∧ W.cell? ⟨sb, 1, none⟩ = some (lptr lb) ∧ W.cell? ⟨sb, 2, none⟩ = some (.int .i64 slots) ∧ W.cell? ⟨sb, 3, none⟩ = some (.map (some tm)) :=
  ⟨(h.blk.1 0 (by simp)).1, (h.blk.1 1 (by simp)).1, (h.blk.1 2 (by simp)).1, (h.blk.1 3 (by simp)).1⟩
/-- what a call of the store that answers an error's number leaves -/
def TPost (o : Ow) (g lb sb tm : Nat) (slots : Int) (q : (LSt × NL) × Int) (W : World) (e : Ending) (W' : World) : Prop := e = .returned (.int .i64 q.2) ∧ ∃ o', StoS o' g lb sb tm slots q.1.1.1 q.1.1.2 q.1.2 W' ∧ GrowT lb tm o W o' W'
theorem tpost_log {o : Ow} {g lb sb tm : Nat} {slots : Int} {s : Dk} {c : Int} {t : NL} {q : LSt × Int} {W W' : World} {e : Ending} (h : StoS o g lb sb tm slots s c t W) (hl : LPost o g lb q W e W') : TPost o g lb sb tm slots ((q.1, t), q.2) W e W' := by
  obtain ⟨he, o', h1, h2⟩ := hl
  exact ⟨he, o', stoS_log h h1 h2, growT_of h2⟩
end Go.Proofs.YtibjcofbhldenaaGreatDoor
namespace Go.Proofs.YtibjcofbhldenaaGreatDoor
open Go.RowKit Go.Maps
end Go.Proofs.YtibjcofbhldenaaGreatDoor
namespace Go.Proofs.YtibjcofbhldenaaGreatDoor
open Go.RowKit Go.Maps Go.Sort Go.Shelf
theorem keysI (mb : Option Nat) (W : World) : Calls Tryz.prog 124 #[.map mb] W fun e w' => e = .returned (.func (.func 162) #[] #[.pointer (some ⟨W.heap.size, 0, none⟩)]) ∧ w' = W.alloc (.cells #[.map mb] 99) :=
  (callsIn_wide (n := 5)).1 (AnyZ.keys_in Tryz.mkeyi Fence.wide 5 trivial rfl mb W)
set_option maxHeartbeats 1000000 in
theorem sortedI {H : Type} (b nn : Nat) (D0 : DataW H) (R : Value → Option (DataW H × List MemPlace)) (w : World) (hown : w.ownsMap Tryz.prog 9 R b nn D0) (hmax : Maps.size D0 ≤ maxLen) (hbytes : Maps.size D0 * 16 ≤ 140737488355328) :
    Calls Tryz.prog 122 #[.func (.func 162) #[] #[.pointer (some ⟨w.heap.size, 0, none⟩)]] (w.alloc (.cells #[.map (some b)] 99)) fun e w' => ∃ (v : Value) (ss : List (List UInt8)), e = .returned v ∧ ss.Perm (strKeys D0) ∧
      w'.ownsRow (w.alloc (.cells #[.map (some b)] 99)).heap.size 9 1 v ss.length ((ss.mergeSort (fun x y => decide (x ≤ y))).map encStr) ∧ (v = .slice none 0 0 ↔ ss = []) ∧ Below (w.alloc (.cells #[.map (some b)] 99)).heap.size (w.alloc (.cells #[.map (some b)] 99)) w' := by
  have hbl := hown.lt
  have hseq : SeqGives Fence.wide 2 Tryz.prog 162 #[.pointer (some ⟨w.heap.size, 0, none⟩)] encStr (fun ss => ss.Perm (strKeys D0)) (Maps.size D0) (w.alloc (.cells #[.map (some b)] 99)) :=
    AnyZ.keys_gives (ρ := Tryz.mkeyi_ren) { Tryz.mkeyi with } Fence.wide _ trivial rfl (by omega) w.heap.size b nn D0 _ (by simp) (by simp) (by
      obtain ⟨es, clock, hb, Ft, hs, hD⟩ := hown
      exact ⟨es, clock, (Below.heap_alloc _ _ b hbl).trans hb, Ft, hs, hD⟩)
  exact (callsIn_wide (n := 5)).1 (AnyZ.sorted_in Tryz.ssorted Fence.wide 5 trivial trivial trivial trivial rfl (by omega) (sortsK _) (enters_of Tryz.func160 (by kernel_rfl) rfl) 162 #[.pointer (some ⟨w.heap.size, 0, none⟩)] trivial (enters_of Tryz.func162 (by kernel_rfl) rfl) _ _ hmax hbytes _ hseq)
set_option maxHeartbeats 1000000 in
theorem idsC {o : Ow} {g lb sb tm : Nat} {slots : Int} {s : Dk} {c : Int} {t : NL} {W : World} (h : StoS o g lb sb tm slots s c t W) (hl : t.length ≤ 1000000000) :
    Calls Tryz.prog 78 #[lptr sb] W fun e w' => ∃ v, e = .returned v ∧ OwnS W v (t.map (fun p => p.1)) w' := by
  have hs := h.srt
  have C1 := hide' (keysI (some tm) W)
  have C2 := hide' (sortedI tm t.length (dOf (fun b => b) t) iel W h.tab (by rw [dOf_size]; unfold maxLen; omega) (by rw [dOf_size]; omega))
  obtain ⟨-, -, -, c3⟩ := stoS_cells h
  clear h
  go_enter Tryz.func78, Tryz.ntmps78
  go_wp2_with (first
    | (go_at_call 124; refine C1.out.mono ?_; rintro e w' ⟨rfl, rfl⟩)
    | (go_at_call 122; refine C2.out.mono ?_; rintro e w' ⟨v, ss, rfl, h1, h2, h3, h4⟩; have H1 := hide' h1; have H2 := hide' h2; have H4 := hide' h4; clear h1 h2 h3 h4))
  go_ret
  have hp := H1.out
  rw [dOf_keys] at hp
  have e := sorted_keys hs hp
  have h2 := H2.out
  rw [e] at h2
  have hlen : ss.length = (t.map (fun p => p.1)).length := hp.length_eq
  rw [hlen] at h2
  refine ⟨v, rfl, row_base h2 (by simp), ?_⟩
  exact (below_alloc' W _).trans (H4.out.mono (by simp))
end Go.Proofs.YtibjcofbhldenaaGreatDoor
namespace Go.Proofs.YtibjcofbhldenaaGreatDoor
open Go.RowKit Go.Maps
theorem mcloneC {W : World} {m : Nat} {fb : Nat → Nat} {l : NL} (h : Tbl W m fb l) : Calls Tryz.prog 74 #[.map (some m)] W fun e w' => e = .returned (.map (some W.heap.size)) ∧ Tbl w' W.heap.size fb l ∧ Below W.heap.size W w' :=
  (AnyW.maps_Clone_owns Tryz.mclone 9 pel m l.length (dOf fb l) W h).mono (fun _ _ ⟨h1, h2, _, h4⟩ => ⟨h1, h2, h4⟩)
end Go.Proofs.YtibjcofbhldenaaGreatDoor
namespace Go.Proofs.YtibjcofbhldenaaGreatDoor
open Go.RowKit Go.Maps
/-- one step of the disk, seen by the store -/
theorem tpost_step {o : Ow} {g lb sb tm : Nat} {slots : Int} {s : Dk} {c : Int} {t : NL} {op : DOp} {W W' : World} {e : Ending} (h : StoS o g lb sb tm slots s c t W) (hs : StepPost o g s op W e W') : e = .returned (.int .i64 (s.step op).2) ∧ ∃ o', StoS o' g lb sb tm slots (s.step op).1 c t W' ∧ GrowT lb tm o W o' W' :=
  tpost_log h (lpost_step h.log hs)
/-- bytes that lie aside from the disk -/
def Asd (o : Ow) (v : Value) : Prop := ∀ ad n c, v = .slice (some ad) n c → o ad.block = none
set_option maxRecDepth 20000
set_option maxHeartbeats 1000000
/-- Count of a log -/
theorem countC {o : Ow} {g lb : Nat} {s : Dk} {c : Int} {W : World} (h : LogS o g lb s c W) :
    Calls Tryz.prog 55 #[lptr lb] W fun e W' => e = .returned (.int .i64 c) ∧ W' = W := by
  obtain ⟨c0, c1, _⟩ := logS_cells h
  clear h
  go_enter Tryz.func55, Tryz.ntmps55
  go_wp2_with fail
  go_ret
  exact ⟨rfl, rfl⟩
def fileT (nm : Nm) (d : List UInt8) : LSt → LSt × Int := runT [opT ⟨2, nm, [], d⟩, opT ⟨3, nm, [], []⟩, opT ⟨4, [], [], []⟩]
theorem fillC {o : Ow} {g lb sb tm : Nat} {slots : Int} {s : Dk} {c : Int} {t : NL} {W : World} (h : StoS o g lb sb tm slots s c t W) (m : Nat) (hB : Bd m s) (hm : m ≤ 50000000) (nm : ByteArray) (hn : nm.size ≤ 140737488351232) (dv : Value) (d : List UInt8) (hd : HoldsB W dv d) (hdl : d.length ≤ 1000000) (hav : Asd o dv) :
    Calls Tryz.prog 117 #[lptr sb, .string nm, dv] W fun e W' => TPost o g lb sb tm slots (((fileT nm.data.toList d (s, c)).1, t), (fileT nm.data.toList d (s, c)).2) W e W' ∧ Bd (m + 6 + d.length) (fileT nm.data.toList d (s, c)).1.1 := by
  have C1 := hide' (appendC h.log.dsk nm [] dv d hn (bd_mono hB (by omega)) hd (by omega) hav)
  have H := hide' h
  have hB1 := bd_step hB ⟨2, nm.data.toList, [], d⟩
  have BB1 := hide' hB1
  obtain ⟨c0, -⟩ := stoS_cells h
  clear h hB hd hav hB1
  go_enter Tryz.func117, Tryz.ntmps117
  go_wp2_with fail
  refine C1.out.mono ?_
  intro e w1 sp
  have P1 := hide' (tpost_step H.out sp)
  obtain ⟨rfl, -⟩ := sp
  obtain ⟨-, o1, S1, G1⟩ := P1.out
  have HS1 := hide' S1
  have HG1 := hide' G1
  have R1 : Hid ((opT ⟨2, nm.data.toList, [], d⟩ (s, c)).2 = (s.step ⟨2, nm.data.toList, [], d⟩).2) := rfl
  have Q1 : Hid ((opT ⟨2, nm.data.toList, [], d⟩ (s, c)).1 = ((s.step ⟨2, nm.data.toList, [], d⟩).1, c)) := rfl
  clear S1 G1 P1 C1 c0
  by_cases e1 : (s.step ⟨2, nm.data.toList, [], d⟩).2 = 0
  · have F1 : Hid (fileT nm.data.toList d (s, c) = runT [opT ⟨3, nm.data.toList, [], []⟩, opT ⟨4, [], [], []⟩] ((s.step ⟨2, nm.data.toList, [], d⟩).1, c)) := by
      unfold Hid fileT
      rw [runT_ok (by rw [R1.out]; exact e1), Q1.out]
    rw [e1]
    obtain ⟨s1, hs1⟩ : ∃ s1, s1 = (s.step ⟨2, nm.data.toList, [], d⟩).1 := ⟨_, rfl⟩
    rw [← hs1] at HS1 F1 BB1
    clear hs1 e1 R1 Q1
    have C2 := hide' (syncC HS1.out.log.dsk nm [] [] hn (bd_mono BB1.out (by show m + 2 + d.length ≤ _; omega)))
    have BB2 := hide' (bd_step BB1.out ⟨3, nm.data.toList, [], []⟩)
    obtain ⟨c0, -⟩ := stoS_cells HS1.out
    go_wp2_with fail
    refine C2.out.mono ?_
    intro e w2 sp
    have P2 := hide' (tpost_step HS1.out sp)
    obtain ⟨rfl, -⟩ := sp
    obtain ⟨-, o2, S2, G2⟩ := P2.out
    have HS2 := hide' S2
    have HG2 := hide' (HG1.out.trans G2)
    clear S2 G2 P2 C2 c0 HS1 HG1
    by_cases e2 : (s1.step ⟨3, nm.data.toList, [], []⟩).2 = 0
    · have F2 : Hid (fileT nm.data.toList d (s, c) = runT [opT ⟨4, [], [], []⟩] ((s1.step ⟨3, nm.data.toList, [], []⟩).1, c)) := by
        unfold Hid
        rw [F1.out, runT_ok (show (opT ⟨3, nm.data.toList, [], []⟩ (s1, c)).2 = 0 from e2)]
        rfl
      rw [e2]
      obtain ⟨s2, hs2⟩ : ∃ s2, s2 = (s1.step ⟨3, nm.data.toList, [], []⟩).1 := ⟨_, rfl⟩
      rw [← hs2] at HS2 F2 BB2
      clear hs2 e2 F1
      have C3 := hide' (syncNamesC HS2.out.log.dsk [] [] [] (bd_mono BB2.out (by simp only [List.length_nil]; omega)))
      have BB3 := hide' (bd_step BB2.out ⟨4, [], [], []⟩)
      obtain ⟨c0, -⟩ := stoS_cells HS2.out
      go_wp2_with fail
      refine C3.out.mono ?_
      intro e w3 sp
      have P3 := hide' (tpost_step HS2.out sp)
      obtain ⟨rfl, -⟩ := sp
      obtain ⟨-, o3, S3, G3⟩ := P3.out
      have HS3 := hide' S3
      have HG3 := hide' (HG2.out.trans G3)
      have F3 : Hid (fileT nm.data.toList d (s, c) = (((s2.step ⟨4, [], [], []⟩).1, c), (s2.step ⟨4, [], [], []⟩).2)) := by
        unfold Hid
        rw [F2.out]
        show (if (opT ⟨4, [], [], []⟩ (s2, c)).2 = 0 then runT [] (opT ⟨4, [], [], []⟩ (s2, c)).1 else opT ⟨4, [], [], []⟩ (s2, c)) = _
        split
        · rename_i h0
          show ((opT ⟨4, [], [], []⟩ (s2, c)).1, (0 : Int)) = _
          rw [← h0]; rfl
        · rfl
      clear S3 G3 P3 C3 c0 HS2 HG2 F2
      go_wp2_with fail
      go_ret
      rw [F3.out]
      exact ⟨⟨rfl, o3, HS3.out, HG3.out⟩, bd_mono BB3.out (by simp only [List.length_nil]; omega)⟩
    · have F2 : Hid (fileT nm.data.toList d (s, c) = (((s1.step ⟨3, nm.data.toList, [], []⟩).1, c), (s1.step ⟨3, nm.data.toList, [], []⟩).2)) := by
        unfold Hid
        rw [F1.out, runT_bad (show (opT ⟨3, nm.data.toList, [], []⟩ (s1, c)).2 ≠ 0 from e2)]
        rfl
      have e2' : ((s1.step ⟨3, nm.data.toList, [], []⟩).2 == 0) = false := by simpa using e2
      clear e2 F1
      go_wp2_with fail
      go_ret
      rw [F2.out]
      exact ⟨⟨rfl, o2, HS2.out, HG2.out⟩, bd_mono BB2.out (by simp only [List.length_nil]; omega)⟩
  · have F1 : Hid (fileT nm.data.toList d (s, c) = (((s.step ⟨2, nm.data.toList, [], d⟩).1, c), (s.step ⟨2, nm.data.toList, [], d⟩).2)) := by
      unfold Hid fileT
      rw [runT_bad (show (opT ⟨2, nm.data.toList, [], d⟩ (s, c)).2 ≠ 0 from e1)]
      rfl
    have e1' : ((s.step ⟨2, nm.data.toList, [], d⟩).2 == 0) = false := by simpa using e1
    clear e1 R1 Q1
    go_wp2_with fail
    go_ret
    rw [F1.out]
    exact ⟨⟨rfl, o1, HS1.out, HG1.out⟩, bd_mono BB1.out (by show m + 2 + d.length ≤ _; omega)⟩
/-- create: a file without bytes -/
def createT (nm : Nm) (st : LSt) : LSt × Int := if nm ∈ st.1.list then runT [opT ⟨6, nm, [], []⟩, opT ⟨1, nm, [], []⟩] st else opT ⟨1, nm, [], []⟩ st
theorem createSC {o : Ow} {g lb sb tm : Nat} {slots : Int} {s : Dk} {c : Int} {t : NL} {W : World} (h : StoS o g lb sb tm slots s c t W) (m : Nat) (hB : Bd m s) (hm : m ≤ 50000000) (nm : ByteArray) (hn : nm.size ≤ 140737488351232) :
    Calls Tryz.prog 116 #[lptr sb, .string nm] W fun e W' => TPost o g lb sb tm slots (((createT nm.data.toList (s, c)).1, t), (createT nm.data.toList (s, c)).2) W e W' ∧ Bd (m + 4) (createT nm.data.toList (s, c)).1.1 := by
  have CL := hide' (listC h.log.dsk (bd_mono hB (by omega)))
  have hll : s.list.length ≤ 50000000 := by
    unfold Dk.list
    split
    · simp
    · rw [List.length_map]; have := hB.2.2.1; omega
  have H := hide' h
  have BB := hide' hB
  obtain ⟨c0, -⟩ := stoS_cells h
  clear h hB
  go_enter Tryz.func116, Tryz.ntmps116
  go_wp2_with fail
  refine CL.out.mono ?_
  rintro e w1 ⟨lv, rfl, ho⟩
  have HS1 := hide' (stoS_below H.out ho.2)
  have HG1 : Hid (GrowT lb tm o W o w1) := growT_below ho.2
  have CC := hide' (containsS lv s.list nm.data.toList w1 (holds_own ho) (by omega))
  rw [ba_eta] at CC
  obtain ⟨la, lc, _, _, hlv, -⟩ := holds_partsC (holds_own ho)
  rw [hlv] at CC ⊢
  clear ho hlv H CL c0
  obtain ⟨c0, -⟩ := stoS_cells HS1.out
  by_cases hin : nm.data.toList ∈ s.list
  · rw [decide_eq_true hin] at CC
    have F0 : Hid (createT nm.data.toList (s, c) = runT [opT ⟨6, nm.data.toList, [], []⟩, opT ⟨1, nm.data.toList, [], []⟩] (s, c)) := by unfold Hid createT; rw [if_pos hin]
    clear hin
    have C2 := hide' (removeC HS1.out.log.dsk nm [] [] hn (bd_mono BB.out (by omega)))
    have BB1 := hide' (bd_step BB.out ⟨6, nm.data.toList, [], []⟩)
    go_wp2_with fail
    refine CC.out.mono ?_
    rintro e w9 ⟨rfl, ew⟩
    rw [ew]
    clear ew w9
    go_wp2_with fail
    refine C2.out.mono ?_
    intro e w2 sp
    have P2 := hide' (tpost_step HS1.out sp)
    obtain ⟨rfl, -⟩ := sp
    obtain ⟨-, o2, S2, G2⟩ := P2.out
    have HS2 := hide' S2
    have HG2 := hide' (HG1.out.trans G2)
    clear S2 G2 P2 C2 c0 HS1 HG1 CC
    by_cases e2 : (s.step ⟨6, nm.data.toList, [], []⟩).2 = 0
    · have F1 : Hid (createT nm.data.toList (s, c) = runT [opT ⟨1, nm.data.toList, [], []⟩] ((s.step ⟨6, nm.data.toList, [], []⟩).1, c)) := by
        unfold Hid
        rw [F0.out, runT_ok (show (opT ⟨6, nm.data.toList, [], []⟩ (s, c)).2 = 0 from e2)]
        rfl
      rw [e2]
      obtain ⟨s2, hs2⟩ : ∃ s2, s2 = (s.step ⟨6, nm.data.toList, [], []⟩).1 := ⟨_, rfl⟩
      rw [← hs2] at HS2 F1 BB1
      clear hs2 e2 F0
      have C3 := hide' (createC HS2.out.log.dsk nm [] [] hn (bd_mono BB1.out (by simp only [List.length_nil]; omega)))
      have BB3 := hide' (bd_step BB1.out ⟨1, nm.data.toList, [], []⟩)
      obtain ⟨c0, -⟩ := stoS_cells HS2.out
      go_wp2_with fail
      refine C3.out.mono ?_
      intro e w3 sp
      have P3 := hide' (tpost_step HS2.out sp)
      obtain ⟨rfl, -⟩ := sp
      obtain ⟨-, o3, S3, G3⟩ := P3.out
      have HS3 := hide' S3
      have HG3 := hide' (HG2.out.trans G3)
      have F3 : Hid (createT nm.data.toList (s, c) = (((s2.step ⟨1, nm.data.toList, [], []⟩).1, c), (s2.step ⟨1, nm.data.toList, [], []⟩).2)) := by
        unfold Hid
        rw [F1.out]
        show (if (opT ⟨1, nm.data.toList, [], []⟩ (s2, c)).2 = 0 then runT [] (opT ⟨1, nm.data.toList, [], []⟩ (s2, c)).1 else opT ⟨1, nm.data.toList, [], []⟩ (s2, c)) = _
        split
        · rename_i h0
          show ((opT ⟨1, nm.data.toList, [], []⟩ (s2, c)).1, (0 : Int)) = _
          rw [← h0]; rfl
        · rfl
      clear S3 G3 P3 C3 c0 HS2 HG2 F1
      go_wp2_with fail
      go_ret
      rw [F3.out]
      exact ⟨⟨rfl, o3, HS3.out, HG3.out⟩, bd_mono BB3.out (by simp only [List.length_nil]; omega)⟩
    · have F1 : Hid (createT nm.data.toList (s, c) = (((s.step ⟨6, nm.data.toList, [], []⟩).1, c), (s.step ⟨6, nm.data.toList, [], []⟩).2)) := by
        unfold Hid
        rw [F0.out, runT_bad (show (opT ⟨6, nm.data.toList, [], []⟩ (s, c)).2 ≠ 0 from e2)]
        rfl
      have e2' : ((s.step ⟨6, nm.data.toList, [], []⟩).2 == 0) = false := by simpa using e2
      clear e2 F0
      go_wp2_with fail
      go_ret
      rw [F1.out]
      exact ⟨⟨rfl, o2, HS2.out, HG2.out⟩, bd_mono BB1.out (by simp only [List.length_nil]; omega)⟩
  · rw [decide_eq_false hin] at CC
    have F0 : Hid (createT nm.data.toList (s, c) = (((s.step ⟨1, nm.data.toList, [], []⟩).1, c), (s.step ⟨1, nm.data.toList, [], []⟩).2)) := by unfold Hid createT; rw [if_neg hin]; rfl
    clear hin
    have C3 := hide' (createC HS1.out.log.dsk nm [] [] hn (bd_mono BB.out (by omega)))
    have BB3 := hide' (bd_step BB.out ⟨1, nm.data.toList, [], []⟩)
    go_wp2_with fail
    refine CC.out.mono ?_
    rintro e w9 ⟨rfl, ew⟩
    rw [ew]
    clear ew w9
    go_wp2_with fail
    refine C3.out.mono ?_
    intro e w3 sp
    have P3 := hide' (tpost_step HS1.out sp)
    obtain ⟨rfl, -⟩ := sp
    obtain ⟨-, o3, S3, G3⟩ := P3.out
    have HS3 := hide' S3
    have HG3 := hide' (HG1.out.trans G3)
    clear S3 G3 P3 C3 c0 HS1 HG1
    go_wp2_with fail
    go_ret
    rw [F0.out]
    exact ⟨⟨rfl, o3, HS3.out, HG3.out⟩, bd_mono BB3.out (by simp only [List.length_nil]; omega)⟩
end Go.Proofs.YtibjcofbhldenaaGreatDoor
