/- The contracts of step and stepOn. Rows of records: four cells a record; one that the call itself made, more appended to it; what it holds in later worlds; a list of records that came in. What Decode answers, as a value. The contract of stepOn; a text appended, and what else is as it was. The contracts of the changes of names as functions, and of do. Where a record's Id ends; the contract of findIdEnd; what is read, by its parts. What is written is read, each beginning awaits more, one byte changed is told, what is read is written: plain. The document's Decode of no bytes, of bytes that begin with another one. A row of bytes of the call's own whose block may bear a mark (as a text that was converted leaves it); more appended to it. -/
import Derived.Deep.RegionWith
import Derived.Laws.AppendOwnNone
import Derived.Maps.OwnOps
import Derived.Deep.QuietTactic
import Derived.BigQuiet
import Derived.Deep.RegionHeldLaw
import Derived.Laws.IdiomCopy
import Derived.Deep.MidRow
import Derived.Lib.AppendZeros
import Derived.Test.YtibjcofbhldenaaGreatDoorZ17
import Derived.Test.YtibjcofbhldenaaGreatDoorZ01
import Derived.Test.YtibjcofbhldenaaGreatDoorZ06
namespace Go.Proofs.YtibjcofbhldenaaGreatDoor
open Go.RowKit
def stepE (s : Dk) (ns : List Nm) : Int := if s.down = true then 93 else if s.fault = true then 94 else if ns.any (fun n => !goodN n) = true then 95 else 0
def cntS (s : Dk) : Dk := if s.down = true then s else { s with n := s.n + 1 }
theorem dkV_head {o : Ow} {g m0 m1 m2 : Nat} {pv : Value} {fb : Nat → Nat} {s : Dk} {cs : List Chg} {W W' : World} (h : DkV o g m0 m1 m2 pv fb s cs W) (hs : Same o (fun r => r ≠ .disk) W W') (n : Nat)
    (hb : Blk g W' [.int .i64 s.room, .int .i64 s.power, .map (some m0), .int .i64 (n : Int), .int .i64 (s.data.length : Int), .map (some m1), .map (some m2), pv]) : DkV o g m0 m1 m2 pv fb { s with n := n } cs W' where
  blk := hb
  fails := fails_same h.fails hs h.o0 (by decide)
  seen := tbl_same h.seen hs h.o1 (by decide)
  safe := tbl_same h.safe hs h.o2 (by decide)
  pend := pend_same h.pend hs (by decide) (by decide)
  files := fun i hi => file_same (h.files i hi) hs (by simp) (by simp)
  og := h.og
  o0 := h.o0
  o1 := h.o1
  o2 := h.o2
  lt := fun k hk => Nat.lt_of_lt_of_le (h.lt k hk) hs.size
  wf := wf_count h.wf n
  once := h.once
  sc := h.sc
  rm := h.rm
theorem dkV_drew {o : Ow} {g m0 m1 m2 : Nat} {pv : Value} {fb : Nat → Nat} {s : Dk} {cs : List Chg} {W : World} (h : DkV o g m0 m1 m2 pv fb s cs W) (n : Nat) : DkV o g m0 m1 m2 pv fb s cs (W.drewN n) := dkV_same h (same_below (below_drewN W n) h.lt)
theorem dkV_below {o : Ow} {g m0 m1 m2 : Nat} {pv : Value} {fb : Nat → Nat} {s : Dk} {cs : List Chg} {W W' : World} (h : DkV o g m0 m1 m2 pv fb s cs W) (hb : Below W.heap.size W W') : DkV o g m0 m1 m2 pv fb s cs W' := dkV_same h (same_below hb h.lt)
theorem dkV_count {o : Ow} {g m0 m1 m2 : Nat} {pv : Value} {fb : Nat → Nat} {s : Dk} {cs : List Chg} {W : World} (h : DkV o g m0 m1 m2 pv fb s cs W) (n : Nat) : DkV o g m0 m1 m2 pv fb { s with n := n } cs (W.setCell ⟨g, 3, none⟩ (.int .i64 (n : Int))) :=
  dkV_head h (same_poke h.og _) n (cells_set h.blk (j := 3) (by simp) (.int .i64 (n : Int)))
theorem off_drewN {S : Nat → Prop} (W : World) (n : Nat) : Off S W (W.drewN n) := off_of (below_drewN W n)
theorem look_fails' {W W2 : World} {m : Nat} {fs : List Int} (h : FailsAt W m fs) {i : Int} (hi : -9223372036854775808 ≤ i ∧ i ≤ 9223372036854775807) (e : W2.heap[m]? = W.heap[m]?) :
    (Instr.lookup 115 (.map (some m)) (.int .i64 i) true).run Tryz.prog W2 = .ok (.tuple #[.agg #[], .bool (decide (i ∈ fs))]) W2 := by
  obtain ⟨n, D, ⟨es, clock, hh, F, hn, hD⟩, h2⟩ := h
  exact look_fails ⟨n, D, ⟨es, clock, by rw [e]; exact hh, F, hn, hD⟩, h2⟩ hi
theorem holds_off {S : Nat → Prop} {W W' : World} {v : Value} {ss : List (List UInt8)} (h : Holds W v ss) (hb : Off S W W') (hS : ∀ ad n c, v = .slice (some ad) n c → ¬ S ad.block) : Holds W' v ss := by
  obtain ⟨ao, cap, rfl, hc⟩ := h
  refine ⟨ao, cap, rfl, fun hne => ?_⟩
  obtain ⟨b, off, rfl, hlt, hcell⟩ := hc hne
  have hn := hS _ _ _ rfl
  exact ⟨b, off, rfl, Nat.lt_of_lt_of_le hlt hb.size, fun j hj => by rw [World.cell?_of_block (w := W) (a := ⟨b, off + j, none⟩) (hb.block b hlt hn)]; exact hcell j hj⟩
set_option maxRecDepth 20000 in
set_option maxHeartbeats 2000000 in
theorem stepC {o : Ow} {g m0 m1 m2 : Nat} {pv : Value} {fb : Nat → Nat} {s : Dk} {cs : List Chg} {W : World} (v : DkV o g m0 m1 m2 pv fb s cs W) (hv : Value) (ns : List Nm) (hh : Holds W hv ns) (hl : ∀ n ∈ ns, n.length ≤ 140737488351232) (hn : ns.length ≤ 1000000)
    (hN : s.n ≤ 1000000000) (hav : ∀ ad n c, hv = .slice (some ad) n c → o ad.block = none) :
    Calls Tryz.prog 143 #[.pointer (some ⟨g, 0, none⟩), hv] W fun e W' => e = .returned (.int .i64 (stepE s ns)) ∧ DkV o g m0 m1 m2 pv fb (cntS s) cs W' ∧ Off (fun k => k = g) W W' := by
  have CD := hide' (downC ⟨m0, m1, m2, pv, fb, cs, v⟩)
  cases hd : s.down with
  | true =>
    have E : Hid (stepE s ns = 93) := by unfold Hid stepE; rw [if_pos hd]
    have E2 : Hid (cntS s = s) := by unfold Hid cntS; rw [if_pos hd]
    rw [hd] at CD
    have V := hide' v
    clear v hd hh hav
    go_enter Tryz.func143, Tryz.ntmps143
    go_wp2_with (go_at_call 80; refine CD.out.mono ?_; rintro e w' ⟨rfl, k, rfl⟩)
    go_ret
    rw [E.out, E2.out]
    exact ⟨rfl, dkV_drew V.out k, off_drewN W k⟩
  | false =>
    rw [hd] at CD
    have E2 : Hid (cntS s = { s with n := s.n + 1 }) := by unfold Hid cntS; rw [if_neg (by rw [hd]; decide)]
    have hg := v.blk.2
    obtain ⟨⟨c0, c1, c2, c3, c4, c5, c6, c7⟩, ⟨f3, f4, f7⟩⟩ := cells_eight v.blk
    have hm0 := v.lt m0 (has_of v.o0)
    have hgm : m0 ≠ g := ow_ne v.o0 v.og (by decide)
    have LF := hide' (fun W2 e => look_fails' (W2 := W2) v.fails (i := (s.n : Int) + 1) (by omega) e)
    have V := hide' v
    have HN := hide' hN
    have hd1 : ∀ k, ((W.drewN k).setCell ⟨g, 3, none⟩ (.int .i64 ((s.n : Int) + 1))).heap[m0]? = W.heap[m0]? := fun k => by
      rw [heap_setCell_other _ _ _ _ hgm]
      exact (below_drewN W k).block m0 hm0
    have hz1 : ∀ k, m0 < ((W.drewN k).setCell ⟨g, 3, none⟩ (.int .i64 ((s.n : Int) + 1))).heap.size := fun k => by
      have := (below_drewN W k).size
      simp [World.setCell]
      omega
    have l1 : ∀ k, (Instr.lookup 115 (.map (some m0)) (.int .i64 ((s.n : Int) + 1)) true).run Tryz.prog (((W.drewN k).setCell ⟨g, 3, none⟩ (.int .i64 ((s.n : Int) + 1))).drew) = .ok (.tuple #[.agg #[], .bool (decide ((s.n : Int) + 1 ∈ s.fails))]) (((W.drewN k).setCell ⟨g, 3, none⟩ (.int .i64 ((s.n : Int) + 1))).drew) := fun k => LF.out _ (hd1 k)
    have l2 : ∀ k, (Instr.lookup 115 (.map (some m0)) (.int .i64 ((s.n : Int) + 1)) true).run Tryz.prog ((((W.drewN k).setCell ⟨g, 3, none⟩ (.int .i64 ((s.n : Int) + 1))).alloc (.cells #[] 141)).drew) = .ok (.tuple #[.agg #[], .bool (decide ((s.n : Int) + 1 ∈ s.fails))]) ((((W.drewN k).setCell ⟨g, 3, none⟩ (.int .i64 ((s.n : Int) + 1))).alloc (.cells #[] 141)).drew) := fun k => LF.out _ ((Below.heap_alloc _ _ m0 (hz1 k)).trans (hd1 k))
    have VC : Hid (∀ k, DkV o g m0 m1 m2 pv fb { s with n := s.n + 1 } cs (((W.drewN k).setCell ⟨g, 3, none⟩ (.int .i64 ((s.n : Int) + 1))))) := fun k => dkV_count (dkV_drew V.out k) (s.n + 1)
    have OF : Hid (∀ k, Off (fun k => k = g) W ((W.drewN k).setCell ⟨g, 3, none⟩ (.int .i64 ((s.n : Int) + 1)))) := fun k => (off_drewN W k).trans (off_poke (S := fun k => k = g) ⟨g, 3, none⟩ rfl _) (fun i hi => .inl hi)
    cases hq : decide ((s.n : Int) + 1 ∈ s.fails) with
    | true =>
      rw [hq] at l1 l2
      have E : Hid (stepE s ns = 94) := by
        unfold Hid stepE
        rw [if_neg (by rw [hd]; decide), if_pos]
        unfold Dk.fault
        rw [show ((s.n + 1 : Nat) : Int) = (s.n : Int) + 1 by omega]
        exact hq
      clear v hq hh hav LF hd hd1 hz1 V
      go_enter Tryz.func143, Tryz.ntmps143
      go_wp2_with (go_at_call 80; refine CD.out.mono ?_; rintro e w' ⟨rfl, k, rfl⟩)
      go_region
      all_goals
        go_wp2_with fail
        go_ret
        rw [E.out, E2.out]
        have bz := (below_alloc' ((W.drewN k).setCell ⟨g, 3, none⟩ (.int .i64 ((s.n : Int) + 1))) (.cells #[] 141)).drew
        exact ⟨rfl, dkV_below (VC.out k) bz, (OF.out k).trans (off_of (S := fun _ => False) bz) (fun i hi => hi.elim)⟩
    | false =>
      rw [hq] at l1 l2
      have E : Hid (stepE s ns = if ns.any (fun n => !goodN n) = true then 95 else 0) := by
        unfold Hid stepE
        rw [if_neg (by rw [hd]; decide), if_neg]
        unfold Dk.fault
        rw [show ((s.n + 1 : Nat) : Int) = (s.n : Int) + 1 by omega, hq]
        decide
      have CB : Hid (∀ k, Calls Tryz.prog 176 #[hv, .func (.func 177) #[] #[]] ((((W.drewN k).setCell ⟨g, 3, none⟩ (.int .i64 ((s.n : Int) + 1))).alloc (.cells #[] 141)).drew) fun e w' => e = .returned (.bool (ns.any (fun n => !goodN n))) ∧ w' = (((W.drewN k).setCell ⟨g, 3, none⟩ (.int .i64 ((s.n : Int) + 1))).alloc (.cells #[] 141)).drew) := fun k =>
        anyBad hv ns _ (holds_mono (holds_off hh (OF.out k) (fun ad n c e => by
          have h1 := hav ad n c e
          intro h2
          rw [h2, V.out.og] at h1
          cases h1)) ((below_alloc' ((W.drewN k).setCell ⟨g, 3, none⟩ (.int .i64 ((s.n : Int) + 1))) (.cells #[] 141)).drew)) hl hn
      clear v hq hh hav LF hd hd1 hz1 V hl hn
      cases hb : ns.any (fun n => !goodN n) with
      | true =>
        rw [hb] at CB E
        rw [if_pos rfl] at E
        clear hb
        go_enter Tryz.func143, Tryz.ntmps143
        go_wp2_with (go_at_call 80; refine CD.out.mono ?_; rintro e w' ⟨rfl, k, rfl⟩)
        go_region
        all_goals
          go_wp2_with (go_at_call 176; refine (CB.out k).mono ?_; rintro e w' ⟨rfl, ew⟩; rw [ew]; clear ew w')
          go_ret
          rw [E.out, E2.out]
          have bz := (below_alloc' ((W.drewN k).setCell ⟨g, 3, none⟩ (.int .i64 ((s.n : Int) + 1))) (.cells #[] 141)).drew
          exact ⟨rfl, dkV_below (VC.out k) bz, (OF.out k).trans (off_of (S := fun _ => False) bz) (fun i hi => hi.elim)⟩
      | false =>
        rw [hb] at CB E
        rw [if_neg (by decide)] at E
        clear hb
        go_enter Tryz.func143, Tryz.ntmps143
        go_wp2_with (go_at_call 80; refine CD.out.mono ?_; rintro e w' ⟨rfl, k, rfl⟩)
        go_region
        all_goals
          go_wp2_with (go_at_call 176; refine (CB.out k).mono ?_; rintro e w' ⟨rfl, ew⟩; rw [ew]; clear ew w')
          go_ret
          rw [E.out, E2.out]
          have bz := (below_alloc' ((W.drewN k).setCell ⟨g, 3, none⟩ (.int .i64 ((s.n : Int) + 1))) (.cells #[] 141)).drew
          exact ⟨rfl, dkV_below (VC.out k) bz, (OF.out k).trans (off_of (S := fun _ => False) bz) (fun i hi => hi.elim)⟩
end Go.Proofs.YtibjcofbhldenaaGreatDoor
namespace Go.Proofs.YtibjcofbhldenaaGreatDoor
open Go.RowKit
/-- a record: its number, what it does, a file's number, an id -/
abbrev Rc := Int × Int × Int × List UInt8
abbrev RL := List Rc
def celR (p : Rc) : List Value := [.int .i64 p.1, .int .i64 p.2.1, .int .i64 p.2.2.1, S p.2.2.2]
def cellsR (ps : RL) : List Value := ps.flatMap celR
theorem cellsR_snoc (ps : RL) (p : Rc) : cellsR (ps ++ [p]) = cellsR ps ++ celR p := by simp [cellsR]
theorem cellsR_at : ∀ (ps : RL) (j : Nat) (h : j < ps.length), (cellsR ps)[j * 4]? = some (.int .i64 ps[j].1) ∧ (cellsR ps)[j * 4 + 1]? = some (.int .i64 ps[j].2.1) ∧ (cellsR ps)[j * 4 + 2]? = some (.int .i64 ps[j].2.2.1) ∧ (cellsR ps)[j * 4 + 3]? = some (S ps[j].2.2.2) := by
  intro ps
  induction ps with
  | nil => intro j h; simp at h
  | cons p ps ih =>
    intro j h
    have e : cellsR (p :: ps) = .int .i64 p.1 :: .int .i64 p.2.1 :: .int .i64 p.2.2.1 :: S p.2.2.2 :: cellsR ps := by simp [cellsR, celR]
    rw [e]
    cases j with
    | zero => simp
    | succ j =>
      have := ih j (by simpa using h)
      rw [show (j + 1) * 4 = j * 4 + 4 by omega]
      simpa using this
theorem Tryz.info107 : (Tryz.prog.info? 107).map (fun i => (i.zero, i.size, i.bytes)) = some (some (.agg #[.int .i64 0, .int .i64 0, .int .i64 0, .string ⟨#[]⟩]), 4, 40) := by kernel_rfl
def OwnR (w0 : World) (v : Value) (ps : RL) (w : World) : Prop := w.ownsRow w0.heap.size 107 4 v ps.length (cellsR ps) ∧ Below w0.heap.size w0 w
theorem ownR_nil (w0 w : World) (h : Below w0.heap.size w0 w) : OwnR w0 (.slice none 0 0) [] w := ⟨World.ownsRow_nil _ _ _ _, h⟩
/-- the four cells of a record at block b, from off on -/
def RcAt (w : World) (b off : Nat) (p : Rc) : Prop := w.cell? ⟨b, off, none⟩ = some (.int .i64 p.1) ∧ w.cell? ⟨b, off + 1, none⟩ = some (.int .i64 p.2.1) ∧ w.cell? ⟨b, off + 2, none⟩ = some (.int .i64 p.2.2.1) ∧ w.cell? ⟨b, off + 3, none⟩ = some (S p.2.2.2)
/-- v is a slice whose elements are the records ps -/
def HoldsR (w : World) (v : Value) (ps : RL) : Prop :=
  ∃ ao cap, v = .slice ao ps.length cap ∧ (ao = none → cap = 0) ∧ ps.length ≤ cap ∧ (ps ≠ [] → ∃ b off, ao = some ⟨b, off, none⟩ ∧ b < w.heap.size ∧ ∀ j (h : j < ps.length), RcAt w b (off + j * 4) ps[j])
theorem holdsR_own {w0 w : World} {v : Value} {ps : RL} (h : OwnR w0 v ps w) : HoldsR w v ps := by
  obtain ⟨hl, h1 | ⟨g, cap, cur, rfl, hg, hh, hr⟩⟩ := h.1
  · obtain ⟨rfl, hn⟩ := h1
    obtain rfl : ps = [] := List.eq_nil_of_length_eq_zero hn
    exact ⟨none, 0, rfl, fun _ => rfl, Nat.le_refl _, fun h => absurd rfl h⟩
  · refine ⟨_, cap, rfl, fun e => (by cases e), hr.1, fun _ => ⟨g, 0, rfl, (h.1.lt g rfl).2, fun j hj => ?_⟩⟩
    have c := cellsR_at ps j hj
    unfold RcAt
    rw [Nat.zero_add]
    exact ⟨by rw [h.1.cellAt (j * 4) (by omega)]; exact c.1, by rw [h.1.cellAt (j * 4 + 1) (by omega)]; exact c.2.1, by rw [h.1.cellAt (j * 4 + 2) (by omega)]; exact c.2.2.1, by rw [h.1.cellAt (j * 4 + 3) (by omega)]; exact c.2.2.2⟩
theorem rcAt_mono {w w' : World} {b off : Nat} {p : Rc} (h : RcAt w b off p) (hb : Below w.heap.size w w') (hlt : b < w.heap.size) : RcAt w' b off p :=
  ⟨(hb.cell (p := ⟨b, off, none⟩) hlt).trans h.1, (hb.cell (p := ⟨b, off + 1, none⟩) hlt).trans h.2.1, (hb.cell (p := ⟨b, off + 2, none⟩) hlt).trans h.2.2.1, (hb.cell (p := ⟨b, off + 3, none⟩) hlt).trans h.2.2.2⟩
theorem holdsR_mono {w w' : World} {v : Value} {ps : RL} (h : HoldsR w v ps) (hb : Below w.heap.size w w') : HoldsR w' v ps := by
  obtain ⟨ao, cap, rfl, h0, hcp, hc⟩ := h
  refine ⟨ao, cap, rfl, h0, hcp, fun hne => ?_⟩
  obtain ⟨b, off, rfl, hlt, hcell⟩ := hc hne
  have := hb.size
  exact ⟨b, off, rfl, by omega, fun j hj => rcAt_mono (hcell j hj) hb hlt⟩
theorem holdsR_nil (w : World) : HoldsR w (.slice none 0 0) [] := ⟨none, 0, rfl, fun _ => rfl, Nat.le_refl _, fun h => absurd rfl h⟩
/-- one record appended -/
theorem appR {ops : Array Oper} {rest : List Oper} {o : Oper} {a : Act} {Q : Exit → Act → World → Prop} {wr : World} {q0 q1 q2 : Int} {x : ByteArray} {H : Nat} (hgd : o.guard = none) (s z : Operand)
    (ho : o.op = .call { callee := .builtin .append, args := #[s, z], argTypes := #[96, 96] }) (w0 : World) (v : Value) (ps : RL) (hs : a.eval s = v) (hown : OwnR w0 v ps wr)
    (p : Rc) (h0 : q0 = p.1) (h1 : q1 = p.2.1) (h2 : q2 = p.2.2.1) (hx : x = ⟨p.2.2.2.toArray⟩) (hz : a.eval z = .slice (some ⟨H, 0, none⟩) 1 1) (hH : wr.heap.size = H) (hlen : (ps.length + 1) * 40 ≤ 140737488355328)
    (h : ∀ v' w', OwnR w0 v' (ps ++ [p]) w' → wpList Tryz.prog ops Q rest (a.put o.dst v') w') : wpList Tryz.prog ops Q (o :: rest) a (wr.alloc (.cells #[.int .i64 q0, .int .i64 q1, .int .i64 q2, .string x] 107)) := by
  subst hx h0 h1 h2 hH
  obtain ⟨i0, hi, hz0, hz1, hz2⟩ := info_parts Tryz.info107
  have hsz := hown.2.size
  refine wpList_append_own _ hgd s z 96 ho w0.heap.size 107 i0 (.agg #[.int .i64 0, .int .i64 0, .int .i64 0, .string ⟨#[]⟩]) 4 40 Tryz.underlying96 hi hz0 hz1 hz2 rfl (by decide) v ps.length (cellsR ps) hs (hown.1.alloc _) ⟨wr.heap.size, 0, none⟩ 1 1 (celR p) hz rfl ?_ ?_ ?_ ?_ ?_ ?_
  · intro j u hj
    match j, hj with
    | 0, hj => simp [celR] at hj; subst hj; simp [Addr.add]
    | 1, hj => simp [celR] at hj; subst hj; simp [Addr.add]
    | 2, hj => simp [celR] at hj; subst hj; simp [Addr.add]
    | 3, hj => simp [celR] at hj; subst hj; simp [Addr.add, S]
  · intro u hu; simp [celR] at hu; rcases hu with rfl | rfl | rfl | rfl <;> rfl
  · unfold maxLen; omega
  · omega
  · simp; omega
  · intro v' w' h1 h2 _
    refine h v' w' ⟨by rw [cellsR_snoc]; simpa using h1, ?_⟩
    refine Below.grown (hown.2.alloc (by omega) _) h2 (by simp; omega) ?_
    intro k hk
    exact (hown.1.lt k hk).1
end Go.Proofs.YtibjcofbhldenaaGreatDoor
namespace Go.Proofs.YtibjcofbhldenaaGreatDoor
open Go.RowKit
/-- what Decode answers, as a value -/
def decV (d : RecD) : Value := .tuple #[recV d.seq d.op d.no d.id, .int .i64 d.n, .int .i64 d.e]
end Go.Proofs.YtibjcofbhldenaaGreatDoor
namespace Go.Proofs.YtibjcofbhldenaaGreatDoor
open Go.RowKit
theorem appS2 {ops : Array Oper} {rest : List Oper} {o : Oper} {a : Act} {Q : Exit → Act → World → Prop} {wr : World} {t : ByteArray} (hgd : o.guard = none) (s x : Operand)
    (ho : o.op = .call { callee := .builtin .append, args := #[s, x], argTypes := #[76, 76] }) (w0 : World) (v : Value) (ss : List (List UInt8)) (hs : a.eval s = v) (hown : OwnS w0 v ss wr)
    (hx : a.eval x = .slice (some ⟨wr.heap.size, 0, none⟩) 1 1) (hlen : (ss.length + 1) * 16 ≤ 140737488355328)
    (h : ∀ v' w', OwnS w0 v' (ss ++ [t.data.toList]) w' → wr.heap.size ≤ w'.heap.size → Below w0.heap.size wr w' → wpList Tryz.prog ops Q rest (a.put o.dst v') w') : wpList Tryz.prog ops Q (o :: rest) a (wr.alloc (.cells #[.string t] 9)) := by
  obtain ⟨i0, hi, hz0, hz1, hz2⟩ := info_parts Tryz.info9
  have hsz := hown.2.size
  refine wpList_append_own _ hgd s x 76 ho w0.heap.size 9 i0 (.string ⟨#[]⟩) 1 16 Tryz.underlying76 hi hz0 hz1 hz2 rfl (by decide) v ss.length (ss.map S) hs (hown.1.alloc _) ⟨wr.heap.size, 0, none⟩ 1 1 [S t.data.toList] hx rfl ?_ ?_ ?_ ?_ ?_ ?_
  · intro j u hj
    match j, hj with
    | 0, hj => simp at hj; subst hj; simp [Addr.add, S]
  · intro u hu; simp at hu; subst hu; rfl
  · unfold maxLen; omega
  · omega
  · simp; omega
  · intro v' w' h1 h2 _
    have hbl : Below w0.heap.size wr w' := Below.grown ((Below.refl w0.heap.size wr).alloc (by omega) _) h2 (by simp; omega) (fun k hk => (hown.1.lt k hk).1)
    refine h v' w' ⟨by simpa using h1, hown.2.trans hbl⟩ ?_ hbl
    have := h2.size
    simp at this
    omega
def onV (fb : Nat → Nat) (l : NL) (n : Nm) (e : Int) : Value := if e ≠ 0 then .tuple #[.pointer none, .int .i64 e] else findV fb l n
theorem cnt_now (s : Dk) : (cntS s).now = s.now := by unfold cntS; split <;> rfl
set_option maxRecDepth 20000 in
set_option maxHeartbeats 2000000 in
theorem stepOnC {o : Ow} {g m0 m1 m2 : Nat} {pv : Value} {fb : Nat → Nat} {s : Dk} {cs : List Chg} {W : World} (v : DkV o g m0 m1 m2 pv fb s cs W) (w0 : World) (ov : Value) (os : List Nm) (ho : OwnS w0 ov os W) (hlt : ∀ k, o.has k → k < w0.heap.size) (nm : ByteArray) (hs : nm.size ≤ 140737488351232) (hl : ∀ n ∈ os, n.length ≤ 140737488351232) (hn : os.length ≤ 100)
    (hN : s.n ≤ 1000000000) :
    Calls Tryz.prog 100 #[.pointer (some ⟨g, 0, none⟩), .string nm, ov] W fun e W' => e = .returned (onV fb s.now nm.data.toList (stepE s (os ++ [nm.data.toList]))) ∧ DkV o g m0 m1 m2 pv fb (cntS s) cs W' ∧ Off (fun k => k = g ∨ w0.heap.size ≤ k) W W' := by
  have V := hide' v
  have HO := hide' ho
  have HL := hide' hlt
  have CS : Hid (∀ (v2 : Value) (w2 : World), OwnS w0 v2 (os ++ [nm.data.toList]) w2 → W.heap.size ≤ w2.heap.size → Below w0.heap.size W w2 → Calls Tryz.prog 143 #[.pointer (some ⟨g, 0, none⟩), v2] w2 fun e W' => ∃ E : Int, e = .returned (.int .i64 E) ∧ Hid (E = stepE s (os ++ [nm.data.toList])) ∧ Hid (DkV o g m0 m1 m2 pv fb (cntS s) cs W' ∧ Off (fun k => k = g ∨ w0.heap.size ≤ k) W W')) := by
    intro v2 w2 h1 h2 h3
    have V2 : DkV o g m0 m1 m2 pv fb s cs w2 := dkV_same V.out ⟨h2, fun k r e _ => h3.block k (HL.out k (has_of e))⟩
    refine (stepC V2 v2 _ (holds_own h1) (fun n hn => ?_) (by rw [List.length_append]; simp; omega) hN (fun ad n c e => ?_)).mono ?_
    · rcases List.mem_append.1 hn with h | h
      · exact hl n h
      · rw [List.mem_singleton.1 h]; simpa using hs
    · have hb := (h1.1.lt ad.block (by rw [e]; rfl)).1
      cases e3 : o ad.block with
      | none => rfl
      | some r => have := HL.out _ (has_of e3); omega
    · rintro e W' ⟨rfl, hV, hO⟩
      refine ⟨_, rfl, rfl, hV, ?_⟩
      refine Off.trans (S := fun k => k = g ∨ w0.heap.size ≤ k) (B := w2) ⟨h3.os, h3.tape, h3.output, h2, fun k hk hnk => h3.block k ?_⟩ hO (fun i hi => .inl (.inl hi))
      have := fun h => hnk (.inr h)
      omega
  clear v ho hlt hl
  go_enter Tryz.func100, Tryz.ntmps100
  go_wp2_with (at_builtin; refine appS2 rfl (.tmp 10) (.tmp 12) rfl w0 _ os rfl HO.out rfl (by omega) ?_; intro v2 w2 hA hB hC; have HA := hide' hA; have HB := hide' hB; have HC := hide' hC; clear hA hB hC)
  refine (CS.out v2 w2 HA.out HB.out HC.out).mono ?_
  rintro e w3 ⟨E, rfl, HE, HV⟩
  by_cases h0 : E = 0
  · subst h0
    have CF := hide' (findC HV.out.1 nm hs)
    have R : Hid (onV fb s.now nm.data.toList (stepE s (os ++ [nm.data.toList])) = findV fb (cntS s).now nm.data.toList) := by
      unfold Hid onV; rw [← HE.out, if_neg (by decide), cnt_now]
    cases ha : atN (cntS s).now nm.data.toList with
    | none =>
      have F : Hid (findV fb (cntS s).now nm.data.toList = .tuple #[.pointer none, .int .i64 90]) := by unfold Hid findV; rw [ha]
      rw [F.out] at CF
      clear ha
      go_wp2_with (go_at_call 144; refine CF.out.mono ?_; rintro e w4 ⟨rfl, ew⟩; rw [ew]; clear ew w4)
      go_ret2
      rw [R.out, F.out]
      exact ⟨rfl, HV.out.1, HV.out.2⟩
    | some k =>
      have F : Hid (findV fb (cntS s).now nm.data.toList = .tuple #[.pointer (some ⟨fb k, 0, none⟩), .int .i64 0]) := by unfold Hid findV; rw [ha]
      rw [F.out] at CF
      clear ha
      go_wp2_with (go_at_call 144; refine CF.out.mono ?_; rintro e w4 ⟨rfl, ew⟩; rw [ew]; clear ew w4)
      go_ret2
      rw [R.out, F.out]
      exact ⟨rfl, HV.out.1, HV.out.2⟩
  · have R : Hid (onV fb s.now nm.data.toList (stepE s (os ++ [nm.data.toList])) = .tuple #[.pointer none, .int .i64 E]) := by
      unfold Hid onV; rw [← HE.out, if_pos h0]
    have q : (E != 0) = true := by simpa using h0
    clear h0
    go_wp2_with fail
    go_ret2
    rw [R.out]
    exact ⟨rfl, HV.out.1, HV.out.2⟩
end Go.Proofs.YtibjcofbhldenaaGreatDoor
namespace Go.Proofs.YtibjcofbhldenaaGreatDoor
open Go.RowKit Go.Maps
theorem key_l {n : Nm} (hn : n.length ≤ 64) : keyOf Tryz.prog 9 (.string ⟨n.toArray⟩) = some (.string n) := by
  have := key_str (s := ⟨n.toArray⟩) (by rw [size_l]; omega)
  simpa using this
theorem tbl_put {W : World} {m : Nat} {fb : Nat → Nat} {l : NL} {n : Nm} {k : Nat} {x : Nat} (h : W.ownsMap Tryz.prog 9 pel m x ((dOf fb l).put (.string n) (.lit (.int .i64 (fb k : Int))))) : Tbl W m fb (putN l n k) := by
  rw [dOf_put] at h
  have := own_tight h
  rw [dOf_size] at this
  exact this
theorem tbl_del {W : World} {m : Nat} {fb : Nat → Nat} {l : NL} {n : Nm} {x : Nat} (h : W.ownsMap Tryz.prog 9 pel m x ((dOf fb l).del (.string n))) : Tbl W m fb (delN l n) := by
  rw [dOf_del] at h
  have := own_tight h
  rw [dOf_size] at this
  exact this
set_option maxHeartbeats 1000000 in
theorem putC {W : World} {m bf bn k : Nat} {fb : Nat → Nat} {l : NL} {n : Nm} (hT : Tbl W m fb l) (hl : l.length ≤ 1000000000) (hn : n.length ≤ 64) (c1 : W.cell? ⟨bf, 0, none⟩ = some (.pointer (some ⟨fb k, 0, none⟩))) (c2 : W.cell? ⟨bn, 0, none⟩ = some (S n)) :
    Calls Tryz.prog 183 #[.map (some m), .pointer (some ⟨bf, 0, none⟩), .pointer (some ⟨bn, 0, none⟩)] W fun e W' => e = .returned (.tuple #[]) ∧ Tbl W' m fb (putN l n k) ∧ W.grownBy W' (some m) := by
  have HT := hide' hT
  have HK := hide' (key_l hn)
  unfold S at c2
  generalize (⟨n.toArray⟩ : ByteArray) = nb at HK c2
  clear hT hn
  go_enter Tryz.func183, Tryz.ntmps183
  go_wp2_with (at_mapUpdate; refine wpList_mapUpdate_own _ rfl _ _ _ 117 rfl 9 142 kStr Tryz.underlying117 pel m l.length (dOf fb l) rfl HT.out (by unfold maxLen; omega) _ _ (.string n) rfl rfl HK.out (.lit (.int .i64 (fb k : Int))) [] (pel_at _) ?_; intro w1 h1 h2; have H1 := hide' h1; have H2 := hide' h2; clear h1 h2)
  go_end0
  exact ⟨rfl, tbl_put H1.out, H2.out⟩
set_option maxHeartbeats 1000000 in
theorem delC {W : World} {m bn : Nat} {fb : Nat → Nat} {l : NL} {n : Nm} (hT : Tbl W m fb l) (hn : n.length ≤ 64) (c2 : W.cell? ⟨bn, 0, none⟩ = some (S n)) :
    Calls Tryz.prog 102 #[.map (some m), .pointer (some ⟨bn, 0, none⟩)] W fun e W' => e = .returned (.tuple #[]) ∧ Tbl W' m fb (delN l n) ∧ W.grownBy W' (some m) := by
  have HT := hide' hT
  have HK := hide' (key_l hn)
  unfold S at c2
  generalize (⟨n.toArray⟩ : ByteArray) = nb at HK c2
  clear hT hn
  go_enter Tryz.func102, Tryz.ntmps102
  go_wp2_with (at_delete; refine wpList_delete_own _ rfl _ _ 117 9 rfl 142 kStr Tryz.underlying117 pel m l.length (dOf fb l) rfl HT.out _ (.string n) rfl HK.out ?_; intro w1 h1 h2; have H1 := hide' h1; have H2 := hide' h2.grown; clear h1 h2)
  go_end0
  exact ⟨rfl, tbl_del H1.out, H2.out⟩
set_option maxHeartbeats 1000000 in
theorem mvC {W : World} {m ba bf bb k : Nat} {fb : Nat → Nat} {l : NL} {a b : Nm} (hT : Tbl W m fb l) (hl : l.length ≤ 1000000000) (ha : a.length ≤ 64) (hb : b.length ≤ 64) (c1 : W.cell? ⟨ba, 0, none⟩ = some (S a)) (c2 : W.cell? ⟨bf, 0, none⟩ = some (.pointer (some ⟨fb k, 0, none⟩))) (c3 : W.cell? ⟨bb, 0, none⟩ = some (S b)) (n2 : bf ≠ m) (n3 : bb ≠ m) :
    Calls Tryz.prog 222 #[.map (some m), .pointer (some ⟨ba, 0, none⟩), .pointer (some ⟨bf, 0, none⟩), .pointer (some ⟨bb, 0, none⟩)] W fun e W' => e = .returned (.tuple #[]) ∧ Tbl W' m fb (putN (delN l a) b k) ∧ W.grownBy W' (some m) := by
  have HT := hide' hT
  have HA := hide' (key_l ha)
  have HB := hide' (key_l hb)
  have C2 := hide' c2
  have C3 := hide' (show W.cell? ⟨bb, 0, none⟩ = some (.string ⟨b.toArray⟩) from c3)
  have l2 := cell_lt c2
  have l3 := cell_lt c3
  have hd := delN_len l a
  unfold S at c1 c3
  generalize (⟨a.toArray⟩ : ByteArray) = na at HA c1
  generalize (⟨b.toArray⟩ : ByteArray) = nb at HB c3 C3
  clear hT ha hb
  go_enter Tryz.func222, Tryz.ntmps222
  go_wp2_with (first
    | (at_delete; refine wpList_delete_own _ rfl _ _ 117 9 rfl 142 kStr Tryz.underlying117 pel m l.length (dOf fb l) rfl HT.out _ (.string a) rfl HA.out ?_; intro w1 h1 h2; have H1 := hide' (tbl_del h1); have H2 := hide' h2.grown; clear h1 h2; have d2 : w1.cell? ⟨bf, 0, none⟩ = some (.pointer (some ⟨fb k, 0, none⟩)) := (by rw [World.cell?_of_block (w := W) (a := ⟨bf, 0, none⟩) (H2.out.block bf l2 (fun e => n2 (Option.some.inj e)))]; exact C2.out); have d3 : w1.cell? ⟨bb, 0, none⟩ = some (.string nb) := (by rw [World.cell?_of_block (w := W) (a := ⟨bb, 0, none⟩) (H2.out.block bb l3 (fun e => n3 (Option.some.inj e)))]; exact C3.out))
    | (at_mapUpdate; refine wpList_mapUpdate_own _ rfl _ _ _ 117 rfl 9 142 kStr Tryz.underlying117 pel m (delN l a).length (dOf fb (delN l a)) rfl H1.out (by unfold maxLen; omega) _ _ (.string b) rfl rfl HB.out (.lit (.int .i64 (fb k : Int))) [] (pel_at _) ?_; intro w2 h1 h2; have H3 := hide' (tbl_put h1); have H4 := hide' h2; clear h1 h2))
  go_end0
  exact ⟨rfl, H3.out, H2.out.andThen H4.out (fun j hj => .inr hj)⟩
theorem Tryz.info150 : (Tryz.prog.info? 150).map (fun i => (i.zero, i.size, i.bytes)) = some (some .nilFunc, 1, 8) := by kernel_rfl
end Go.Proofs.YtibjcofbhldenaaGreatDoor
namespace Go.Proofs.YtibjcofbhldenaaGreatDoor
open Go.RowKit
def idEnd (l : List UInt8) : Nat × Int :=
  if l.length = 0 then (0, 0)
  else if ¬ ((l[0]?.getD 0).toNat = 193 ∨ (l[0]?.getD 0).toNat = 194) then (0, 100)
  else if l.length < 3 then (0, 0)
  else if 4096 < valN (midN l 1 3) then (0, 100)
  else (11 + valN (midN l 1 3), 0)
theorem midN_len (l : List UInt8) (a b : Nat) : (midN l a b).length ≤ b - a := by unfold midN; rw [List.length_take]; omega
theorem val4 {l : List UInt8} (h : l.length ≤ 4) : valN l < 4294967296 := Nat.lt_of_lt_of_le (valN_lt _) (Nat.le_trans (Nat.pow_le_pow_right (by decide) h) (by decide))
theorem dec_none (l : List UInt8) (h : (idEnd l).1 = 0) : decOf l = decErr (idEnd l).2 := by
  unfold idEnd at h ⊢
  unfold decOf
  by_cases h1 : l.length = 0
  · rw [if_pos h1, if_pos h1]
  · rw [if_neg h1] at h ⊢
    rw [if_neg h1]
    by_cases h2 : ¬ ((l[0]?.getD 0).toNat = 193 ∨ (l[0]?.getD 0).toNat = 194)
    · rw [if_pos h2, if_pos h2]
    · rw [if_neg h2] at h ⊢
      rw [if_neg h2]
      by_cases h3 : l.length < 3
      · rw [if_pos h3, if_pos h3]
      · rw [if_neg h3] at h ⊢
        rw [if_neg h3]
        by_cases h4 : 4096 < valN (midN l 1 3)
        · rw [if_pos h4, if_pos h4]
        · rw [if_neg h4] at h
          simp at h
theorem dec_some (l : List UInt8) (h : (idEnd l).1 ≠ 0) : 3 ≤ l.length ∧ ((l[0]?.getD 0).toNat = 193 ∨ (l[0]?.getD 0).toNat = 194) ∧ valN (midN l 1 3) ≤ 4096 ∧ idEnd l = (11 + valN (midN l 1 3), 0) ∧
    decOf l = if l.length < valN (midN l 1 3) + 15 then decErr 0
      else if valN (midN l (valN (midN l 1 3) + 11) (valN (midN l 1 3) + 15)) = sumOf (l.take (valN (midN l 1 3) + 11)) then
        ⟨valN (midN l 3 7), (l[0]?.getD 0).toNat - 192, valN (midN l 7 11), midN l 11 (valN (midN l 1 3) + 11), valN (midN l 1 3) + 15, 0⟩
      else decErr 100 := by
  unfold idEnd at h ⊢
  unfold decOf
  by_cases h1 : l.length = 0
  · rw [if_pos h1] at h; exact absurd rfl h
  · rw [if_neg h1] at h ⊢
    rw [if_neg h1]
    by_cases h2 : ¬ ((l[0]?.getD 0).toNat = 193 ∨ (l[0]?.getD 0).toNat = 194)
    · rw [if_pos h2] at h; exact absurd rfl h
    · rw [if_neg h2] at h ⊢
      rw [if_neg h2]
      by_cases h3 : l.length < 3
      · rw [if_pos h3] at h; exact absurd rfl h
      · rw [if_neg h3] at h ⊢
        rw [if_neg h3]
        by_cases h4 : 4096 < valN (midN l 1 3)
        · rw [if_pos h4] at h; exact absurd rfl h
        · rw [if_neg h4, if_neg h4]
          exact ⟨by omega, Decidable.not_not.1 h2, by omega, rfl, rfl⟩
set_option maxRecDepth 20000 in
set_option maxHeartbeats 4000000 in
theorem findIdC (v : Value) (bs : List UInt8) (w : World) (hv : HoldsB w v bs) (hl : bs.length ≤ 1000000000000000) :
    Calls Tryz.prog 219 #[v] w fun e w' => e = .returned (.tuple #[.int .i64 ((idEnd bs).1 : Int), .int .i64 (idEnd bs).2]) ∧ w' = w := by
  have HV := hide' hv
  obtain ⟨ao, cap, rfl, _, hcp, hc⟩ := hv
  have HC := hide' hc
  obtain ⟨R, hR⟩ : ∃ R, R = idEnd bs := ⟨_, rfl⟩
  rw [← hR]
  unfold idEnd at hR
  obtain ⟨n, hn⟩ : ∃ n, n = bs.length := ⟨_, rfl⟩
  have N1 : Hid (bs.length = n) := hn.symm
  rw [← hn] at hR
  have ln : n ≤ 1000000000000000 := by omega
  have hcn : n ≤ cap := by omega
  rw [N1.out] at HV ⊢
  clear hc hl hn hcp
  by_cases h1 : n = 0
  · rw [if_pos h1] at hR
    have eR := hide' hR
    subst h1
    clear hR
    go_enter Tryz.func219, Tryz.ntmps219
    go_wp2_with fail
    exact bodyPost_ret (v := .tuple #[.int .i64 0, .int .i64 0]) (by simp [results, Tryz.results219, go_sem]) rfl ⟨by rw [eR.out]; rfl, rfl⟩
  · rw [if_neg h1] at hR
    have G0 : Hid (0 < bs.length) := by unfold Hid; rw [N1.out]; omega
    obtain ⟨b, off, e, hb, hcell⟩ := HC.out (fun e => by have := G0.out; rw [e] at this; exact absurd this (Nat.not_lt_zero _))
    subst e
    have x1 := hcell 0 G0.out
    unfold B at x1
    rw [Nat.add_zero] at x1
    have hg : bs[0]?.getD 0 = bs[0]'G0.out := by rw [List.getElem?_eq_getElem G0.out]; rfl
    rw [hg] at hR
    clear hg hcell HC
    obtain ⟨hc0, hc1⟩ := byte_lt (bs[0]'G0.out)
    generalize (bs[0]'G0.out).toNat = c at x1 hR hc0 hc1
    have cO := hide' (opOfC (c : Int) hc0 hc1 w)
    have cI := hide' (isOpC ((c : Int) - 192) w)
    have hn0 : ((n : Int) == 0) = false := by simpa using h1
    by_cases h2 : ¬ (c = 193 ∨ c = 194)
    · rw [if_pos h2] at hR
      have eR := hide' hR
      have hd : decide ((c : Int) - 192 = 1 ∨ (c : Int) - 192 = 2) = false := by simp; omega
      rw [hd] at cI
      clear hR h2 hd
      go_enter Tryz.func219, Tryz.ntmps219
      go_wp2_with fail
      refine cO.out.mono ?_
      rintro e w9 ⟨rfl, ew⟩
      rw [ew]; clear ew w9
      go_wp2_with fail
      refine cI.out.mono ?_
      rintro e w9 ⟨rfl, ew⟩
      rw [ew]; clear ew w9
      go_wp2_with fail
      exact bodyPost_ret (v := .tuple #[.int .i64 0, .int .i64 100]) (by simp [results, Tryz.results219, go_sem]) rfl ⟨by rw [eR.out]; rfl, rfl⟩
    · rw [if_neg h2] at hR
      have hd : decide ((c : Int) - 192 = 1 ∨ (c : Int) - 192 = 2) = true := by simp; omega
      rw [hd] at cI
      clear h2 hd
      by_cases h3 : n < 3
      · rw [if_pos h3] at hR
        have eR := hide' hR
        have hd3 : decide ((n : Int) < 3) = true := by simp; omega
        clear hR
        go_enter Tryz.func219, Tryz.ntmps219
        go_wp2_with fail
        refine cO.out.mono ?_
        rintro e w9 ⟨rfl, ew⟩
        rw [ew]; clear ew w9
        go_wp2_with fail
        refine cI.out.mono ?_
        rintro e w9 ⟨rfl, ew⟩
        rw [ew]; clear ew w9
        go_wp2_with fail
        exact bodyPost_ret (v := .tuple #[.int .i64 0, .int .i64 0]) (by simp [results, Tryz.results219, go_sem]) rfl ⟨by rw [eR.out]; rfl, rfl⟩
      · rw [if_neg h3] at hR
        have hd3 : decide ((n : Int) < 3) = false := by simp; omega
        obtain ⟨pv, hs, hp⟩ := midB HV.out 1 3 (by decide) (by rw [N1.out]; omega)
        have hs' : ∀ W, Sem.run Tryz.prog (Instr.slice 57 (.slice (some ⟨b, off, none⟩) n cap) (some (.int .i64 1)) (some (.int .i64 3)) none) W = .ok pv W := by
          intro W; exact hs W
        have cN := hide' (numberC pv (midN bs 1 3) w hp (by unfold midN; rw [List.length_take]; omega))
        have hvl : valN (midN bs 1 3) < 65536 := Nat.lt_of_lt_of_le (valN_lt _) (Nat.le_trans (Nat.pow_le_pow_right (by decide) (show (midN bs 1 3).length ≤ 2 by unfold midN; rw [List.length_take]; omega)) (by decide))
        generalize valN (midN bs 1 3) = k at cN hR hvl
        clear hs hp
        by_cases h4 : 4096 < k
        · rw [if_pos h4] at hR
          have eR := hide' hR
          have hd4 : decide (4096 < (k : Int)) = true := by simp; omega
          clear hR
          go_enter Tryz.func219, Tryz.ntmps219
          go_wp2_with fail
          refine cO.out.mono ?_
          rintro e w9 ⟨rfl, ew⟩
          rw [ew]; clear ew w9
          go_wp2_with fail
          refine cI.out.mono ?_
          rintro e w9 ⟨rfl, ew⟩
          rw [ew]; clear ew w9
          go_wp2_with fail
          refine cN.out.mono ?_
          rintro e w9 ⟨rfl, ew⟩
          rw [ew]; clear ew w9
          go_wp2_with fail
          exact bodyPost_ret (v := .tuple #[.int .i64 0, .int .i64 100]) (by simp [results, Tryz.results219, go_sem]) rfl ⟨by rw [eR.out]; rfl, rfl⟩
        · rw [if_neg h4] at hR
          have eR := hide' hR
          have hd4 : decide (4096 < (k : Int)) = false := by simp; omega
          clear hR
          go_enter Tryz.func219, Tryz.ntmps219
          go_wp2_with fail
          refine cO.out.mono ?_
          rintro e w9 ⟨rfl, ew⟩
          rw [ew]; clear ew w9
          go_wp2_with fail
          refine cI.out.mono ?_
          rintro e w9 ⟨rfl, ew⟩
          rw [ew]; clear ew w9
          go_wp2_with fail
          refine cN.out.mono ?_
          rintro e w9 ⟨rfl, ew⟩
          rw [ew]; clear ew w9
          go_wp2_with fail
          exact bodyPost_ret (v := .tuple #[.int .i64 (11 + (k : Int)), .int .i64 0]) (by simp [results, Tryz.results219, go_sem]) rfl ⟨by rw [eR.out, show ((11 + k : Nat) : Int) = 11 + (k : Int) by omega], rfl⟩
end Go.Proofs.YtibjcofbhldenaaGreatDoor
namespace Go.Proofs.YtibjcofbhldenaaGreatDoor
theorem first_get (c : UInt8) (l : List UInt8) : (c :: l)[0]?.getD 0 = c := rfl
theorem dec_good (l : List UInt8) (h : (decOf l).n ≠ 0) : ∃ k, k = valN (midN l 1 3) ∧ k ≤ 4096 ∧ k + 15 ≤ l.length ∧ ((l[0]?.getD 0).toNat = 193 ∨ (l[0]?.getD 0).toNat = 194) ∧ valN (midN l (k + 11) (k + 15)) = sumOf (l.take (k + 11)) ∧
    decOf l = ⟨valN (midN l 3 7), (l[0]?.getD 0).toNat - 192, valN (midN l 7 11), midN l 11 (k + 11), k + 15, 0⟩ := by
  by_cases hz : (idEnd l).1 = 0
  · rw [dec_none l hz] at h; exact absurd rfl h
  · obtain ⟨_, ho, hk, _, e⟩ := dec_some l hz
    refine ⟨_, rfl, hk, ?_⟩
    by_cases h1 : l.length < valN (midN l 1 3) + 15
    · rw [e, if_pos h1] at h; exact absurd rfl h
    · by_cases h2 : valN (midN l (valN (midN l 1 3) + 11) (valN (midN l 1 3) + 15)) = sumOf (l.take (valN (midN l 1 3) + 11))
      · exact ⟨by omega, ho, h2, by rw [e, if_neg h1, if_pos h2]⟩
      · rw [e, if_neg h1, if_neg h2] at h; exact absurd rfl h
theorem mid_len {l : List UInt8} {a b : Nat} (h : a ≤ b) (hb : b ≤ l.length) : (midN l a b).length = b - a := by
  unfold midN; rw [List.length_take, List.length_drop]; omega
theorem take_mid (l : List UInt8) (a b : Nat) (h : a ≤ b) : l.take b = l.take a ++ midN l a b := by
  unfold midN
  conv => lhs; rw [show b = a + (b - a) by omega, List.take_add]
/-- what is read of any bytes is written as these bytes -/
theorem dec_plain (l : List UInt8) (h : (decOf l).n ≠ 0) :
    encOf (decOf l).seq (decOf l).op (decOf l).no (decOf l).id = (l.take (decOf l).n, 0) ∧ (decOf l).n ≤ l.length ∧ (decOf l).e = 0 := by
  obtain ⟨k, hk, hk2, hkl, ho, hs, hD⟩ := dec_good l h
  rw [hD]
  dsimp only
  have l1 := mid_len (l := l) (a := 1) (b := 3) (by omega) (by omega)
  have l2 := mid_len (l := l) (a := 3) (b := 7) (by omega) (by omega)
  have l3 := mid_len (l := l) (a := 7) (b := 11) (by omega) (by omega)
  have l4 := mid_len (l := l) (a := 11) (b := k + 11) (by omega) (by omega)
  have l5 := mid_len (l := l) (a := k + 11) (b := k + 15) (by omega) (by omega)
  have v2 := val4 (l := midN l 3 7) (by omega)
  have v3 := val4 (l := midN l 7 11) (by omega)
  have b1 : beN 2 k = midN l 1 3 := by have := beN_val (midN l 1 3); rw [l1, ← hk] at this; exact this
  have b2 : beN 4 (valN (midN l 3 7)) = midN l 3 7 := by have := beN_val (midN l 3 7); rw [l2] at this; exact this
  have b3 : beN 4 (valN (midN l 7 11)) = midN l 7 11 := by have := beN_val (midN l 7 11); rw [l3] at this; exact this
  have b5 : beN 4 (valN (midN l (k + 11) (k + 15))) = midN l (k + 11) (k + 15) := by have := beN_val (midN l (k + 11) (k + 15)); rw [l5, show k + 15 - (k + 11) = 4 by omega] at this; exact this
  have hlid : (midN l 11 (k + 11)).length = k := by omega
  have hbody : recB ((l[0]?.getD 0).toNat - 192) (valN (midN l 3 7)) (valN (midN l 7 11)) (midN l 11 (k + 11)) = l.take (k + 11) := by
    unfold recB
    rw [hlid, b1, b2, b3, take_mid l 11 (k + 11) (by omega), take_mid l 7 11 (by omega), take_mid l 3 7 (by omega), take_mid l 1 3 (by omega)]
    have h0 : l.take 1 = [UInt8.ofNat (192 + ((l[0]?.getD 0).toNat - 192))] := by
      cases l with
      | nil => simp at hkl
      | cons c r =>
        rw [first_get] at ho ⊢
        rw [List.take_succ_cons, List.take_zero]
        have hc : UInt8.ofNat (192 + (c.toNat - 192)) = c := by
          apply UInt8.toNat_inj.1
          generalize c.toNat = x at ho ⊢
          rw [ofNat_mod]
          omega
        rw [hc]
    rw [h0]
    simp [List.append_assoc]
  refine ⟨?_, hkl, rfl⟩
  rw [enc_ok (decide_eq_true (by omega)) (decide_eq_true (by omega)) (decide_eq_true (by omega)), hlid, if_pos hk2]
  simp only [Int.toNat_natCast]
  rw [recL, hbody, ← hs, b5, ← take_mid l (k + 11) (k + 15) (by omega)]
end Go.Proofs.YtibjcofbhldenaaGreatDoor
namespace Go.Proofs.YtibjcofbhldenaaGreatDoor
open Go.RowKit
end Go.Proofs.YtibjcofbhldenaaGreatDoor
namespace Go.Proofs.YtibjcofbhldenaaGreatDoor
open Go.RowKit
/-- v holds just the bytes bs, in a block of the call's own of which no cell is frozen -/
def OwnM (w0 : World) (v : Value) (bs : List UInt8) (w : World) : Prop :=
  ∃ g cap, v = .slice (some ⟨g, 0, none⟩) bs.length cap ∧ w0.heap.size ≤ g ∧ g < w.heap.size ∧ bs.length ≤ cap ∧ (∀ j, j < cap → (w.cell? ⟨g, j, none⟩).isSome = true ∧ w.frozen? ⟨g, j, none⟩ = false) ∧ (∀ j (h : j < bs.length), w.cell? ⟨g, j, none⟩ = some (B bs[j])) ∧ Below w0.heap.size w0 w
theorem ownM_holds {w0 w : World} {v : Value} {bs : List UInt8} (h : OwnM w0 v bs w) : HoldsB w v bs := by
  obtain ⟨g, cap, e, hg, hlt, hc, h1, h2, hB⟩ := h
  exact ⟨_, cap, e, (fun e => by cases e), hc, fun _ => ⟨g, 0, rfl, hlt, fun j hj => by rw [Nat.zero_add]; exact h2 j hj⟩⟩
theorem ownM_conv (s : ByteArray) (w : World) : ∃ (v : Value) (w1 : World), Sem.run Tryz.prog (convert 9 57 (.string s)) w = .ok v w1 ∧ OwnM w v s.data.toList w1 := by
  have hl : s.data.toList.length = s.size := by simp
  have hge := grownCap_ge w s.size 0 5
  have hsz : (bytesRow s (grownCap w s.size 0 5)).size = grownCap w s.size 0 5 := by
    unfold bytesRow; simp; omega
  refine ⟨_, _, run_bytes_of_string w 9 57 5 s Tryz.underlying9 Tryz.underlying57 Tryz.underlying5, ?_⟩
  have hcell := fun j => cell_of_row (w.drew.alloc (.cells (bytesRow s (grownCap w s.size 0 5)) 5 ((bytesRow s (grownCap w s.size 0 5)).size, (bytesRow s (grownCap w s.size 0 5)).size + 1))) w.heap.size j _ 5 _ (heap_alloc_new w.drew _)
  refine ⟨w.heap.size, grownCap w s.size 0 5, by rw [hl], Nat.le_refl _, by simp, by rw [hl]; exact hge, fun j hj => ⟨?_, ?_⟩, fun j hj => ?_, ((Below.refl _ _).drew).alloc (Nat.le_refl _) _⟩
  · rw [hcell j, Array.getElem?_eq_getElem (by rw [hsz]; exact hj)]; rfl
  · unfold World.frozen?
    rw [show (w.drew.alloc (.cells (bytesRow s (grownCap w s.size 0 5)) 5 ((bytesRow s (grownCap w s.size 0 5)).size, (bytesRow s (grownCap w s.size 0 5)).size + 1))).heap[w.heap.size]? = _ from heap_alloc_new w.drew _]
    simp
    omega
  · rw [hcell j, bytesRow_at s _ j (by omega)]
    rfl
end Go.Proofs.YtibjcofbhldenaaGreatDoor
