/- The contracts of Steps, Down, find, newFile. The contracts of step and stepOn. The contract of stepOn; a text appended, and what else is as it was. The contracts of the changes of names as functions, and of do. -/
import Derived.Test.YtijnjgnckipghaaGreatBw1
import Derived.Test.YtijnjgnckipghaaGreatDkA
import Derived.Deep.RegionWith
import Derived.Maps.OwnOps
namespace Go.Proofs.YtijnjgnckipghaaGreat
open Go.RowKit
set_option maxHeartbeats 400000 in
theorem stepsC {o : Ow} {g : Nat} {s : Dk} {W : World} (h : Dsk o g s W) : Calls Tryz.prog 19 #[.pointer (some ⟨g, 0, none⟩)] W fun e W' => e = .returned (.int .i64 (s.n : Int)) ∧ W' = W := by
  obtain ⟨m0, m1, m2, pv, fb, cs, v⟩ := h
  obtain ⟨⟨_, _, _, c3, _⟩, _⟩ := cells_eight v.blk
  clear v
  go_enter Tryz.func19, Tryz.ntmps19
  go_wp2_with fail
  go_ret
  exact ⟨rfl, rfl⟩
set_option maxHeartbeats 1000000 in
theorem downC {o : Ow} {g : Nat} {s : Dk} {W : World} (h : Dsk o g s W) : Calls Tryz.prog 67 #[.pointer (some ⟨g, 0, none⟩)] W fun e W' => e = .returned (.bool s.down) ∧ ∃ n, W' = W.drewN n := by
  obtain ⟨m0, m1, m2, pv, fb, cs, v⟩ := h
  obtain ⟨⟨_, c1, _, c3, _⟩, _⟩ := cells_eight v.blk
  clear v
  by_cases hp : 0 ≤ s.power
  · by_cases hn : (s.n : Int) = s.power
    · have D : Hid (s.down = true) := by unfold Hid Dk.down; rw [decide_eq_true_iff]; exact ⟨hp, hn⟩
      have q1 : decide (0 ≤ s.power) = true := by simpa using hp
      have q2 : ((s.n : Int) == s.power) = true := by simpa using hn
      generalize (s.n : Int) = a at c3 q2
      generalize s.power = p at c1 q1 q2
      clear hp hn
      go_enter Tryz.func67, Tryz.ntmps67
      go_wp2_with fail
      go_quiet (fail)
      go_wp2_with fail
      go_ret
      rw [D.out]
      exact ⟨rfl, _, rfl⟩
    · have D : Hid (s.down = false) := by unfold Hid Dk.down; rw [decide_eq_false_iff_not]; exact fun h => hn h.2
      have q1 : decide (0 ≤ s.power) = true := by simpa using hp
      have q2 : ((s.n : Int) == s.power) = false := by simpa using hn
      generalize (s.n : Int) = a at c3 q2
      generalize s.power = p at c1 q1 q2
      clear hp hn
      go_enter Tryz.func67, Tryz.ntmps67
      go_wp2_with fail
      go_quiet (fail)
      go_wp2_with fail
      go_ret
      rw [D.out]
      exact ⟨rfl, _, rfl⟩
  · have D : Hid (s.down = false) := by unfold Hid Dk.down; rw [decide_eq_false_iff_not]; exact fun h => hp h.1
    have q1 : decide (0 ≤ s.power) = false := by simpa using hp
    generalize (s.n : Int) = a at c3
    generalize s.power = p at c1 q1
    clear hp
    go_enter Tryz.func67, Tryz.ntmps67
    go_wp2_with fail
    go_quiet (fail)
    go_wp2_with fail
    go_ret
    rw [D.out]
    exact ⟨rfl, _, rfl⟩
/-- what find answers -/
def findV (fb : Nat → Nat) (l : NL) (n : Nm) : Value := match atN l n with | some k => .tuple #[.pointer (some ⟨fb k, 0, none⟩), .int .i64 0] | none => .tuple #[.pointer none, .int .i64 90]
set_option maxHeartbeats 1000000 in
theorem findC {o : Ow} {g m0 m1 m2 : Nat} {pv : Value} {fb : Nat → Nat} {s : Dk} {cs : List Chg} {W : World} (v : DkV o g m0 m1 m2 pv fb s cs W) (nm : ByteArray) (hs : nm.size ≤ 140737488351232) :
    Calls Tryz.prog 91 #[.pointer (some ⟨g, 0, none⟩), .string nm] W fun e W' => e = .returned (findV fb s.now nm.data.toList) ∧ W' = W := by
  obtain ⟨⟨_, _, _, _, _, c5, _⟩, _⟩ := cells_eight v.blk
  have hT := v.seen
  clear v
  cases ha : atN s.now nm.data.toList with
  | none =>
    have hl := look_none hT hs ha
    have F : Hid (findV fb s.now nm.data.toList = .tuple #[.pointer none, .int .i64 90]) := by unfold Hid findV; rw [ha]
    clear ha hT
    go_enter Tryz.func91, Tryz.ntmps91
    go_wp2_with fail
    go_ret2
    rw [F.out]
    exact ⟨rfl, rfl⟩
  | some k =>
    have hl := look_some hT hs ha
    have F : Hid (findV fb s.now nm.data.toList = .tuple #[.pointer (some ⟨fb k, 0, none⟩), .int .i64 0]) := by unfold Hid findV; rw [ha]
    clear ha hT
    go_enter Tryz.func91, Tryz.ntmps91
    go_wp2_with fail
    go_ret2
    rw [F.out]
    exact ⟨rfl, rfl⟩
/-- a new file's block -/
abbrev newB (W : World) (g i : Nat) : World := (W.setCell ⟨g, 4, none⟩ (.int .i64 ((i : Int) + 1))).alloc (.cells #[.int .i64 (i : Int), .slice none 0 0, .int .i64 0] 112)
set_option maxHeartbeats 1000000 in
theorem newFileC {o : Ow} {g m0 m1 m2 : Nat} {pv : Value} {fb : Nat → Nat} {s : Dk} {cs : List Chg} {W : World} (v : DkV o g m0 m1 m2 pv fb s cs W) (hb : s.data.length ≤ 1000000000) :
    Calls Tryz.prog 53 #[.pointer (some ⟨g, 0, none⟩)] W fun e W' => e = .returned (.pointer (some ⟨W.heap.size, 0, none⟩)) ∧ W' = newB W g s.data.length := by
  have hg := v.blk.2
  have hne : ¬ W.heap.size = g := by omega
  have hne2 : ¬ g = W.heap.size := by omega
  obtain ⟨⟨_, _, _, _, c4, _⟩, ⟨_, f4, _⟩⟩ := cells_eight v.blk
  generalize hd : s.data.length = n at c4 hb ⊢
  clear v hd
  go_enter Tryz.func53, Tryz.ntmps53
  go_wp2_with fail
  go_ret
  exact ⟨rfl, rfl⟩
end Go.Proofs.YtijnjgnckipghaaGreat
namespace Go.Proofs.YtijnjgnckipghaaGreat
open Go.RowKit
def stepE (s : Dk) (ns : List Nm) : Int := if s.down = true then 93 else if s.fault = true then 94 else if ns.any (fun n => !goodN n) = true then 95 else 0
def cntS (s : Dk) : Dk := if s.down = true then s else { s with n := s.n + 1 }
theorem dkV_head {o : Ow} {g m0 m1 m2 : Nat} {pv : Value} {fb : Nat → Nat} {s : Dk} {cs : List Chg} {W W' : World} (h : DkV o g m0 m1 m2 pv fb s cs W) (hs : Same o (fun r => r ≠ .disk) W W') (n : Nat)
    (hb : Blk g W' [.int .i64 s.room, .int .i64 s.power, .map (some m0), .int .i64 (n : Int), .int .i64 (s.data.length : Int), .map (some m1), .map (some m2), pv]) : DkV o g m0 m1 m2 pv fb { s with n := n } cs W' where
  blk := hb
  fails := fails_same h.fails hs h.o0 (by decide)
  seen := tbl_same h.seen hs h.o1 (by decide)
  safe := tbl_same h.safe hs h.o2 (by decide)
  pend := pend_same h.pend hs (by decide) (by decide)
  files := fun i hi => file_same (h.files i hi) hs (by simp) (by simp)
  og := h.og
  o0 := h.o0
  o1 := h.o1
  o2 := h.o2
  lt := fun k hk => Nat.lt_of_lt_of_le (h.lt k hk) hs.size
  wf := wf_count h.wf n
  once := h.once
  sc := h.sc
  rm := h.rm
theorem dkV_drew {o : Ow} {g m0 m1 m2 : Nat} {pv : Value} {fb : Nat → Nat} {s : Dk} {cs : List Chg} {W : World} (h : DkV o g m0 m1 m2 pv fb s cs W) (n : Nat) : DkV o g m0 m1 m2 pv fb s cs (W.drewN n) := dkV_same h (same_below (below_drewN W n) h.lt)
theorem dkV_below {o : Ow} {g m0 m1 m2 : Nat} {pv : Value} {fb : Nat → Nat} {s : Dk} {cs : List Chg} {W W' : World} (h : DkV o g m0 m1 m2 pv fb s cs W) (hb : Below W.heap.size W W') : DkV o g m0 m1 m2 pv fb s cs W' := dkV_same h (same_below hb h.lt)
theorem dkV_count {o : Ow} {g m0 m1 m2 : Nat} {pv : Value} {fb : Nat → Nat} {s : Dk} {cs : List Chg} {W : World} (h : DkV o g m0 m1 m2 pv fb s cs W) (n : Nat) : DkV o g m0 m1 m2 pv fb { s with n := n } cs (W.setCell ⟨g, 3, none⟩ (.int .i64 (n : Int))) :=
  dkV_head h (same_poke h.og _) n (cells_set h.blk (j := 3) (by simp) (.int .i64 (n : Int)))
theorem off_drewN {S : Nat → Prop} (W : World) (n : Nat) : Off S W (W.drewN n) := off_of (below_drewN W n)
theorem look_fails' {W W2 : World} {m : Nat} {fs : List Int} (h : FailsAt W m fs) {i : Int} (hi : -9223372036854775808 ≤ i ∧ i ≤ 9223372036854775807) (e : W2.heap[m]? = W.heap[m]?) :
    (Instr.lookup 102 (.map (some m)) (.int .i64 i) true).run Tryz.prog W2 = .ok (.tuple #[.agg #[], .bool (decide (i ∈ fs))]) W2 := by
  obtain ⟨n, D, ⟨es, clock, hh, F, hn, hD⟩, h2⟩ := h
  exact look_fails ⟨n, D, ⟨es, clock, by rw [e]; exact hh, F, hn, hD⟩, h2⟩ hi
theorem holds_off {S : Nat → Prop} {W W' : World} {v : Value} {ss : List (List UInt8)} (h : Holds W v ss) (hb : Off S W W') (hS : ∀ ad n c, v = .slice (some ad) n c → ¬ S ad.block) : Holds W' v ss := by
  obtain ⟨ao, cap, rfl, hc⟩ := h
  refine ⟨ao, cap, rfl, fun hne => ?_⟩
  obtain ⟨b, off, rfl, hlt, hcell⟩ := hc hne
  have hn := hS _ _ _ rfl
  exact ⟨b, off, rfl, Nat.lt_of_lt_of_le hlt hb.size, fun j hj => by rw [World.cell?_of_block (w := W) (a := ⟨b, off + j, none⟩) (hb.block b hlt hn)]; exact hcell j hj⟩
set_option maxRecDepth 20000 in
set_option maxHeartbeats 2000000 in
theorem stepC {o : Ow} {g m0 m1 m2 : Nat} {pv : Value} {fb : Nat → Nat} {s : Dk} {cs : List Chg} {W : World} (v : DkV o g m0 m1 m2 pv fb s cs W) (hv : Value) (ns : List Nm) (hh : Holds W hv ns) (hl : ∀ n ∈ ns, n.length ≤ 140737488351232) (hn : ns.length ≤ 1000000)
    (hN : s.n ≤ 1000000000) (hav : ∀ ad n c, hv = .slice (some ad) n c → o ad.block = none) :
    Calls Tryz.prog 74 #[.pointer (some ⟨g, 0, none⟩), hv] W fun e W' => e = .returned (.int .i64 (stepE s ns)) ∧ DkV o g m0 m1 m2 pv fb (cntS s) cs W' ∧ Off (fun k => k = g) W W' := by
  have CD := hide' (downC ⟨m0, m1, m2, pv, fb, cs, v⟩)
  cases hd : s.down with
  | true =>
    have E : Hid (stepE s ns = 93) := by unfold Hid stepE; rw [if_pos hd]
    have E2 : Hid (cntS s = s) := by unfold Hid cntS; rw [if_pos hd]
    rw [hd] at CD
    have V := hide' v
    clear v hd hh hav
    go_enter Tryz.func74, Tryz.ntmps74
    go_wp2_with (go_at_call 67; refine CD.out.mono ?_; rintro e w' ⟨rfl, k, rfl⟩)
    go_ret
    rw [E.out, E2.out]
    exact ⟨rfl, dkV_drew V.out k, off_drewN W k⟩
  | false =>
    rw [hd] at CD
    have E2 : Hid (cntS s = { s with n := s.n + 1 }) := by unfold Hid cntS; rw [if_neg (by rw [hd]; decide)]
    have hg := v.blk.2
    obtain ⟨⟨c0, c1, c2, c3, c4, c5, c6, c7⟩, ⟨f3, f4, f7⟩⟩ := cells_eight v.blk
    have hm0 := v.lt m0 (has_of v.o0)
    have hgm : m0 ≠ g := ow_ne v.o0 v.og (by decide)
    have LF := hide' (fun W2 e => look_fails' (W2 := W2) v.fails (i := (s.n : Int) + 1) (by omega) e)
    have V := hide' v
    have HN := hide' hN
    have hd1 : ∀ k, ((W.drewN k).setCell ⟨g, 3, none⟩ (.int .i64 ((s.n : Int) + 1))).heap[m0]? = W.heap[m0]? := fun k => by
      rw [heap_setCell_other _ _ _ _ hgm]
      exact (below_drewN W k).block m0 hm0
    have hz1 : ∀ k, m0 < ((W.drewN k).setCell ⟨g, 3, none⟩ (.int .i64 ((s.n : Int) + 1))).heap.size := fun k => by
      have := (below_drewN W k).size
      simp [World.setCell]
      omega
    have l1 : ∀ k, (Instr.lookup 102 (.map (some m0)) (.int .i64 ((s.n : Int) + 1)) true).run Tryz.prog (((W.drewN k).setCell ⟨g, 3, none⟩ (.int .i64 ((s.n : Int) + 1))).drew) = .ok (.tuple #[.agg #[], .bool (decide ((s.n : Int) + 1 ∈ s.fails))]) (((W.drewN k).setCell ⟨g, 3, none⟩ (.int .i64 ((s.n : Int) + 1))).drew) := fun k => LF.out _ (hd1 k)
    have l2 : ∀ k, (Instr.lookup 102 (.map (some m0)) (.int .i64 ((s.n : Int) + 1)) true).run Tryz.prog ((((W.drewN k).setCell ⟨g, 3, none⟩ (.int .i64 ((s.n : Int) + 1))).alloc (.cells #[] 108)).drew) = .ok (.tuple #[.agg #[], .bool (decide ((s.n : Int) + 1 ∈ s.fails))]) ((((W.drewN k).setCell ⟨g, 3, none⟩ (.int .i64 ((s.n : Int) + 1))).alloc (.cells #[] 108)).drew) := fun k => LF.out _ ((Below.heap_alloc _ _ m0 (hz1 k)).trans (hd1 k))
    have VC : Hid (∀ k, DkV o g m0 m1 m2 pv fb { s with n := s.n + 1 } cs (((W.drewN k).setCell ⟨g, 3, none⟩ (.int .i64 ((s.n : Int) + 1))))) := fun k => dkV_count (dkV_drew V.out k) (s.n + 1)
    have OF : Hid (∀ k, Off (fun k => k = g) W ((W.drewN k).setCell ⟨g, 3, none⟩ (.int .i64 ((s.n : Int) + 1)))) := fun k => (off_drewN W k).trans (off_poke (S := fun k => k = g) ⟨g, 3, none⟩ rfl _) (fun i hi => .inl hi)
    cases hq : decide ((s.n : Int) + 1 ∈ s.fails) with
    | true =>
      rw [hq] at l1 l2
      have E : Hid (stepE s ns = 94) := by
        unfold Hid stepE
        rw [if_neg (by rw [hd]; decide), if_pos]
        unfold Dk.fault
        rw [show ((s.n + 1 : Nat) : Int) = (s.n : Int) + 1 by omega]
        exact hq
      clear v hq hh hav LF hd hd1 hz1 V
      go_enter Tryz.func74, Tryz.ntmps74
      go_wp2_with (go_at_call 67; refine CD.out.mono ?_; rintro e w' ⟨rfl, k, rfl⟩)
      go_region
      all_goals
        go_wp2_with fail
        go_ret
        rw [E.out, E2.out]
        have bz := (below_alloc' ((W.drewN k).setCell ⟨g, 3, none⟩ (.int .i64 ((s.n : Int) + 1))) (.cells #[] 108)).drew
        exact ⟨rfl, dkV_below (VC.out k) bz, (OF.out k).trans (off_of (S := fun _ => False) bz) (fun i hi => hi.elim)⟩
    | false =>
      rw [hq] at l1 l2
      have E : Hid (stepE s ns = if ns.any (fun n => !goodN n) = true then 95 else 0) := by
        unfold Hid stepE
        rw [if_neg (by rw [hd]; decide), if_neg]
        unfold Dk.fault
        rw [show ((s.n + 1 : Nat) : Int) = (s.n : Int) + 1 by omega, hq]
        decide
      have CB : Hid (∀ k, Calls Tryz.prog 99 #[hv, .func (.func 100) #[] #[]] ((((W.drewN k).setCell ⟨g, 3, none⟩ (.int .i64 ((s.n : Int) + 1))).alloc (.cells #[] 108)).drew) fun e w' => e = .returned (.bool (ns.any (fun n => !goodN n))) ∧ w' = (((W.drewN k).setCell ⟨g, 3, none⟩ (.int .i64 ((s.n : Int) + 1))).alloc (.cells #[] 108)).drew) := fun k =>
        anyBad hv ns _ (holds_mono (holds_off hh (OF.out k) (fun ad n c e => by
          have h1 := hav ad n c e
          intro h2
          rw [h2, V.out.og] at h1
          cases h1)) ((below_alloc' ((W.drewN k).setCell ⟨g, 3, none⟩ (.int .i64 ((s.n : Int) + 1))) (.cells #[] 108)).drew)) hl hn
      clear v hq hh hav LF hd hd1 hz1 V hl hn
      cases hb : ns.any (fun n => !goodN n) with
      | true =>
        rw [hb] at CB E
        rw [if_pos rfl] at E
        clear hb
        go_enter Tryz.func74, Tryz.ntmps74
        go_wp2_with (go_at_call 67; refine CD.out.mono ?_; rintro e w' ⟨rfl, k, rfl⟩)
        go_region
        all_goals
          go_wp2_with (go_at_call 99; refine (CB.out k).mono ?_; rintro e w' ⟨rfl, ew⟩; rw [ew]; clear ew w')
          go_ret
          rw [E.out, E2.out]
          have bz := (below_alloc' ((W.drewN k).setCell ⟨g, 3, none⟩ (.int .i64 ((s.n : Int) + 1))) (.cells #[] 108)).drew
          exact ⟨rfl, dkV_below (VC.out k) bz, (OF.out k).trans (off_of (S := fun _ => False) bz) (fun i hi => hi.elim)⟩
      | false =>
        rw [hb] at CB E
        rw [if_neg (by decide)] at E
        clear hb
        go_enter Tryz.func74, Tryz.ntmps74
        go_wp2_with (go_at_call 67; refine CD.out.mono ?_; rintro e w' ⟨rfl, k, rfl⟩)
        go_region
        all_goals
          go_wp2_with (go_at_call 99; refine (CB.out k).mono ?_; rintro e w' ⟨rfl, ew⟩; rw [ew]; clear ew w')
          go_ret
          rw [E.out, E2.out]
          have bz := (below_alloc' ((W.drewN k).setCell ⟨g, 3, none⟩ (.int .i64 ((s.n : Int) + 1))) (.cells #[] 108)).drew
          exact ⟨rfl, dkV_below (VC.out k) bz, (OF.out k).trans (off_of (S := fun _ => False) bz) (fun i hi => hi.elim)⟩
end Go.Proofs.YtijnjgnckipghaaGreat
namespace Go.Proofs.YtijnjgnckipghaaGreat
open Go.RowKit
theorem appS2 {ops : Array Oper} {rest : List Oper} {o : Oper} {a : Act} {Q : Exit → Act → World → Prop} {wr : World} {t : ByteArray} (hgd : o.guard = none) (s x : Operand)
    (ho : o.op = .call { callee := .builtin .append, args := #[s, x], argTypes := #[79, 79] }) (w0 : World) (v : Value) (ss : List (List UInt8)) (hs : a.eval s = v) (hown : OwnS w0 v ss wr)
    (hx : a.eval x = .slice (some ⟨wr.heap.size, 0, none⟩) 1 1) (hlen : (ss.length + 1) * 16 ≤ 140737488355328)
    (h : ∀ v' w', OwnS w0 v' (ss ++ [t.data.toList]) w' → wr.heap.size ≤ w'.heap.size → Below w0.heap.size wr w' → wpList Tryz.prog ops Q rest (a.put o.dst v') w') : wpList Tryz.prog ops Q (o :: rest) a (wr.alloc (.cells #[.string t] 9)) := by
  obtain ⟨i0, hi, hz0, hz1, hz2⟩ := info_parts Tryz.info9
  have hsz := hown.2.size
  refine wpList_append_own _ hgd s x 79 ho w0.heap.size 9 i0 (.string ⟨#[]⟩) 1 16 Tryz.underlying79 hi hz0 hz1 hz2 rfl (by decide) v ss.length (ss.map S) hs (hown.1.alloc _) ⟨wr.heap.size, 0, none⟩ 1 1 [S t.data.toList] hx rfl ?_ ?_ ?_ ?_ ?_ ?_
  · intro j u hj
    match j, hj with
    | 0, hj => simp at hj; subst hj; simp [Addr.add, S]
  · intro u hu; simp at hu; subst hu; rfl
  · unfold maxLen; omega
  · omega
  · simp; omega
  · intro v' w' h1 h2 _
    have hbl : Below w0.heap.size wr w' := Below.grown ((Below.refl w0.heap.size wr).alloc (by omega) _) h2 (by simp; omega) (fun k hk => (hown.1.lt k hk).1)
    refine h v' w' ⟨by simpa using h1, hown.2.trans hbl⟩ ?_ hbl
    have := h2.size
    simp at this
    omega
def onV (fb : Nat → Nat) (l : NL) (n : Nm) (e : Int) : Value := if e ≠ 0 then .tuple #[.pointer none, .int .i64 e] else findV fb l n
theorem cnt_now (s : Dk) : (cntS s).now = s.now := by unfold cntS; split <;> rfl
set_option maxRecDepth 20000 in
set_option maxHeartbeats 2000000 in
theorem stepOnC {o : Ow} {g m0 m1 m2 : Nat} {pv : Value} {fb : Nat → Nat} {s : Dk} {cs : List Chg} {W : World} (v : DkV o g m0 m1 m2 pv fb s cs W) (w0 : World) (ov : Value) (os : List Nm) (ho : OwnS w0 ov os W) (hlt : ∀ k, o.has k → k < w0.heap.size) (nm : ByteArray) (hs : nm.size ≤ 140737488351232) (hl : ∀ n ∈ os, n.length ≤ 140737488351232) (hn : os.length ≤ 100)
    (hN : s.n ≤ 1000000000) :
    Calls Tryz.prog 87 #[.pointer (some ⟨g, 0, none⟩), .string nm, ov] W fun e W' => e = .returned (onV fb s.now nm.data.toList (stepE s (os ++ [nm.data.toList]))) ∧ DkV o g m0 m1 m2 pv fb (cntS s) cs W' ∧ Off (fun k => k = g ∨ w0.heap.size ≤ k) W W' := by
  have V := hide' v
  have HO := hide' ho
  have HL := hide' hlt
  have CS : Hid (∀ (v2 : Value) (w2 : World), OwnS w0 v2 (os ++ [nm.data.toList]) w2 → W.heap.size ≤ w2.heap.size → Below w0.heap.size W w2 → Calls Tryz.prog 74 #[.pointer (some ⟨g, 0, none⟩), v2] w2 fun e W' => ∃ E : Int, e = .returned (.int .i64 E) ∧ Hid (E = stepE s (os ++ [nm.data.toList])) ∧ Hid (DkV o g m0 m1 m2 pv fb (cntS s) cs W' ∧ Off (fun k => k = g ∨ w0.heap.size ≤ k) W W')) := by
    intro v2 w2 h1 h2 h3
    have V2 : DkV o g m0 m1 m2 pv fb s cs w2 := dkV_same V.out ⟨h2, fun k r e _ => h3.block k (HL.out k (has_of e))⟩
    refine (stepC V2 v2 _ (holds_own h1) (fun n hn => ?_) (by rw [List.length_append]; simp; omega) hN (fun ad n c e => ?_)).mono ?_
    · rcases List.mem_append.1 hn with h | h
      · exact hl n h
      · rw [List.mem_singleton.1 h]; simpa using hs
    · have hb := (h1.1.lt ad.block (by rw [e]; rfl)).1
      cases e3 : o ad.block with
      | none => rfl
      | some r => have := HL.out _ (has_of e3); omega
    · rintro e W' ⟨rfl, hV, hO⟩
      refine ⟨_, rfl, rfl, hV, ?_⟩
      refine Off.trans (S := fun k => k = g ∨ w0.heap.size ≤ k) (B := w2) ⟨h3.os, h3.tape, h3.output, h2, fun k hk hnk => h3.block k ?_⟩ hO (fun i hi => .inl (.inl hi))
      have := fun h => hnk (.inr h)
      omega
  clear v ho hlt hl
  go_enter Tryz.func87, Tryz.ntmps87
  go_wp2_with (at_builtin; refine appS2 rfl (.tmp 10) (.tmp 12) rfl w0 _ os rfl HO.out rfl (by omega) ?_; intro v2 w2 hA hB hC; have HA := hide' hA; have HB := hide' hB; have HC := hide' hC; clear hA hB hC)
  refine (CS.out v2 w2 HA.out HB.out HC.out).mono ?_
  rintro e w3 ⟨E, rfl, HE, HV⟩
  by_cases h0 : E = 0
  · subst h0
    have CF := hide' (findC HV.out.1 nm hs)
    have R : Hid (onV fb s.now nm.data.toList (stepE s (os ++ [nm.data.toList])) = findV fb (cntS s).now nm.data.toList) := by
      unfold Hid onV; rw [← HE.out, if_neg (by decide), cnt_now]
    cases ha : atN (cntS s).now nm.data.toList with
    | none =>
      have F : Hid (findV fb (cntS s).now nm.data.toList = .tuple #[.pointer none, .int .i64 90]) := by unfold Hid findV; rw [ha]
      rw [F.out] at CF
      clear ha
      go_wp2_with (go_at_call 91; refine CF.out.mono ?_; rintro e w4 ⟨rfl, ew⟩; rw [ew]; clear ew w4)
      go_ret2
      rw [R.out, F.out]
      exact ⟨rfl, HV.out.1, HV.out.2⟩
    | some k =>
      have F : Hid (findV fb (cntS s).now nm.data.toList = .tuple #[.pointer (some ⟨fb k, 0, none⟩), .int .i64 0]) := by unfold Hid findV; rw [ha]
      rw [F.out] at CF
      clear ha
      go_wp2_with (go_at_call 91; refine CF.out.mono ?_; rintro e w4 ⟨rfl, ew⟩; rw [ew]; clear ew w4)
      go_ret2
      rw [R.out, F.out]
      exact ⟨rfl, HV.out.1, HV.out.2⟩
  · have R : Hid (onV fb s.now nm.data.toList (stepE s (os ++ [nm.data.toList])) = .tuple #[.pointer none, .int .i64 E]) := by
      unfold Hid onV; rw [← HE.out, if_pos h0]
    have q : (E != 0) = true := by simpa using h0
    clear h0
    go_wp2_with fail
    go_ret2
    rw [R.out]
    exact ⟨rfl, HV.out.1, HV.out.2⟩
end Go.Proofs.YtijnjgnckipghaaGreat
namespace Go.Proofs.YtijnjgnckipghaaGreat
open Go.RowKit Go.Maps
theorem key_l {n : Nm} (hn : n.length ≤ 64) : keyOf Tryz.prog 9 (.string ⟨n.toArray⟩) = some (.string n) := by
  have := key_str (s := ⟨n.toArray⟩) (by rw [size_l]; omega)
  simpa using this
theorem tbl_put {W : World} {m : Nat} {fb : Nat → Nat} {l : NL} {n : Nm} {k : Nat} {x : Nat} (h : W.ownsMap Tryz.prog 9 pel m x ((dOf fb l).put (.string n) (.lit (.int .i64 (fb k : Int))))) : Tbl W m fb (putN l n k) := by
  rw [dOf_put] at h
  have := own_tight h
  rw [dOf_size] at this
  exact this
theorem tbl_del {W : World} {m : Nat} {fb : Nat → Nat} {l : NL} {n : Nm} {x : Nat} (h : W.ownsMap Tryz.prog 9 pel m x ((dOf fb l).del (.string n))) : Tbl W m fb (delN l n) := by
  rw [dOf_del] at h
  have := own_tight h
  rw [dOf_size] at this
  exact this
set_option maxHeartbeats 1000000 in
theorem putC {W : World} {m bf bn k : Nat} {fb : Nat → Nat} {l : NL} {n : Nm} (hT : Tbl W m fb l) (hl : l.length ≤ 1000000000) (hn : n.length ≤ 64) (c1 : W.cell? ⟨bf, 0, none⟩ = some (.pointer (some ⟨fb k, 0, none⟩))) (c2 : W.cell? ⟨bn, 0, none⟩ = some (S n)) :
    Calls Tryz.prog 76 #[.map (some m), .pointer (some ⟨bf, 0, none⟩), .pointer (some ⟨bn, 0, none⟩)] W fun e W' => e = .returned (.tuple #[]) ∧ Tbl W' m fb (putN l n k) ∧ W.grownBy W' (some m) := by
  have HT := hide' hT
  have HK := hide' (key_l hn)
  unfold S at c2
  generalize (⟨n.toArray⟩ : ByteArray) = nb at HK c2
  clear hT hn
  go_enter Tryz.func76, Tryz.ntmps76
  go_wp2_with (at_mapUpdate; refine wpList_mapUpdate_own _ rfl _ _ _ 104 rfl 9 109 kStr Tryz.underlying104 pel m l.length (dOf fb l) rfl HT.out (by unfold maxLen; omega) _ _ (.string n) rfl rfl HK.out (.lit (.int .i64 (fb k : Int))) [] (pel_at _) ?_; intro w1 h1 h2; have H1 := hide' h1; have H2 := hide' h2; clear h1 h2)
  go_end0
  exact ⟨rfl, tbl_put H1.out, H2.out⟩
set_option maxHeartbeats 1000000 in
theorem delC {W : World} {m bn : Nat} {fb : Nat → Nat} {l : NL} {n : Nm} (hT : Tbl W m fb l) (hn : n.length ≤ 64) (c2 : W.cell? ⟨bn, 0, none⟩ = some (S n)) :
    Calls Tryz.prog 95 #[.map (some m), .pointer (some ⟨bn, 0, none⟩)] W fun e W' => e = .returned (.tuple #[]) ∧ Tbl W' m fb (delN l n) ∧ W.grownBy W' (some m) := by
  have HT := hide' hT
  have HK := hide' (key_l hn)
  unfold S at c2
  generalize (⟨n.toArray⟩ : ByteArray) = nb at HK c2
  clear hT hn
  go_enter Tryz.func95, Tryz.ntmps95
  go_wp2_with (at_delete; refine wpList_delete_own _ rfl _ _ 104 9 rfl 109 kStr Tryz.underlying104 pel m l.length (dOf fb l) rfl HT.out _ (.string n) rfl HK.out ?_; intro w1 h1 h2; have H1 := hide' h1; have H2 := hide' h2.grown; clear h1 h2)
  go_end0
  exact ⟨rfl, tbl_del H1.out, H2.out⟩
set_option maxHeartbeats 1000000 in
theorem mvC {W : World} {m ba bf bb k : Nat} {fb : Nat → Nat} {l : NL} {a b : Nm} (hT : Tbl W m fb l) (hl : l.length ≤ 1000000000) (ha : a.length ≤ 64) (hb : b.length ≤ 64) (c1 : W.cell? ⟨ba, 0, none⟩ = some (S a)) (c2 : W.cell? ⟨bf, 0, none⟩ = some (.pointer (some ⟨fb k, 0, none⟩))) (c3 : W.cell? ⟨bb, 0, none⟩ = some (S b)) (n2 : bf ≠ m) (n3 : bb ≠ m) :
    Calls Tryz.prog 101 #[.map (some m), .pointer (some ⟨ba, 0, none⟩), .pointer (some ⟨bf, 0, none⟩), .pointer (some ⟨bb, 0, none⟩)] W fun e W' => e = .returned (.tuple #[]) ∧ Tbl W' m fb (putN (delN l a) b k) ∧ W.grownBy W' (some m) := by
  have HT := hide' hT
  have HA := hide' (key_l ha)
  have HB := hide' (key_l hb)
  have C2 := hide' c2
  have C3 := hide' (show W.cell? ⟨bb, 0, none⟩ = some (.string ⟨b.toArray⟩) from c3)
  have l2 := cell_lt c2
  have l3 := cell_lt c3
  have hd := delN_len l a
  unfold S at c1 c3
  generalize (⟨a.toArray⟩ : ByteArray) = na at HA c1
  generalize (⟨b.toArray⟩ : ByteArray) = nb at HB c3 C3
  clear hT ha hb
  go_enter Tryz.func101, Tryz.ntmps101
  go_wp2_with (first
    | (at_delete; refine wpList_delete_own _ rfl _ _ 104 9 rfl 109 kStr Tryz.underlying104 pel m l.length (dOf fb l) rfl HT.out _ (.string a) rfl HA.out ?_; intro w1 h1 h2; have H1 := hide' (tbl_del h1); have H2 := hide' h2.grown; clear h1 h2; have d2 : w1.cell? ⟨bf, 0, none⟩ = some (.pointer (some ⟨fb k, 0, none⟩)) := (by rw [World.cell?_of_block (w := W) (a := ⟨bf, 0, none⟩) (H2.out.block bf l2 (fun e => n2 (Option.some.inj e)))]; exact C2.out); have d3 : w1.cell? ⟨bb, 0, none⟩ = some (.string nb) := (by rw [World.cell?_of_block (w := W) (a := ⟨bb, 0, none⟩) (H2.out.block bb l3 (fun e => n3 (Option.some.inj e)))]; exact C3.out))
    | (at_mapUpdate; refine wpList_mapUpdate_own _ rfl _ _ _ 104 rfl 9 109 kStr Tryz.underlying104 pel m (delN l a).length (dOf fb (delN l a)) rfl H1.out (by unfold maxLen; omega) _ _ (.string b) rfl rfl HB.out (.lit (.int .i64 (fb k : Int))) [] (pel_at _) ?_; intro w2 h1 h2; have H3 := hide' (tbl_put h1); have H4 := hide' h2; clear h1 h2))
  go_end0
  exact ⟨rfl, H3.out, H2.out.andThen H4.out (fun j hj => .inr hj)⟩
theorem Tryz.info125 : (Tryz.prog.info? 125).map (fun i => (i.zero, i.size, i.bytes)) = some (some .nilFunc, 1, 8) := by kernel_rfl
end Go.Proofs.YtijnjgnckipghaaGreat
