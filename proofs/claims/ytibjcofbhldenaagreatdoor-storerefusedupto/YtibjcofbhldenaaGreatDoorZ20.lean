/- The contract of Append. The contract of Remove. What a row lists of the library's variables, and what the start of the world gives, is what the road of Parse reads. The contract of SyncNames: all pending changes are done to the names that are safe. The contract of Create. -/
import Derived.Deep.RegionHeld3
import Derived.Lib.LaidU8T
import GoSem.PinnedTables
import Derived.MakeChecks
import Derived.Deep.RegionWith
import Derived.Test.YtibjcofbhldenaaGreatDoorZ19
import Derived.Test.YtibjcofbhldenaaGreatDoorZ01
import Derived.Test.YtibjcofbhldenaaGreatDoorZ08
namespace Go.Proofs.YtibjcofbhldenaaGreatDoor
open Go.RowKit Go.Maps
theorem holdsB_off {S : Nat → Prop} {W W' : World} {v : Value} {bs : List UInt8} (h : HoldsB W v bs) (hb : Off S W W') (hS : ∀ ad n c, v = .slice (some ad) n c → ¬ S ad.block) : HoldsB W' v bs := by
  obtain ⟨ao, cap, rfl, h0, hcp, hc⟩ := h
  refine ⟨ao, cap, rfl, h0, hcp, fun hne => ?_⟩
  obtain ⟨b, off, rfl, hlt, hcell⟩ := hc hne
  have hn := hS _ _ _ rfl
  exact ⟨b, off, rfl, Nat.lt_of_lt_of_le hlt hb.size, fun j hj => by rw [World.cell?_of_block (w := W) (a := ⟨b, off + j, none⟩) (hb.block b hlt hn)]; exact hcell j hj⟩
theorem wrap_small (x : Int) (h0 : 0 ≤ x) (h1 : x < 9223372036854775808) : IntKind.i64.wrap x = x := by
  rw [IntKind.wrap_i64]
  omega
/-- a whole list of bytes appended to a row that stands anywhere, and where it lies then -/
theorem appRowC {ops : Array Oper} {rest : List Oper} {o : Oper} {a : Act} {Q : Exit → Act → World → Prop} {wr : World} (hgd : o.guard = none) (s z : Operand)
    (ho : o.op = .call { callee := .builtin .append, args := #[s, z], argTypes := #[57, 57] }) (v : Value) (ps : List UInt8) (hs : a.eval s = v) (hown : wr.ownsRow 0 5 1 v ps.length (ps.map B))
    (u : Value) (qs : List UInt8) (hz : a.eval z = u) (hu : HoldsB wr u qs) (hlen : ps.length + qs.length ≤ 140737488355328)
    (h : ∀ v' w', w'.ownsRow 0 5 1 v' (ps ++ qs).length ((ps ++ qs).map B) → wr.grownBy w' v.ownBlock → (v'.ownBlock = v.ownBlock ∨ v'.ownBlock = some wr.heap.size) → wpList Tryz.prog ops Q rest (a.put o.dst v') w') : wpList Tryz.prog ops Q (o :: rest) a wr := by
  obtain ⟨i0, hi, hz0, hz1, hz2⟩ := info_parts Tryz.info5
  obtain ⟨ao, cap, rfl, h0, hcp, hc⟩ := hu
  have key : ∀ (ad : Addr), ao = some ad → (∀ j x, (qs.map B)[j]? = some x → wr.cell? (ad.add j) = some x) → wpList Tryz.prog ops Q (o :: rest) a wr := by
    intro ad e hnews
    subst e
    refine wpList_append_own_at _ hgd s z 57 ho 0 5 i0 (.int .u8 0) 1 1 Tryz.underlying57 hi hz0 hz1 hz2 rfl (by decide) v ps.length (ps.map B) hs hown ad qs.length cap (qs.map B) hz (by simp) hnews ?_ (by unfold maxLen; omega) (by omega) (Nat.zero_le _) ?_
    · intro u hu; obtain ⟨x, _, rfl⟩ := List.mem_map.1 hu; rfl
    · intro v' w' h1 h2 _ h4
      exact h v' w' (by rw [List.map_append, List.length_append]; exact h1) h2 h4
  by_cases hq : qs = []
  · subst hq
    cases ao with
    | none =>
      obtain rfl := h0 rfl
      refine wpList_append_own_none hgd s z 57 ho 0 5 i0 1 Tryz.underlying57 hi v ps.length (ps.map B) hs hown hz ?_
      exact h v wr (by rw [List.append_nil]; exact hown) ⟨rfl, rfl, rfl, Nat.le_refl _, fun _ _ _ => rfl⟩ (.inl rfl)
    | some ad => exact key ad rfl (fun j x hj => by simp at hj)
  · obtain ⟨b, off, rfl, hlt, hcell⟩ := hc hq
    refine key ⟨b, off, none⟩ rfl (fun j x hj => ?_)
    have e : (⟨b, off, none⟩ : Addr).add j = ⟨b, off + j, none⟩ := Go.WideShapes.add_plain _ _ _
    rw [e]
    obtain ⟨hj1, hj2⟩ := List.getElem?_eq_some_iff.1 hj
    rw [List.length_map] at hj1
    rw [hcell j hj1, ← hj2]
    simp
theorem row_sl {W : World} {base : Nat} {t : TypeId} {v : Value} {n : Nat} {xs : List Value} (h : W.ownsRow base t 1 v n xs) : ∃ ao cap, v = .slice ao n cap := by
  rcases h.2 with ⟨e, hn⟩ | ⟨x, cap, cur, hv, _⟩
  · exact ⟨none, 0, by rw [hn]; exact e⟩
  · exact ⟨_, _, hv⟩
theorem row_slN {W : World} {base : Nat} {t : TypeId} {v : Value} {n : Nat} {xs : List Value} (h : W.ownsRow base t 1 v n xs) : ∃ ao cap N, v = .slice ao N cap ∧ Hid (N = n) := by
  obtain ⟨ao, cap, e⟩ := row_sl h
  exact ⟨ao, cap, n, e, rfl⟩
/-- who owns what, where a row of file k lies at v -/
def Ow.row (o : Ow) (v : Value) (k : Nat) : Ow := match v.ownBlock with | some rb => o.set rb (.row k) | none => o
theorem dkV_app {o : Ow} {g m0 m1 m2 : Nat} {pv : Value} {fb : Nat → Nat} {s : Dk} {cs : List Chg} {W W2 : World} (h : DkV o g m0 m1 m2 pv fb s cs W) (k : Nat) (rv : Value) {x : List UInt8}
    (fB : Blk (fb k) W [.int .i64 (k : Int), rv, .int .i64 ((s.firm.getD k 0 : Nat) : Int)]) (fo : o (fb k) = some (.file k)) (fw : ∀ rb, rv.ownBlock = some rb → o rb = some (.row k))
    (g2 : W.grownBy W2 rv.ownBlock) {v' : Value} (hrow : W2.ownsRow 0 5 1 v' (s.data.getD k [] ++ x).length ((s.data.getD k [] ++ x).map B)) (hat : v'.ownBlock = rv.ownBlock ∨ v'.ownBlock = some W.heap.size)
    (hw : Wf { s with data := s.data.set k (s.data.getD k [] ++ x) }) :
    DkV (o.row v' k) g m0 m1 m2 pv fb { s with data := s.data.set k (s.data.getD k [] ++ x) } cs (W2.setCell ⟨fb k, 1, none⟩ v') ∧ Grow o W (o.row v' k) (W2.setCell ⟨fb k, 1, none⟩ v') := by
  have hob : ∀ rb, v'.ownBlock = some rb → (o rb = some (.row k) ∨ (o rb = none ∧ rb = W.heap.size)) := by
    intro rb e
    rcases hat with h1 | h1
    · exact .inl (fw rb (by rw [← h1]; exact e))
    · rw [h1] at e
      have e2 := Option.some.inj e
      right
      refine ⟨?_, e2.symm⟩
      cases e3 : o rb with
      | none => rfl
      | some r => have := h.lt rb (has_of e3); omega
  have hle : o.le (o.row v' k) := by
    unfold Ow.row
    cases e : v'.ownBlock with
    | none => exact fun _ _ h => h
    | some rb =>
      rcases hob rb e with h1 | h1
      · exact le_set _ (.inr h1)
      · exact le_set _ (.inl h1.1)
  have hnew : ∀ i, (o.row v' k).has i → o.has i ∨ (v'.ownBlock = some i) := by
    intro i hi
    unfold Ow.row at hi
    cases e : v'.ownBlock with
    | none => rw [e] at hi; exact .inl hi
    | some rb =>
      rw [e] at hi
      by_cases hr : i = rb
      · right; rw [hr]
      · left; unfold Ow.has at hi ⊢; simp only at hi; rw [set_other _ _ hr] at hi; exact hi
  have s1 : Same o (fun r => r ≠ .row k) W W2 := ⟨g2.size, fun i r e hr => g2.block i (h.lt i (has_of e)) (fun e2 => by rw [fw i e2.symm] at e; exact hr (Option.some.inj e).symm)⟩
  have s2 : Same o (fun r => r ≠ .file k) W2 (W2.setCell ⟨fb k, 1, none⟩ v') := same_poke fo _
  have s12 : Same o (fun r => r ≠ .file k ∧ r ≠ .row k) W (W2.setCell ⟨fb k, 1, none⟩ v') := (s1.mono (fun _ h => h.2)).trans (s2.mono (fun _ h => h.1))
  have fB2 := cells_set (blk_same fB s1 fo (by simp)) (j := 1) (by simp) v'
  have ez : (W2.setCell ⟨fb k, 1, none⟩ v').heap.size = W2.heap.size := by simp [World.setCell]
  have row' : (W2.setCell ⟨fb k, 1, none⟩ v').ownsRow 0 5 1 v' (s.data.getD k [] ++ x).length ((s.data.getD k [] ++ x).map B) := by
    refine row_same (o := o.row v' k) (r := .row k) hrow (same_poke (hle _ _ fo) _) (fun rb e => ?_) (by simp)
    unfold Ow.row
    rw [e]
    exact set_same _ _ _
  have hfile : FileAt (o.row v' k) (W2.setCell ⟨fb k, 1, none⟩ v') (fb k) k (s.data.getD k [] ++ x) (s.firm.getD k 0) := ⟨v', fB2, row', hle _ _ fo, fun rb e => by unfold Ow.row; rw [e]; exact set_same _ _ _⟩
  have hlt : ∀ i, (o.row v' k).has i → i < (W2.setCell ⟨fb k, 1, none⟩ v').heap.size := by
    intro i hi
    rw [ez]
    rcases hnew i hi with h1 | h1
    · exact Nat.lt_of_lt_of_le (h.lt i h1) g2.size
    · exact (hrow.lt i h1).2
  have q := dkV_file h k hle s12 hfile hlt (by rw [set_selfN]; exact hw)
  rw [set_selfN] at q
  refine ⟨q, ?_, hle, fun i hi => ?_⟩
  · exact Off.trans (off_grown (S := o.has) g2 (fun i e => has_of (fw i e))) (off_poke (S := o.has) _ (has_of fo) _) (fun i hi => .inl hi)
  · rcases hnew i hi with h1 | h1
    · exact .inl h1
    · rcases hob i h1 with h2 | h2
      · exact .inl (has_of h2)
      · right; omega
theorem app_spec (s : Dk) (nm to : Nm) (d : List UInt8) (h : stepE s [nm] = 0) : (atN s.now nm = none → s.step ⟨2, nm, to, d⟩ = (cntS s, 90)) ∧ ∀ k, atN s.now nm = some k → ((d ≠ [] ∧ s.room < ((s.used + d.length : Nat) : Int)) → s.step ⟨2, nm, to, d⟩ = (cntS s, 92)) ∧ (¬ (d ≠ [] ∧ s.room < ((s.used + d.length : Nat) : Int)) → s.step ⟨2, nm, to, d⟩ = ({ cntS s with data := s.data.set k (s.data.getD k [] ++ d) }, 0)) := by
  obtain ⟨h1, h2⟩ := step_z s ⟨2, nm, to, d⟩ h
  refine ⟨fun e => ?_, fun k e => ⟨fun hc => ?_, fun hc => ?_⟩⟩
  · rw [h2, e, h1]; rfl
  · rw [h2, e, h1]
    show (if d ≠ [] ∧ s.room < ((s.used + d.length : Nat) : Int) then (({ s with n := s.n + 1 } : Dk), (92 : Int)) else ({ s with n := s.n + 1, data := s.data.set k (s.data.getD k [] ++ d) }, 0)) = _
    rw [if_pos hc]
  · rw [h2, e, h1]
    show (if d ≠ [] ∧ s.room < ((s.used + d.length : Nat) : Int) then (({ s with n := s.n + 1 } : Dk), (92 : Int)) else ({ s with n := s.n + 1, data := s.data.set k (s.data.getD k [] ++ d) }, 0)) = _
    rw [if_neg hc]
theorem cnt_data (s : Dk) : (cntS s).data = s.data := by unfold cntS; split <;> rfl
theorem cnt_firm (s : Dk) : (cntS s).firm = s.firm := by unfold cntS; split <;> rfl
theorem cnt_room (s : Dk) : (cntS s).room = s.room := by unfold cntS; split <;> rfl
theorem cnt_used (s : Dk) : (cntS s).used = s.used := by unfold cntS; split <;> rfl
set_option maxRecDepth 20000 in
set_option maxHeartbeats 4000000 in
theorem appendC {o : Ow} {g : Nat} {s : Dk} {W : World} (h : Dsk o g s W) (nm : ByteArray) (to : Nm) (dv : Value) (d : List UInt8) (hs : nm.size ≤ 140737488351232) (hB : Bd 900000000 s) (hd : HoldsB W dv d) (hdl : d.length ≤ 1000000000) (hav : ∀ ad n c, dv = .slice (some ad) n c → o ad.block = none) :
    Calls Tryz.prog 97 #[.pointer (some ⟨g, 0, none⟩), .string nm, dv] W fun e W' => StepPost o g s ⟨2, nm.data.toList, to, d⟩ W e W' := by
  obtain ⟨m0, m1, m2, pv, fb, cs, v⟩ := h
  have CO := hide' (stepOnC v W (.slice none 0 0) [] (ownS_nil W W (Below.refl _ _)) v.lt nm hs (fun n hn => by cases hn) (by simp) (by have := hB.1; omega))
  have V := hide' v
  by_cases hE : stepE s [nm.data.toList] = 0
  · obtain ⟨sp1, sp2⟩ := app_spec s nm.data.toList to d hE
    cases ha : atN s.now nm.data.toList with
    | none =>
      have R : Hid (onV fb s.now nm.data.toList (stepE s ([] ++ [nm.data.toList])) = .tuple #[.pointer none, .int .i64 90]) := by
        unfold Hid onV; rw [List.nil_append, hE, if_neg (by decide)]; unfold findV; rw [ha]
      rw [R.out] at CO
      have SP := hide' (sp1 ha)
      clear v ha hE sp1 sp2 hd hav
      go_enter Tryz.func97, Tryz.ntmps97
      go_wp2_with (go_at_call 100; refine CO.out.mono ?_; rintro e w1 ⟨rfl, h1, h2⟩; have H1 := hide' h1; have H2 := hide' h2; clear h1 h2)
      go_ret
      exact ⟨by rw [SP.out]; rfl, o, by rw [SP.out]; exact ⟨_, _, _, _, _, _, H1.out⟩, grow_g (off_low H2.out (Nat.le_refl _)) V.out.og⟩
    | some k =>
      have R : Hid (onV fb s.now nm.data.toList (stepE s ([] ++ [nm.data.toList])) = .tuple #[.pointer (some ⟨fb k, 0, none⟩), .int .i64 0]) := by
        unfold Hid onV; rw [List.nil_append, hE, if_neg (by decide)]; unfold findV; rw [ha]
      rw [R.out] at CO
      obtain ⟨spF, spO⟩ := sp2 k ha
      have SF := hide' spF
      have SO := hide' spO
      have hwf := wf_step v.wf ⟨2, nm.data.toList, to, d⟩
      have HW := hide' hwf
      have HK := hide' (v.wf.now.2 _ (at_some ha)).1
      have HD := hide' hd
      have HAV := hide' hav
      have HBD := hide' hB
      have hbu : s.used ≤ 1000000000000000000 := by
        have h1 := sumN_bound s.data 900000000 hB.2.2.2.2.2 s.now
        have h2 : s.now.length * 900000000 ≤ 900000000 * 900000000 := Nat.mul_le_mul_right _ hB.2.2.1
        rw [used_sum]
        omega
      have hrm := v.rm
      obtain ⟨da, dc, hdv, hjunk⟩ := id hd
      clear hjunk
      subst hdv
      clear v ha hE sp1 sp2 hd hav hwf spF spO hB
      go_enter Tryz.func97, Tryz.ntmps97
      go_wp2_with fail
      refine CO.out.mono ?_
      rintro e w1 ⟨rfl, h1, h2⟩
      have H1 := hide' h1
      have H2 := hide' (off_low h2 (Nat.le_refl _))
      have HD1 := hide' (holdsB_off HD.out H2.out (fun ad n c e => by
        have h3 := HAV.out ad n c e
        intro h4
        rw [h4, V.out.og] at h3
        cases h3))
      have c0 := (cells_eight h1.blk).1.1
      rw [cnt_room] at c0
      have CU : Hid (∀ W2, Below w1.heap.size w1 W2 → Calls Tryz.prog 31 #[.pointer (some ⟨g, 0, none⟩)] W2 fun e w' => e = .returned (.int .i64 (s.used : Int)) ∧ Hid (Below w1.heap.size w1 w') ∧ w'.cell? ⟨g, 0, none⟩ = some (.int .i64 s.room)) := by
        intro W2 hb
        refine (usedC (dsk_below ⟨_, _, _, _, _, _, H1.out⟩ hb) (bd_mono (bd_cnt HBD.out) (by omega))).mono ?_
        rintro e w' ⟨rfl, hb'⟩
        refine ⟨by rw [cnt_used], hb.trans (hb'.mono hb.size), ?_⟩
        obtain ⟨⟨k0, _⟩, _⟩ := cells_eight (cells_below H1.out.blk (hb.trans (hb'.mono hb.size)))
        rw [cnt_room] at k0
        exact k0
      have fa := h1.files k (by rw [cnt_data]; exact HK.out)
      rw [cnt_data, cnt_firm] at fa
      obtain ⟨ao, ca, fB, fR, fo, fw⟩ := file_slice fa
      have FB := hide' fB
      have FR := hide' fR
      have FO := hide' fo
      have FW := hide' fw
      have dlb := HBD.out.2.2.2.2.2 k
      have DLB := hide' dlb
      -- the end, whatever world the test has left
      have FIN : Hid (¬ (d ≠ [] ∧ s.room < ((s.used + d.length : Nat) : Int)) → ∀ w2 w3 v', Below w1.heap.size w1 w2 → w2.grownBy w3 (Value.slice ao (s.data.getD k []).length ca).ownBlock → w3.ownsRow 0 5 1 v' (s.data.getD k [] ++ d).length ((s.data.getD k [] ++ d).map B) → (v'.ownBlock = (Value.slice ao (s.data.getD k []).length ca).ownBlock ∨ v'.ownBlock = some w2.heap.size) →
          StepPost o g s ⟨2, nm.data.toList, to, d⟩ W (.returned (.int .i64 0)) (w3.setCell ⟨fb k, 1, none⟩ v')) := by
        intro hc w2 w3 v' hb hg hr hat
        have SP := SO.out hc
        have hw := HW.out
        rw [SP] at hw
        have V2 := dkV_below H1.out hb
        have q := dkV_app (x := d) V2 k (.slice ao (s.data.getD k []).length ca) (by rw [cnt_firm]; exact cells_below FB.out hb) FO.out FW.out hg (by rw [cnt_data]; exact hr) hat (by rw [cnt_data]; exact hw)
        rw [cnt_data] at q
        refine ⟨by rw [SP], o.row v' k, by rw [SP]; exact ⟨_, _, _, _, _, _, q.1⟩, ?_⟩
        exact (grow_g H2.out V.out.og).trans ((grow_below hb).trans q.2)
      have LOOK : Hid (∀ w2, Below w1.heap.size w1 w2 → (w2.cell? ⟨fb k, 1, none⟩ = some (.slice ao (s.data.getD k []).length ca) ∧ w2.frozen? ⟨fb k, 1, none⟩ = false) ∧ w2.ownsRow 0 5 1 (.slice ao (s.data.getD k []).length ca) (s.data.getD k []).length ((s.data.getD k []).map B) ∧ HoldsB w2 (.slice da d.length dc) d) := by
        intro w2 hb
        obtain ⟨⟨_, k1, _⟩, ⟨_, j1, _⟩⟩ := cells_3 (cells_below FB.out hb)
        exact ⟨⟨k1, j1⟩, row_below FR.out hb, holdsB_mono HD1.out hb⟩
      have LST : Hid (∀ w2 w3 : World, Below w1.heap.size w1 w2 → w2.grownBy w3 (Value.slice ao (s.data.getD k []).length ca).ownBlock → w3.cell? ⟨fb k, 1, none⟩ = some (.slice ao (s.data.getD k []).length ca) ∧ w3.frozen? ⟨fb k, 1, none⟩ = false) := by
        intro w2 w3 hb hg
        have hlt : fb k < w2.heap.size := Nat.lt_of_lt_of_le (FB.out.2) hb.size
        have hne : some (fb k) ≠ (Value.slice ao (s.data.getD k []).length ca).ownBlock := fun e => by have h3 := FW.out (fb k) e.symm; rw [FO.out] at h3; cases h3
        obtain ⟨⟨k1, j1⟩, _⟩ := LOOK.out w2 hb
        exact ⟨by rw [World.cell?_of_block (w := w2) (a := ⟨fb k, 1, none⟩) (hg.block _ hlt hne)]; exact k1, by rw [World.frozen?_of_block (w := w2) (a := ⟨fb k, 1, none⟩) (hg.block _ hlt hne)]; exact j1⟩
      clear h1 h2 fa fB fR fo fw
      by_cases hd0 : d = []
      · have HC : Hid (¬ (d ≠ [] ∧ s.room < ((s.used + d.length : Nat) : Int))) := fun h => h.1 hd0
        have e0 : d.length = 0 := by rw [hd0]; rfl
        generalize hdl2 : d.length = L at e0 hdl ⊢
        subst e0
        have HL := hide' hdl2
        rw [HL.out] at LOOK
        clear hd0 hdl2
        go_wp2_with fail
        go_quiet (fail)
        have BW := hide' (below_drewN w1 nq)
        have LK := hide' (LOOK.out _ BW.out)
        obtain ⟨⟨l1, l2⟩, _⟩ := LK.out
        go_wp2_with (at_builtin; refine appRowC rfl (.tmp 37) (.tmp 38) rfl _ (s.data.getD k []) rfl LK.out.2.1 _ d rfl LK.out.2.2 (by have h5 := DLB.out; have h6 := HL.out; omega) ?_; intro v' w3 h1 h2 h3; obtain ⟨xa, xc, N, rfl, HN⟩ := row_slN h1; obtain ⟨m1', m2'⟩ := LST.out _ _ BW.out h2; have P1 := hide' h1; have P2 := hide' h2; have P3 := hide' h3; clear h1 h2 h3)
        go_ret
        exact FIN.out HC.out _ _ _ BW.out P2.out P1.out P3.out
      · have hpos : 0 < d.length := List.length_pos_iff.2 hd0
        by_cases hfull : s.room < (s.used : Int) + (d.length : Int)
        · have SP := hide' (SF.out ⟨hd0, by rw [Int.natCast_add]; exact hfull⟩)
          have q1 : decide (s.room < (s.used : Int) + (d.length : Int)) = true := by simpa using hfull
          generalize hdl2 : d.length = L at hpos hfull q1 hdl ⊢
          clear hdl2 hd0 hfull FIN LOOK LST
          generalize s.used = U at hbu CU q1 ⊢
          generalize s.room = Rm at hrm c0 CU q1 ⊢
          have qw : IntKind.i64.wrap ((U : Int) + (L : Int)) = (U : Int) + (L : Int) := wrap_small _ (by omega) (by omega)
          go_wp2_with fail
          go_region_held3 (fun w' => w'.cell? ⟨g, 0, none⟩ = some (.int .i64 Rm)) (go_keep)
            (first | (go_at_call 31; refine (CU.out _ ?_).mono ?_; (first | exact (Below.refl _ _).drew | exact Below.refl _ _); rintro e w2 ⟨rfl, B2, k0⟩))
          all_goals
            go_wp2_with fail
            go_ret
            exact ⟨by rw [SP.out]; rfl, o, by rw [SP.out]; exact ⟨_, _, _, _, _, _, dkV_below H1.out (by first | exact B2.out | exact B2.out.drew)⟩, (grow_g H2.out V.out.og).trans (grow_below (by first | exact B2.out | exact B2.out.drew))⟩
        · have HC : Hid (¬ (d ≠ [] ∧ s.room < ((s.used + d.length : Nat) : Int))) := fun h => hfull (by have := h.2; rw [Int.natCast_add] at this; exact this)
          have q1 : decide (s.room < (s.used : Int) + (d.length : Int)) = false := by simpa using hfull
          generalize hdl2 : d.length = L at hpos hfull q1 hdl ⊢
          have HL := hide' hdl2
          rw [HL.out] at LOOK
          clear hdl2 hd0 hfull
          generalize hU : s.used = U at hbu CU q1
          generalize hR : s.room = Rm at hrm c0 CU q1
          clear hU hR
          have qw : IntKind.i64.wrap ((U : Int) + (L : Int)) = (U : Int) + (L : Int) := wrap_small _ (by omega) (by omega)
          go_wp2_with fail
          go_region_held3 (fun w' => w'.cell? ⟨g, 0, none⟩ = some (.int .i64 Rm)) (go_keep)
            (first | (go_at_call 31; refine (CU.out _ ?_).mono ?_; (first | exact (Below.refl _ _).drew | exact Below.refl _ _); rintro e w2 ⟨rfl, B2, k0⟩))
          all_goals
            have BW := B2
            have LK := hide' (LOOK.out _ BW.out)
            obtain ⟨⟨l1, l2⟩, _⟩ := LK.out
            go_wp2_with (at_builtin; refine appRowC rfl (.tmp 37) (.tmp 38) rfl _ (s.data.getD k []) rfl LK.out.2.1 _ d rfl LK.out.2.2 (by have h5 := DLB.out; have h6 := HL.out; omega) ?_; intro v' w3 h1 h2 h3; obtain ⟨xa, xc, N, rfl, HN⟩ := row_slN h1; obtain ⟨m1', m2'⟩ := LST.out _ _ BW.out h2; have P1 := hide' h1; have P2 := hide' h2; have P3 := hide' h3; clear h1 h2 h3)
            go_ret
            exact FIN.out HC.out _ _ _ BW.out P2.out P1.out P3.out
  · have R : Hid (onV fb s.now nm.data.toList (stepE s ([] ++ [nm.data.toList])) = .tuple #[.pointer none, .int .i64 (stepE s [nm.data.toList])]) := by
      unfold Hid onV; rw [List.nil_append, if_pos hE]
    have SP : Hid (s.step ⟨2, nm.data.toList, to, d⟩ = (cntS s, stepE s [nm.data.toList])) := step_e s ⟨2, nm.data.toList, to, d⟩ hE
    rw [R.out] at CO
    generalize stepE s [nm.data.toList] = E at hE CO SP
    have q : (E != 0) = true := by simpa using hE
    clear v hE hd hav
    go_enter Tryz.func97, Tryz.ntmps97
    go_wp2_with (go_at_call 100; refine CO.out.mono ?_; rintro e w1 ⟨rfl, h1, h2⟩; have H1 := hide' h1; have H2 := hide' h2; clear h1 h2)
    go_ret
    exact ⟨by rw [SP.out]; rfl, o, by rw [SP.out]; exact ⟨_, _, _, _, _, _, H1.out⟩, grow_g (off_low H2.out (Nat.le_refl _)) V.out.og⟩
end Go.Proofs.YtibjcofbhldenaaGreatDoor
namespace Go.Proofs.YtibjcofbhldenaaGreatDoor
open Go.RowKit Go.Maps
theorem rem_spec (s : Dk) (nm to : Nm) (d : List UInt8) (h : stepE s [nm] = 0) : (atN s.now nm = none → s.step ⟨6, nm, to, d⟩ = (cntS s, 90)) ∧ ∀ k, atN s.now nm = some k → s.step ⟨6, nm, to, d⟩ = ((cntS s).named ((Chg.del nm).app (cntS s).now), 0) := by
  obtain ⟨h1, h2⟩ := step_z s ⟨6, nm, to, d⟩ h
  refine ⟨fun e => ?_, fun k e => ?_⟩
  · rw [h2, e, h1]; rfl
  · rw [h2, e, h1]; rfl
theorem dkV_le {o o' : Ow} {g m0 m1 m2 : Nat} {pv : Value} {fb : Nat → Nat} {s : Dk} {cs : List Chg} {W : World} (h : DkV o g m0 m1 m2 pv fb s cs W) (hl : o.le o') (hlt : ∀ k, o'.has k → k < W.heap.size) : DkV o' g m0 m1 m2 pv fb s cs W where
  blk := h.blk
  fails := h.fails
  seen := h.seen
  safe := h.safe
  pend := pend_le h.pend hl
  files := fun i hi => file_le (h.files i hi) hl
  og := hl _ _ h.og
  o0 := hl _ _ h.o0
  o1 := hl _ _ h.o1
  o2 := hl _ _ h.o2
  lt := hlt
  wf := h.wf
  once := h.once
  sc := h.sc
  rm := h.rm
theorem dkV_off {o : Ow} {g m0 m1 m2 : Nat} {pv : Value} {fb : Nat → Nat} {s : Dk} {cs : List Chg} {W W' : World} {S : Nat → Prop} (h : DkV o g m0 m1 m2 pv fb s cs W) (hb : Off S W W') (hS : ∀ k, S k → o k = none) : DkV o g m0 m1 m2 pv fb s cs W' :=
  dkV_same h (same_off hb h.lt (fun k r hk e => by rw [hS k hk] at e; cases e))
theorem none_of_lt {o : Ow} {W : World} (h : ∀ k, o.has k → k < W.heap.size) {b : Nat} (hb : W.heap.size ≤ b) : o b = none := by
  cases e : o b with
  | none => rfl
  | some r => have := h b (has_of e); omega
theorem has_set {o : Ow} {b k : Nat} {r : Role} (h : (o.set b r).has k) : k = b ∨ o.has k := by
  by_cases e : k = b
  · exact .inl e
  · right; unfold Ow.has at h ⊢; rw [set_other _ _ e] at h; exact h
theorem grow_cap {o : Ow} {W W' : World} {b : Nat} (r : Role) (hb : W.heap.size ≤ b) (h : Off o.has W W') (hlt : ∀ k, o.has k → k < W.heap.size) : Grow o W (o.set b r) W' :=
  ⟨h, le_set _ (.inl (none_of_lt hlt hb)), fun k hk => by
    rcases has_set hk with e | e
    · right; omega
    · exact .inl e⟩
theorem s_eta (nm : ByteArray) : S nm.data.toList = .string nm := by unfold S; rw [ba_eta]
set_option maxRecDepth 20000 in
set_option maxHeartbeats 4000000 in
theorem removeC {o : Ow} {g : Nat} {s : Dk} {W : World} (h : Dsk o g s W) (nm : ByteArray) (to : Nm) (d : List UInt8) (hs : nm.size ≤ 140737488351232) (hB : Bd 900000000 s) :
    Calls Tryz.prog 57 #[.pointer (some ⟨g, 0, none⟩), .string nm] W fun e W' => StepPost o g s ⟨6, nm.data.toList, to, d⟩ W e W' := by
  obtain ⟨m0, m1, m2, pv, fb, cs, v⟩ := h
  have bW := below_alloc' W (.cells #[.string nm] 9)
  have zW : (W.alloc (.cells #[.string nm] 9)).heap.size = W.heap.size + 1 := by simp
  have V0 := dkV_below v bW
  have blk0 := cells_lit W #[.string nm] 9
  have CO := hide' (stepOnC V0 (W.alloc (.cells #[.string nm] 9)) (.slice none 0 0) [] (ownS_nil _ _ (Below.refl _ _)) V0.lt nm hs (fun n hn => by cases hn) (by simp) (by have := hB.1; omega))
  have V := hide' v
  have BW := hide' bW
  have ZW := hide' zW
  have hng : W.heap.size ≠ g := by have := v.blk.2; omega
  have BK : Hid (∀ w1, Off (fun k => k = g ∨ (W.alloc (.cells #[.string nm] 9)).heap.size ≤ k) (W.alloc (.cells #[.string nm] 9)) w1 → Blk W.heap.size w1 [.string nm]) := fun w1 ho => by
    have e : w1.heap[W.heap.size]? = (W.alloc (.cells #[.string nm] 9)).heap[W.heap.size]? := ho.block _ (by omega) (fun e => by rcases e with e | e; exact hng e; omega)
    have b1 : Blk W.heap.size (W.alloc (.cells #[.string nm] 9)) [.string nm] := by simpa using blk0
    exact ⟨fun j hj => ⟨by rw [World.cell?_of_block (w := W.alloc (.cells #[.string nm] 9)) (a := ⟨W.heap.size, j, none⟩) e]; exact (b1.1 j hj).1, by rw [World.frozen?_of_block (w := W.alloc (.cells #[.string nm] 9)) (a := ⟨W.heap.size, j, none⟩) e]; exact (b1.1 j hj).2⟩, Nat.lt_of_lt_of_le b1.2 ho.size⟩
  have G1 : Hid (∀ w1, Off (fun k => k = g ∨ (W.alloc (.cells #[.string nm] 9)).heap.size ≤ k) (W.alloc (.cells #[.string nm] 9)) w1 → Grow o W o w1) := fun w1 ho => (grow_below BW.out).trans (grow_g (off_low ho (Nat.le_refl _)) V.out.og)
  have HBD := hide' hB
  by_cases hE : stepE s [nm.data.toList] = 0
  · obtain ⟨sp1, sp2⟩ := rem_spec s nm.data.toList to d hE
    have hgd := z_good hE nm.data.toList (by simp)
    cases ha : atN s.now nm.data.toList with
    | none =>
      have R : Hid (onV fb s.now nm.data.toList (stepE s ([] ++ [nm.data.toList])) = .tuple #[.pointer none, .int .i64 90]) := by
        unfold Hid onV; rw [List.nil_append, hE, if_neg (by decide)]; unfold findV; rw [ha]
      rw [R.out] at CO
      have SP := hide' (sp1 ha)
      clear v ha hE sp1 sp2 V0 bW zW blk0 hB
      go_enter Tryz.func57, Tryz.ntmps57
      go_wp2_with (go_at_call 100; refine CO.out.mono ?_; rintro e w1 ⟨rfl, h1, h2⟩; have H1 := hide' h1; have H2 := hide' h2; clear h1 h2)
      go_ret
      exact ⟨by rw [SP.out]; rfl, o, by rw [SP.out]; exact ⟨_, _, _, _, _, _, H1.out⟩, G1.out _ H2.out⟩
    | some k =>
      have R : Hid (onV fb s.now nm.data.toList (stepE s ([] ++ [nm.data.toList])) = .tuple #[.pointer (some ⟨fb k, 0, none⟩), .int .i64 0]) := by
        unfold Hid onV; rw [List.nil_append, hE, if_neg (by decide)]; unfold findV; rw [ha]
      rw [R.out] at CO
      have SP := hide' (sp2 k ha)
      have hwf := wf_step v.wf ⟨6, nm.data.toList, to, d⟩
      have hon := once_step v.wf v.once ⟨6, nm.data.toList, to, d⟩
      rw [SP.out] at hwf hon
      have HW := hide' hwf
      have HO := hide' hon
      have HGD := hide' hgd
      have hcl : cs.length ≤ 1000000000 := by have h1 := v.sc.1; have h2 := hB.2.2.2.2.1; rw [h1, scan_len] at h2; omega
      have hnl : (cntS s).now.length ≤ 1000000000 := by rw [cnt_now]; have := hB.2.2.1; omega
      have HCL := hide' hcl
      have HNL := hide' hnl
      have hmf : ∀ (fn : Fn) (first cap : Array Value) (w : World), (Instr.makeFunc fn first cap).run Tryz.prog w = .ok (.func fn first cap) w := fun _ _ _ _ => rfl
      clear v ha hE sp1 sp2 V0 bW zW blk0 hwf hon hgd hcl hnl hB
      go_enter Tryz.func57, Tryz.ntmps57
      go_wp2_with fail
      refine CO.out.mono ?_
      rintro e w1 ⟨rfl, h1, h2⟩
      have H1 := hide' h1
      have H2 := hide' h2
      have K1 := hide' (BK.out w1 h2)
      have c3 := (K1.out.1 0 (by simp)).1
      have f3 := (K1.out.1 0 (by simp)).2
      simp only [List.getElem_cons_zero] at c3
      clear h1 h2
      go_wp2_with (go_at_call 73; refine (clone nm _ hs).mono ?_; rintro e w2 ⟨rfl, b2⟩; have B2 := hide' b2; have K2 := hide' (cells_below K1.out b2); have c4 := (K2.out.1 0 (by simp)).1; have f4 := (K2.out.1 0 (by simp)).2; simp only [List.getElem_cons_zero] at c4; clear b2)
      -- what the disk is there
      have hb0 : o W.heap.size = none := none_of_lt V.out.lt (Nat.le_refl _)
      have hz1 : W.heap.size < w1.heap.size := K1.out.2
      have V3 : DkV (o.set W.heap.size .cap) g m0 m1 m2 pv fb (cntS s) cs (w2.setCell ⟨W.heap.size, 0, none⟩ (.string nm)) := by
        have q1 := dkV_off (dkV_below H1.out B2.out) (off_poke (S := fun k => k = W.heap.size) ⟨W.heap.size, 0, none⟩ rfl (.string nm)) (fun k e => by rw [e]; exact hb0)
        refine dkV_le q1 (le_set _ (.inl hb0)) (fun k hk => ?_)
        rcases has_set hk with e | e
        · have := K2.out.2; rw [e]; simp [World.setCell]; exact this
        · exact q1.lt k e
      have cv3 : ChgV (o.set W.heap.size .cap) fb (w2.setCell ⟨W.heap.size, 0, none⟩ (.string nm)) (.func (.func 102) #[] #[.pointer (some ⟨W.heap.size, 0, none⟩)]) (.del nm.data.toList) :=
        ⟨good_len HGD.out, W.heap.size, rfl, by rw [s_eta]; exact World.cell?_setCell_same _ _ _ c4, set_same _ _ _⟩
      have CD := hide' (doC V3 (.del nm.data.toList) _ cv3 HW.out HO.out HNL.out HCL.out)
      have GR : Hid (Grow o W (o.set W.heap.size .cap) (w2.setCell ⟨W.heap.size, 0, none⟩ (.string nm))) := by
        refine grow_cap .cap (Nat.le_refl _) ?_ V.out.lt
        have q1 := (G1.out w1 H2.out).off
        refine Off.trans (q1.trans (off_of (S := fun _ => False) B2.out) (fun i hi => hi.elim)) (off_poke (S := fun k => k = W.heap.size) ⟨W.heap.size, 0, none⟩ rfl (.string nm)) (fun i hi => .inr (by rw [hi]; exact Nat.le_refl _))
      clear V3 cv3
      refine CD.out.mono ?_
      rintro e w4 ⟨rfl, hD⟩
      have HD := hide' hD
      clear hD
      go_wp2_with fail
      go_ret
      obtain ⟨o', pv', q1, q2⟩ := HD.out
      exact ⟨by rw [SP.out]; rfl, o', by rw [SP.out]; exact ⟨_, _, _, _, _, _, q1⟩, GR.out.trans q2⟩
  · have R : Hid (onV fb s.now nm.data.toList (stepE s ([] ++ [nm.data.toList])) = .tuple #[.pointer none, .int .i64 (stepE s [nm.data.toList])]) := by
      unfold Hid onV; rw [List.nil_append, if_pos hE]
    have SP : Hid (s.step ⟨6, nm.data.toList, to, d⟩ = (cntS s, stepE s [nm.data.toList])) := step_e s ⟨6, nm.data.toList, to, d⟩ hE
    rw [R.out] at CO
    generalize stepE s [nm.data.toList] = E at hE CO SP
    have q : (E != 0) = true := by simpa using hE
    clear v hE V0 bW zW blk0 hB
    go_enter Tryz.func57, Tryz.ntmps57
    go_wp2_with (go_at_call 100; refine CO.out.mono ?_; rintro e w1 ⟨rfl, h1, h2⟩; have H1 := hide' h1; have H2 := hide' h2; clear h1 h2)
    go_ret
    exact ⟨by rw [SP.out]; rfl, o, by rw [SP.out]; exact ⟨_, _, _, _, _, _, H1.out⟩, G1.out _ H2.out⟩
end Go.Proofs.YtibjcofbhldenaaGreatDoor
namespace Go.Proofs.YtibjcofbhldenaaGreatDoor
open Go.RowKit
def ren : Go.Shelf.Ren where
  f := fun x => x
  t := fun x => if x = 5 then 5 else if x = 119 then 330 else if x = 138 then 332 else 333
  g := fun x => if x = 3 then 6 else 7
theorem ren_types : U8Types Tryz.prog ren := ⟨Tryz.underlying5, Tryz.underlying330, Tryz.underlying332, Tryz.underlying333⟩
theorem ren_extra : U8Extra Tryz.prog ren := ⟨by kernel_rfl, by kernel_rfl, by kernel_rfl, by kernel_rfl, by kernel_rfl, by kernel_rfl, by kernel_rfl⟩
set_option maxRecDepth 100000 in
theorem first_eq : Go.Pinned.utf8First = Lib.firstData := by kernel_rfl
set_option maxRecDepth 100000 in
theorem env_of {W : World} {l : List (String × DataW Unit)} (h : laidMet Tryz.prog l W) (hsh : W.ShapedOpen Tryz.prog) (h1 : ("unicode/utf8.first", Go.Pinned.utf8First) ∈ l) (h2 : ("unicode/utf8.acceptRanges", Lib.acceptData) ∈ l) : Env W := by
  rw [first_eq] at h1
  exact ⟨maxV_of hsh, utf8Tabs_of_readsT (ρ := ren) ren_types ren_extra (Lib.laidMet.reads h h1) (Lib.laidMet.reads h h2)⟩
end Go.Proofs.YtibjcofbhldenaaGreatDoor
namespace Go.Proofs.YtibjcofbhldenaaGreatDoor
open Go.RowKit Go.Maps
/-- a change of names called by its value -/
theorem chg_cases {o : Ow} {fb : Nat → Nat} {W : World} {v : Value} {c : Chg} (h : ChgV o fb W v c) :
    (∃ n k bf bn, c = .put n k ∧ n.length ≤ 64 ∧ v = .func (.func 183) #[] #[.pointer (some ⟨bf, 0, none⟩), .pointer (some ⟨bn, 0, none⟩)] ∧ W.cell? ⟨bf, 0, none⟩ = some (.pointer (some ⟨fb k, 0, none⟩)) ∧ W.cell? ⟨bn, 0, none⟩ = some (S n) ∧ o bf = some .cap ∧ o bn = some .cap) ∨
    (∃ n bn, c = .del n ∧ n.length ≤ 64 ∧ v = .func (.func 102) #[] #[.pointer (some ⟨bn, 0, none⟩)] ∧ W.cell? ⟨bn, 0, none⟩ = some (S n) ∧ o bn = some .cap) ∨
    (∃ a b k ba bf bb, c = .mv a b k ∧ a.length ≤ 64 ∧ b.length ≤ 64 ∧ v = .func (.func 222) #[] #[.pointer (some ⟨ba, 0, none⟩), .pointer (some ⟨bf, 0, none⟩), .pointer (some ⟨bb, 0, none⟩)] ∧ W.cell? ⟨ba, 0, none⟩ = some (S a) ∧ W.cell? ⟨bf, 0, none⟩ = some (.pointer (some ⟨fb k, 0, none⟩)) ∧ W.cell? ⟨bb, 0, none⟩ = some (S b) ∧ o ba = some .cap ∧ o bf = some .cap ∧ o bb = some .cap) := by
  cases c with
  | put n k =>
    obtain ⟨hl, bf, bn, e, h1, h2, o1, o2⟩ := h
    exact .inl ⟨n, k, bf, bn, rfl, hl, e, h1, h2, o1, o2⟩
  | del n =>
    obtain ⟨hl, bn, e, h2, o2⟩ := h
    exact .inr (.inl ⟨n, bn, rfl, hl, e, h2, o2⟩)
  | mv a b k =>
    obtain ⟨l1, l2, ba, bf, bb, e, h1, h2, h3, o1, o2, o3⟩ := h
    exact .inr (.inr ⟨a, b, k, ba, bf, bb, rfl, l1, l2, e, h1, h2, h3, o1, o2, o3⟩)
theorem sn_spec (s : Dk) (nm to : Nm) (d : List UInt8) (h : stepE s [] = 0) : s.step ⟨4, nm, to, d⟩ = ({ cntS s with safe := s.now, pend := [] }, 0) := by
  obtain ⟨h1, h2⟩ := step_z s ⟨4, nm, to, d⟩ h
  rw [h2, h1]
  cases e : atN s.now nm with
  | none => simp only; rfl
  | some k => simp only; rfl
theorem take_succ_app (cs : List Chg) (l : NL) (j : Nat) (hj : j < cs.length) : appAll (cs.take (j + 1)) l = (cs[j]).app (appAll (cs.take j) l) := by
  rw [List.take_succ_eq_append_getElem hj, appAll_snoc]
theorem app_bound (cs : List Chg) (l : NL) (j : Nat) (hl : l.length ≤ 900000000) (hc : cs.length ≤ 90000000) : (appAll (cs.take j) l).length ≤ 1000000000 := by
  have h1 := appAll_len (cs.take j) l
  have h2 : (cs.take j).length ≤ cs.length := by rw [List.length_take]; omega
  omega
set_option maxRecDepth 20000 in
set_option maxHeartbeats 4000000 in
theorem syncNamesC {o : Ow} {g : Nat} {s : Dk} {W : World} (h : Dsk o g s W) (nm to : Nm) (d : List UInt8) (hB : Bd 90000000 s) :
    Calls Tryz.prog 157 #[.pointer (some ⟨g, 0, none⟩)] W fun e W' => StepPost o g s ⟨4, nm, to, d⟩ W e W' := by
  obtain ⟨m0, m1, m2, pv, fb, cs, v⟩ := h
  have hH : Holds W (.slice none 0 0) [] := ⟨none, 0, rfl, fun h => absurd rfl h⟩
  have CO := hide' (stepC v (.slice none 0 0) [] hH (fun n hn => by cases hn) (by simp) (by have := hB.1; omega) (fun ad n c e => by cases e))
  have V := hide' v
  by_cases hE : stepE s [] = 0
  · have SP := hide' (sn_spec s nm to d hE)
    have hwf := wf_step v.wf ⟨4, nm, to, d⟩
    rw [SP.out] at hwf
    have HW := hide' hwf
    have hcl : cs.length ≤ 90000000 := by have h1 := v.sc.1; have h2 := hB.2.2.2.2.1; rw [h1, scan_len] at h2; omega
    have hsl : s.safe.length ≤ 900000000 := by have := hB.2.2.2.1; omega
    have hsf : (cntS s).safe = s.safe := by unfold cntS; split <;> rfl
    rw [hE] at CO
    clear v hE hwf
    go_enter Tryz.func157, Tryz.ntmps157
    go_wp2_with fail
    refine CO.out.mono ?_
    rintro e w1 ⟨rfl, h1, h2⟩
    obtain ⟨vs, hr, hch, hpw⟩ := h1.pend
    obtain ⟨pa, pc, hpv⟩ := row_sl hr
    subst hpv
    obtain ⟨⟨c0, c1, c2, c3, c4, c5, c6, c7⟩, ⟨f3, f4, f7⟩⟩ := cells_eight h1.blk
    clear c0 c1 c2 c3 c4 c5 f3 f4
    have H1 := hide' h1
    have H2 := hide' h2
    have HR := hide' hr
    have HCH := hide' hch
    have HPW := hide' hpw
    have hg := h1.blk.2
    have hgm : m2 ≠ g := ow_ne h1.o2 h1.og (by decide)
    -- what lies beside the safe names is as it was
    have KEEP : Hid (∀ wr, w1.grownBy wr (some m2) → (wr.cell? ⟨g, 6, none⟩ = some (.map (some m2)) ∧ wr.cell? ⟨g, 7, none⟩ = some (.slice pa cs.length pc) ∧ wr.frozen? ⟨g, 7, none⟩ = false) ∧ Same o (fun r => r ≠ .safe) w1 wr) := fun wr h => by
      have e := h.block g hg (fun e => hgm (Option.some.inj e).symm)
      exact ⟨⟨by rw [World.cell?_of_block (w := w1) (a := ⟨g, 6, none⟩) e]; exact c6, by rw [World.cell?_of_block (w := w1) (a := ⟨g, 7, none⟩) e]; exact c7, by rw [World.frozen?_of_block (w := w1) (a := ⟨g, 7, none⟩) e]; exact f7⟩, same_grown h H1.out.lt H1.out.o2⟩
    have CELL : Hid (∀ wr j (hj : j < cs.length), w1.grownBy wr (some m2) → ∃ pb cv, pa = some ⟨pb, 0, none⟩ ∧ wr.cell? ⟨pb, j, none⟩ = some cv ∧ ChgV o fb wr cv cs[j]) := fun wr j hj h => by
      have hs := (KEEP.out wr h).2
      obtain ⟨cv, e1, e2⟩ := HCH.out j hj
      have hr2 := row_same HR.out hs HPW.out (by decide)
      rcases hr2.2 with ⟨_, e⟩ | ⟨x, cap, cur, hv, _⟩
      · omega
      · cases hv
        refine ⟨x, cv, rfl, ?_, chg_same e2 hs (by decide)⟩
        rw [hr2.cellAt j (by omega)]
        exact e1
    have hcm : o m2 ≠ some .cap := by rw [H1.out.o2]; decide
    have hz : Hid (Tbl w1 m2 fb s.safe) := by have := H1.out.safe; rw [hsf] at this; exact this
    clear h1 h2 hr hch hpw f7
    obtain ⟨n, hn⟩ : ∃ n, n = cs.length := ⟨_, rfl⟩
    have HN := hide' hn
    rw [← hn] at KEEP c7
    have hnl : n ≤ 90000000 := by omega
    clear hn
    go_wp2_with fail
    clear c6 c7
    go_loopw [5, 16] (fun _ i wr => ∃ j : Nat, j ≤ n ∧ i = .int .i64 j ∧ Hid (Tbl wr m2 fb (appAll (cs.take j) s.safe)) ∧ Hid (w1.grownBy wr (some m2))) (fun _ i _ => n - (intOf i).toNat)
    case atStart => exact ⟨0, by omega, rfl, hz, ⟨rfl, rfl, rfl, Nat.le_refl _, fun _ _ _ => rfl⟩⟩
    case round =>
      obtain ⟨j, hj, rfl, HT, HG⟩ := hrel
      by_cases hlt' : j < n
      · have hlt : j < cs.length := by rw [← HN.out]; exact hlt'
        obtain ⟨pb, cv, hpa, hcell, hcv⟩ := CELL.out wr j hlt HG.out
        have hbd := app_bound cs s.safe j hsl hcl
        obtain ⟨⟨k6, k7, kf⟩, _⟩ := KEEP.out wr HG.out
        subst hpa
        have hcap : ∀ b, o b = some .cap → b ≠ m2 := fun b e e2 => hcm (by rw [← e2]; exact e)
        rcases chg_cases hcv with ⟨x, k, bf, bn, hc, hl, rfl, h1, h2, o1, o2⟩ | ⟨x, bn, hc, hl, rfl, h2, o2⟩ | ⟨x, y, k, ba, bf, bb, hc, l1, l2, rfl, h1, h2, h3, o1, o2, o3⟩
        · have CC := hide' (putC HT.out hbd hl h1 h2)
          have CJ := hide' hc
          clear hcv h1 h2 o1 o2 hl hc k7 kf
          go_wp2_with (go_at_call 183; refine CC.out.mono ?_; rintro e w2 ⟨rfl, t2, g2⟩; have T2 := hide' t2; have G2 := hide' (HG.out.andThen g2 (fun x hx => .inr hx)); clear t2 g2)
          go_roundw
          case rel => exact ⟨j + 1, by omega, by go_num, by unfold Hid; rw [take_succ_app cs s.safe j hlt, CJ.out]; exact T2.out, G2⟩
          case measure => simp [intOf]; omega
        · have CC := hide' (delC HT.out hl h2)
          have CJ := hide' hc
          clear hcv h2 o2 hl hc k7 kf
          go_wp2_with (go_at_call 102; refine CC.out.mono ?_; rintro e w2 ⟨rfl, t2, g2⟩; have T2 := hide' t2; have G2 := hide' (HG.out.andThen g2 (fun x hx => .inr hx)); clear t2 g2)
          go_roundw
          case rel => exact ⟨j + 1, by omega, by go_num, by unfold Hid; rw [take_succ_app cs s.safe j hlt, CJ.out]; exact T2.out, G2⟩
          case measure => simp [intOf]; omega
        · have CC := hide' (mvC HT.out hbd l1 l2 h1 h2 h3 (hcap bf o2) (hcap bb o3))
          have CJ := hide' hc
          clear hcv h1 h2 h3 o1 o2 o3 l1 l2 hc k7 kf
          go_wp2_with (go_at_call 222; refine CC.out.mono ?_; rintro e w2 ⟨rfl, t2, g2⟩; have T2 := hide' t2; have G2 := hide' (HG.out.andThen g2 (fun x hx => .inr hx)); clear t2 g2)
          go_roundw
          case rel => exact ⟨j + 1, by omega, by go_num, by unfold Hid; rw [take_succ_app cs s.safe j hlt, CJ.out]; exact T2.out, G2⟩
          case measure => simp [intOf]; omega
      · have ej : cs.take j = cs := List.take_of_length_le (by rw [← HN.out]; omega)
        obtain ⟨⟨k6, k7, kf⟩, ks⟩ := KEEP.out wr HG.out
        have KS := hide' ks
        have EJ := hide' ej
        clear ks ej
        go_wp2_with fail
        go_ret
        have hT := HT.out
        rw [EJ.out] at hT
        have hnow : appAll cs s.safe = s.now := by have := H1.out.sc.2; rw [hsf, cnt_now] at this; exact this.symm
        rw [hnow] at hT
        have s3 : Same o (fun r => r ≠ .disk) wr (wr.setCell ⟨g, 7, none⟩ (.slice none 0 0)) := same_poke H1.out.og _
        have s13 : Same o (fun r => r ≠ .safe ∧ r ≠ .disk) w1 (wr.setCell ⟨g, 7, none⟩ (.slice none 0 0)) := (KS.out.mono (fun _ h => h.1)).trans (s3.mono (fun _ h => h.2))
        have b2 := cells_set (blk_same H1.out.blk KS.out H1.out.og (by decide)) (j := 7) (by simp) (.slice none 0 0)
        have hV : DkV o g m0 m1 m2 (.slice none 0 0) fb { cntS s with safe := s.now, pend := [] } [] (wr.setCell ⟨g, 7, none⟩ (.slice none 0 0)) := by
          refine ⟨b2, fails_same H1.out.fails s13 H1.out.o0 (by decide), tbl_same H1.out.seen s13 H1.out.o1 (by decide), tbl_same hT s3 H1.out.o2 (by decide), ⟨[], World.ownsRow_nil _ _ _ _, fun i hi => absurd hi (by simp), fun rb e => by cases e⟩, fun i hi => file_same (H1.out.files i hi) s13 (by simp) (by simp), H1.out.og, H1.out.o0, H1.out.o1, H1.out.o2, fun k hk => Nat.lt_of_lt_of_le (H1.out.lt k hk) s13.size, HW.out, H1.out.once, ⟨rfl, cnt_now s⟩, H1.out.rm⟩
        refine ⟨by rw [SP.out]; rfl, o, by rw [SP.out]; exact ⟨_, _, _, _, _, _, hV⟩, ?_⟩
        refine (grow_g H2.out V.out.og).trans ⟨?_, fun _ _ e => e, fun _ e => .inl e⟩
        exact Off.trans (off_grown (S := o.has) HG.out (fun k e => by cases e; exact has_of H1.out.o2)) (off_poke (S := o.has) _ (has_of H1.out.og) _) (fun i hi => .inl hi)
  · have SP : Hid (s.step ⟨4, nm, to, d⟩ = (cntS s, stepE s [])) := step_e s ⟨4, nm, to, d⟩ hE
    generalize stepE s [] = E at hE CO SP
    have q : (E != 0) = true := by simpa using hE
    clear v hE
    go_enter Tryz.func157, Tryz.ntmps157
    go_wp2_with (go_at_call 143; refine CO.out.mono ?_; rintro e w1 ⟨rfl, h1, h2⟩; have H1 := hide' h1; have H2 := hide' h2; clear h1 h2)
    go_ret
    exact ⟨by rw [SP.out]; rfl, o, by rw [SP.out]; exact ⟨_, _, _, _, _, _, H1.out⟩, grow_g H2.out V.out.og⟩
end Go.Proofs.YtibjcofbhldenaaGreatDoor
namespace Go.Proofs.YtibjcofbhldenaaGreatDoor
open Go.RowKit Go.Maps
theorem cre_spec (s : Dk) (nm to : Nm) (d : List UInt8) (h : stepE s [nm] = 0) : (∀ k, atN s.now nm = some k → s.step ⟨1, nm, to, d⟩ = (cntS s, 91)) ∧ (atN s.now nm = none → s.step ⟨1, nm, to, d⟩ = ({ cntS s with data := (cntS s).data ++ [[]], firm := (cntS s).firm ++ [0] }.named ((Chg.put nm (cntS s).data.length).app (cntS s).now), 0)) := by
  obtain ⟨h1, h2⟩ := step_z s ⟨1, nm, to, d⟩ h
  refine ⟨fun k e => ?_, fun e => ?_⟩
  · rw [h2, e, h1]; rfl
  · rw [h2, e, h1]; rfl
def upd (fb : Nat → Nat) (n b : Nat) : Nat → Nat := fun i => if i = n then b else fb i
theorem upd_same (fb : Nat → Nat) (n b : Nat) : upd fb n b n = b := by unfold upd; rw [if_pos rfl]
theorem upd_lt {fb : Nat → Nat} {n b i : Nat} (h : i < n) : upd fb n b i = fb i := by unfold upd; rw [if_neg (by omega)]
theorem tbl_upd {W : World} {m : Nat} {fb : Nat → Nat} {l : NL} (h : Tbl W m fb l) {n b : Nat} (hl : ∀ p ∈ l, p.2 < n) : Tbl W m (upd fb n b) l := by
  unfold Tbl at *
  rw [dOf_congr (fc := fb) (fun p hp => upd_lt (hl p hp))]
  exact h
/-- the numbers that a change names are below n -/
def chgLt (n : Nat) : Chg → Prop
  | .put _ k => k < n
  | .del _ => True
  | .mv _ _ k => k < n
theorem chg_upd {o : Ow} {W : World} {fb : Nat → Nat} {v : Value} {c : Chg} (h : ChgV o fb W v c) {n b : Nat} (hl : chgLt n c) : ChgV o (upd fb n b) W v c := by
  cases c with
  | put x k =>
    obtain ⟨l, bf, bn, e, h1, h2, o1, o2⟩ := h
    exact ⟨l, bf, bn, e, by rw [upd_lt hl]; exact h1, h2, o1, o2⟩
  | del x => exact h
  | mv x y k =>
    obtain ⟨l1, l2, ba, bf, bb, e, h1, h2, h3, o1, o2, o3⟩ := h
    exact ⟨l1, l2, ba, bf, bb, e, h1, by rw [upd_lt hl]; exact h2, h3, o1, o2, o3⟩
theorem mem_insN {x : Nm} {k : Nat} (l : NL) : (x, k) ∈ insN x k l := mem_ins.2 (.inl rfl)
/-- the changes name files that are there: each change's number stands in the names' list behind it -/
theorem sc_lt {s : Dk} {cs : List Chg} (hw : Wf s) (hsc : Sc s cs) : ∀ i (h : i < cs.length), chgLt s.data.length cs[i] := by
  intro i hi
  have hm : (scanC s.safe cs).getD i [] ∈ s.pend := by
    rw [hsc.1]
    have hl : i < (scanC s.safe cs).length := by rw [scan_len]; exact hi
    have e : (scanC s.safe cs).getD i [] = (scanC s.safe cs)[i] := by simp [List.getD, hl]
    rw [e]
    exact List.getElem_mem _
  rw [scan_get _ _ _ hi] at hm
  have hwf := hw.pend _ hm
  rw [take_succ_app cs s.safe i hi] at hwf
  cases hc : cs[i] with
  | put x k => rw [hc] at hwf; exact (hwf.2 (x, k) (mem_insN _)).1
  | del x => trivial
  | mv x y k => rw [hc] at hwf; exact (hwf.2 (y, k) (mem_insN _)).1
/-- a new file in a new block, and the count of files -/
theorem dkV_new {o : Ow} {g m0 m1 m2 : Nat} {pv : Value} {fb : Nat → Nat} {s : Dk} {cs : List Chg} {W : World} (h : DkV o g m0 m1 m2 pv fb s cs W) :
    DkV (o.set W.heap.size (.file s.data.length)) g m0 m1 m2 pv (upd fb s.data.length W.heap.size) { s with data := s.data ++ [[]], firm := s.firm ++ [0] } cs (newB W g s.data.length) := by
  have hob : o W.heap.size = none := none_of_lt h.lt (Nat.le_refl _)
  have hle : o.le (o.set W.heap.size (.file s.data.length)) := le_set _ (.inl hob)
  have ez : (W.setCell ⟨g, 4, none⟩ (.int .i64 ((s.data.length : Int) + 1))).heap.size = W.heap.size := by simp [World.setCell]
  have s1 : Same o (fun r => r ≠ .disk) W (W.setCell ⟨g, 4, none⟩ (.int .i64 ((s.data.length : Int) + 1))) := same_poke h.og _
  have s2 : Same o (fun _ => True) (W.setCell ⟨g, 4, none⟩ (.int .i64 ((s.data.length : Int) + 1))) (newB W g s.data.length) := same_below (below_alloc' _ _) (fun k hk => by rw [ez]; exact h.lt k hk)
  have s12 : Same o (fun r => r ≠ .disk) W (newB W g s.data.length) := s1.trans (s2.mono (fun _ _ => trivial))
  have b1 := cells_set h.blk (j := 4) (by simp) (.int .i64 ((s.data.length : Int) + 1))
  have b2 := blk_same b1 s2 h.og trivial
  have bl := cells_lit (W.setCell ⟨g, 4, none⟩ (.int .i64 ((s.data.length : Int) + 1))) #[.int .i64 (s.data.length : Int), .slice none 0 0, .int .i64 0] 145
  rw [ez] at bl
  have hnl : ∀ p ∈ s.now, p.2 < s.data.length := fun p hp => (h.wf.now.2 p hp).1
  have hsl : ∀ p ∈ s.safe, p.2 < s.data.length := fun p hp => (h.wf.safe.2 p hp).1
  have hzz : (newB W g s.data.length).heap.size = W.heap.size + 1 := by simp [ez]
  have hwf : Wf { s with data := s.data ++ [[]], firm := s.firm ++ [0] } := by
    have hl : s.data.length ≤ (s.data ++ [[]]).length := by simp
    refine ⟨by simp [h.wf.len], fun i => ?_, wfN_more (d := s.data ++ [[]]) (f := s.firm ++ [0]) h.wf.now hl, wfN_more (d := s.data ++ [[]]) (f := s.firm ++ [0]) h.wf.safe hl, fun l hx => wfN_more (d := s.data ++ [[]]) (f := s.firm ++ [0]) (h.wf.pend l hx) hl⟩
    rcases Nat.lt_or_ge i s.firm.length with hi | hi
    · have := h.wf.firm i
      have hi2 : i < s.data.length := by rw [← h.wf.len]; exact hi
      simp only [List.getD, List.getElem?_append_left hi, List.getElem?_append_left hi2]
      exact this
    · have e9 : (s.firm ++ [0]).getD i 0 = 0 := by
        simp only [List.getD, List.getElem?_append_right hi]
        cases i - s.firm.length <;> simp
      show (s.firm ++ [0]).getD i 0 ≤ _
      rw [e9]
      exact Nat.zero_le _
  refine ⟨?_, fails_same h.fails s12 h.o0 (by decide), tbl_upd (tbl_same h.seen s12 h.o1 (by decide)) hnl, tbl_upd (tbl_same h.safe s12 h.o2 (by decide)) hsl, ?_, fun i hi => ?_, hle _ _ h.og, hle _ _ h.o0, hle _ _ h.o1, hle _ _ h.o2, fun k hk => ?_, hwf, h.once, h.sc, h.rm⟩
  · show Blk g _ [.int .i64 s.room, .int .i64 s.power, .map (some m0), .int .i64 (s.n : Int), .int .i64 ((s.data ++ [[]]).length : Int), .map (some m1), .map (some m2), pv]
    have e : ((s.data ++ [[]]).length : Int) = (s.data.length : Int) + 1 := by simp
    rw [e]
    exact b2
  · obtain ⟨vs, hr, hc, hw⟩ := pend_le (pend_same h.pend s12 (by decide) (by decide)) hle
    exact ⟨vs, hr, fun i hi => by obtain ⟨v, e, hv⟩ := hc i hi; exact ⟨v, e, chg_upd hv (sc_lt h.wf h.sc i hi)⟩, hw⟩
  · rw [show ({ s with data := s.data ++ [[]], firm := s.firm ++ [0] } : Dk).data = s.data ++ [[]] from rfl, List.length_append, List.length_singleton] at hi
    show FileAt _ _ (upd fb s.data.length W.heap.size i) i ((s.data ++ [[]]).getD i []) ((s.firm ++ [0]).getD i 0)
    by_cases e : i < s.data.length
    · have hf : i < s.firm.length := by rw [h.wf.len]; exact e
      have e1 : (s.data ++ [[]]).getD i [] = s.data.getD i [] := by simp only [List.getD, List.getElem?_append_left e]
      have e2 : (s.firm ++ [0]).getD i 0 = s.firm.getD i 0 := by simp only [List.getD, List.getElem?_append_left hf]
      rw [upd_lt e, e1, e2]
      exact file_le (file_same (h.files i e) s12 (by simp) (by simp)) hle
    · have ei : i = s.data.length := by omega
      subst ei
      have e1 : (s.data ++ [[]]).getD s.data.length [] = [] := by simp [List.getD]
      have e2 : (s.firm ++ [0]).getD s.data.length 0 = 0 := by rw [← h.wf.len]; simp [List.getD]
      rw [upd_same, e1, e2]
      exact ⟨.slice none 0 0, bl, World.ownsRow_nil _ _ _ _, set_same _ _ _, fun rb e => by cases e⟩
  · rw [hzz]
    rcases has_set hk with e | e
    · omega
    · have := h.lt k e; omega
/-- behind newFile: the disk has one file more, in block X -/
def NFw (o : Ow) (g m0 m1 m2 : Nat) (pv : Value) (fb : Nat → Nat) (s : Dk) (cs : List Chg) (w0 : World) (X : Nat) (w : World) : Prop :=
  DkV (o.set X (.file s.data.length)) g m0 m1 m2 pv (upd fb s.data.length X) { s with data := s.data ++ [[]], firm := s.firm ++ [0] } cs w ∧ Off (fun k => k = g) w0 w ∧ w0.heap.size ≤ X ∧ X < w.heap.size
theorem nf_off {o : Ow} {g m0 m1 m2 : Nat} {pv : Value} {fb : Nat → Nat} {s : Dk} {cs : List Chg} {w0 w w' : World} {X : Nat} {S : Nat → Prop} (h : NFw o g m0 m1 m2 pv fb s cs w0 X w) (hb : Off S w w') (hS : ∀ k, S k → (o.set X (.file s.data.length)) k = none ∧ w0.heap.size ≤ k) : NFw o g m0 m1 m2 pv fb s cs w0 X w' :=
  ⟨dkV_off h.1 hb (fun k hk => (hS k hk).1), h.2.1.trans hb (fun i hi => .inr (hS i hi).2), h.2.2.1, Nat.lt_of_lt_of_le h.2.2.2 hb.size⟩
theorem nf_below {o : Ow} {g m0 m1 m2 : Nat} {pv : Value} {fb : Nat → Nat} {s : Dk} {cs : List Chg} {w0 w w' : World} {X : Nat} (h : NFw o g m0 m1 m2 pv fb s cs w0 X w) (hb : Below w.heap.size w w') : NFw o g m0 m1 m2 pv fb s cs w0 X w' :=
  nf_off (S := fun _ => False) h (off_of hb) (fun _ h => h.elim)
end Go.Proofs.YtibjcofbhldenaaGreatDoor
