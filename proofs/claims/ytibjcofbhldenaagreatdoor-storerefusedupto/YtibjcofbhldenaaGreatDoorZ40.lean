/- Plain: Open of a new disk, Add, what is left, Open of what is left. The contracts of the store's Drop and Ids. A log and a list of records beside it; one record appended, and where the row lies then. The contract of the store's removeStrays. -/
import Derived.Deep.DeepCutAuto
import Derived.Test.YtibjcofbhldenaaGreatDoorZ39
import Derived.Test.YtibjcofbhldenaaGreatDoorZ38
import Derived.Test.YtibjcofbhldenaaGreatDoorZ33
import Derived.Test.YtibjcofbhldenaaGreatDoorZ30
namespace Go.Proofs.YtibjcofbhldenaaGreatDoor
theorem remU_no {st : LSt} (h : nwN ∉ st.1.list) : remU st = (st, 0) := by unfold remU; rw [if_neg h]
theorem open_two {RD : LSt → (LSt × Int) × RL} {s : Dk} (h : nwN ∉ s.list) : openT RD s = stepBo RD ((s, 0), []) := by
  unfold openT
  have e : stepA remU ((s, 0), []) = (((s, 0), []), 0) := by unfold stepA; rw [remU_no h]
  rw [runT_ok (by rw [e]), e]
  dsimp only
  by_cases hz : (stepBo RD ((s, 0), [])).2 = 0
  · rw [runT_ok hz, runT_nil]
    conv => rhs; rw [← Prod.eta (stepBo RD ((s, 0), []))]
    rw [hz]
  · rw [runT_bad hz]
theorem e_list (R pw : Int) (n : Nat) : nwN ∉ (sE R pw n).list := by
  unfold Dk.list
  split
  · simp
  · simp [sE]
/-- the log of a new disk: begun, or the power went -/
theorem open_fresh (R pw : Int) (n : Nat) : ((openT rdT (sE R pw n)).2 = 0 ∧ (openT rdT (sE R pw n)).1.2 = [] ∧ (openT rdT (sE R pw n)).1.1.1 = sL R pw (n + 3) [] 0) ∨ ((openT rdT (sE R pw n)).2 ≠ 0 ∧ (openT rdT (sE R pw n)).1.2 = [] ∧ ((openT rdT (sE R pw n)).1.1.1 = sE R pw n ∨ ∃ k, (openT rdT (sE R pw n)).1.1.1 = sC R pw k)) := by
  rw [open_two (e_list R pw n)]
  unfold stepBo
  dsimp only
  by_cases hd : (sE R pw n).down = true
  · have hr : (sE R pw n).read lgN = ([], 93) := by unfold Dk.read; rw [if_pos hd]
    have e : rdT (sE R pw n, 0) = (((sE R pw n, 0), 93), []) := by
      unfold rdT; dsimp only; rw [hr, if_neg (by decide), if_pos (by decide)]
    rw [e]
    exact .inr ⟨by simp, rfl, .inl rfl⟩
  · rw [Bool.not_eq_true] at hd
    have hr : ((sE R pw n).read lgN).2 = 90 := by unfold Dk.read; rw [if_neg (by rw [hd]; simp), if_neg (by decide)]; rfl
    have e : rdT (sE R pw n, 0) = (beginT (sE R pw n, 0), []) := by unfold rdT; rw [if_pos hr]
    rw [e]
    dsimp only
    unfold beginT
    have e1 : opT ⟨1, lgN, [], []⟩ (sE R pw n, 0) = ((sC R pw (n + 1), 0), 0) := by unfold opT; dsimp only; rw [e_create R pw n hd]
    rw [runT_ok (by rw [e1]), e1]
    dsimp only
    by_cases h2 : (sC R pw (n + 1)).down = true
    · have e2 : opT ⟨3, lgN, [], []⟩ (sC R pw (n + 1), 0) = ((sC R pw (n + 1), 0), 93) := by unfold opT; dsimp only; rw [stp_down _ h2]
      rw [runT_bad (by rw [e2]; simp), e2]
      exact .inr ⟨by simp, rfl, .inr ⟨_, rfl⟩⟩
    · rw [Bool.not_eq_true] at h2
      have e2 : opT ⟨3, lgN, [], []⟩ (sC R pw (n + 1), 0) = ((sC R pw (n + 1 + 1), 0), 0) := by unfold opT; dsimp only; rw [c_sync R pw _ h2]
      rw [runT_ok (by rw [e2]), e2]
      dsimp only
      by_cases h3 : (sC R pw (n + 1 + 1)).down = true
      · have e3 : opT ⟨4, [], [], []⟩ (sC R pw (n + 1 + 1), 0) = ((sC R pw (n + 1 + 1), 0), 93) := by unfold opT; dsimp only; rw [stp_down _ h3]
        rw [runT_bad (by rw [e3]; simp), e3]
        exact .inr ⟨by simp, rfl, .inr ⟨_, rfl⟩⟩
      · rw [Bool.not_eq_true] at h3
        have e3 : opT ⟨4, [], [], []⟩ (sC R pw (n + 1 + 1), 0) = ((sL R pw (n + 1 + 1 + 1) [] 0, 0), 0) := by unfold opT; dsimp only; rw [c_names R pw _ h3]
        rw [runT_ok (by rw [e3]), e3, runT_nil]
        exact .inl ⟨rfl, rfl, rfl⟩
end Go.Proofs.YtibjcofbhldenaaGreatDoor
namespace Go.Proofs.YtibjcofbhldenaaGreatDoor
open Go.RowKit Go.Maps
set_option maxRecDepth 20000
set_option maxHeartbeats 4000000
theorem idsSC {o : Ow} {g lb sb tm : Nat} {slots : Int} {s : Dk} {c : Int} {t : NL} {W : World} (h : StoS o g lb sb tm slots s c t W) (ht : SmlT t) (hl : t.length ≤ 1000000) :
    Calls Tryz.prog 25 #[lptr sb] W fun e w' => ∃ v, e = .returned v ∧ OwnS W v (t.map (fun p => p.1)) w' := by
  have CI := hide' (idsC h (by omega))
  have HSZ : Hid (∀ x ∈ t.map (fun p => p.1), x.length ≤ 1000000) := fun x hx => by
    obtain ⟨p, hp, rfl⟩ := List.mem_map.1 hx
    exact ht p hp
  have hnl : (t.map (fun p => p.1)).length ≤ 1000000 := by rw [List.length_map]; exact hl
  clear h ht
  generalize t.map (fun p => p.1) = ns at CI HSZ hnl ⊢
  go_enter Tryz.func25, Tryz.ntmps25
  go_wp2_with fail
  refine CI.out.mono ?_
  rintro e w2 ⟨lv, rfl, ho⟩
  have HO := hide' ho
  clear ho CI
  by_cases hz : ns = []
  · obtain ⟨la, lc, hlv⟩ := row_sl HO.out.1
    have e0 : ns.length = 0 := by rw [hz]; rfl
    rw [e0] at hlv
    subst hlv
    clear hz e0 hnl
    go_wp2_with fail
    go_rounds 1
    go_ret
    exact ⟨_, rfl, HO.out⟩
  · have hpos : 0 < ns.length := List.length_pos_iff.2 hz
    obtain ⟨b, lc, hlv, hcell⟩ := ownS_slice HO.out hpos
    obtain ⟨L, hL⟩ : ∃ L, L = ns.length := ⟨_, rfl⟩
    have HL := hide' hL
    rw [← hL] at hlv hnl
    subst hlv
    clear hz hpos hcell hL
    go_wp2_with fail
    go_loopw [4, 5, 10] (fun _ _ i wr => ∃ j : Nat, j ≤ L ∧ i = .int .i64 j ∧ Hid (OwnS W (.slice (some ⟨b, 0, none⟩) L lc) ns wr)) (fun _ _ i _ => L - (intOf i).toNat)
    case atStart => exact ⟨0, by omega, rfl, HO⟩
    case round =>
      obtain ⟨j, hj, rfl, HW⟩ := hrel
      by_cases hlt : j < L
      · have hlt' : j < ns.length := by rw [← HL.out]; exact hlt
        obtain ⟨x1, x2⟩ := ownS_at HW.out HL.out j hlt'
        unfold S at x1
        have HX : Hid (S (ns[j]'hlt') = .string ⟨(ns[j]'hlt').toArray⟩) := rfl
        have hxl : (⟨(ns[j]'hlt').toArray⟩ : ByteArray).size ≤ 140737488351232 := by rw [size_l]; have := HSZ.out _ (List.getElem_mem hlt'); omega
        have AG : Hid (∀ w3, Below wr.heap.size wr w3 → OwnS W (.slice (some ⟨b, 0, none⟩) L lc) ns (w3.setCell ⟨b, j, none⟩ (S (ns[j]'hlt'))) ∧ w3.cell? ⟨b, j, none⟩ = some (S (ns[j]'hlt')) ∧ w3.frozen? ⟨b, j, none⟩ = false) := by
          intro w3 hb
          have h3 := ownS_mono HW.out hb
          have h4 := ownS_at h3 HL.out j hlt'
          have hL2 := HL.out
          subst hL2
          exact ⟨ownS_again h3 hlt', h4.1, h4.2⟩
        rw [HX.out] at AG
        generalize (⟨(ns[j]'hlt').toArray⟩ : ByteArray) = y at x1 AG hxl
        clear HX
        go_wp2_with (go_at_call 73; refine (clone y _ hxl).mono ?_; rintro e w3 ⟨rfl, b3⟩; obtain ⟨a3, y3, z3⟩ := AG.out w3 b3; have A3 := hide' a3; clear a3 b3)
        go_roundw
        case rel => exact ⟨j + 1, by omega, by go_num, A3⟩
        case measure => simp [intOf]; omega
      · go_wp2_with fail
        go_ret
        exact ⟨_, rfl, HW.out⟩
end Go.Proofs.YtibjcofbhldenaaGreatDoor
namespace Go.Proofs.YtibjcofbhldenaaGreatDoor
open Go.RowKit Go.Shelf
/-- Open of any disk -/
theorem openL {o : Ow} {g : Nat} {s : Dk} {W : World} (h : Dsk o g s W) (m : Nat) (hB : Bd m s) (hm : m ≤ 1000000) :
    Calls Tryz.prog 36 #[lptr g] W fun e W' => OpPost o g (openT rdT s) W e W' ∧ Bd (15 * m + 200) (openT rdT s).1.1.1 := by
  refine (openC h m (7 * m + 100) hB (by omega) (by omega) rdT (fun lb o' w hl _ => ?_)).mono ?_
  · refine (readG hl (m + 2) (by omega) (remU_bd (st := (s, 0)) hB)).mono ?_
    rintro e W' ⟨p1, p2⟩
    exact ⟨p1, bd_mono p2 (by omega)⟩
  · rintro e W' ⟨p1, p2⟩
    exact ⟨p1, bd_mono p2 (by omega)⟩
end Go.Proofs.YtibjcofbhldenaaGreatDoor
namespace Go.Proofs.YtibjcofbhldenaaGreatDoor
open Go.RowKit Go.Maps Go.WideMaps
/-- a map of names -/
def SetN (W : World) (m n : Nat) (f : Nm → Bool) : Prop := ∃ D : DU, W.ownsMap Tryz.prog 9 (unitElem (H := Unit)) m n D ∧ ∀ nm : Nm, Maps.has D (.string nm) = f nm
theorem setN_block {W W' : World} {m n : Nat} {f : Nm → Bool} (h : SetN W m n f) (hb : W'.heap[m]? = W.heap[m]?) : SetN W' m n f := by
  obtain ⟨D, ⟨es, clock, hh, F, hn, hD⟩, h2⟩ := h
  exact ⟨D, ⟨es, clock, by rw [hb]; exact hh, F, hn, hD⟩, h2⟩
theorem setN_lt {W : World} {m n : Nat} {f : Nm → Bool} (h : SetN W m n f) : m < W.heap.size := by
  obtain ⟨D, ⟨es, clock, hh, _⟩, _⟩ := h
  rcases Nat.lt_or_ge m W.heap.size with h | h
  · exact h
  · rw [Array.getElem?_eq_none h] at hh; cases hh
theorem setN_empty {W : World} {m : Nat} (h : W.heap[m]? = some (.map #[] 0)) : SetN W m 0 (fun _ => false) := by
  obtain ⟨es, clock, hh, F, hn, hD⟩ := World.ownsMap_made (H := Unit) W Tryz.prog 9 unitElem
  rw [heap_alloc_new] at hh
  cases hh
  exact ⟨_, ⟨#[], 0, h, F, hn, hD⟩, fun nm => by simp [Maps.has]⟩
theorem setN_look {W : World} {m n : Nat} {f : Nm → Bool} (h : SetN W m n f) {s : ByteArray} (hs : s.size ≤ 140737488351232) :
    (Instr.lookup 157 (.map (some m)) (.string s) true).run Tryz.prog W = .ok (.tuple #[.agg #[], .bool (f s.data.toList)]) W := by
  obtain ⟨D, h0, hh⟩ := h
  obtain ⟨v, ps, h1, h2⟩ := World.ownsMap.look_ok h0 kStr Tryz.underlying157 (zeroU W) unitElem_mk (key_str hs)
  obtain ⟨e, _⟩ := unitElem_inv h2
  rw [h1, e, hh]
theorem setN_put {W : World} {m n : Nat} {f : Nm → Bool} (h : SetN W m n f) {s : ByteArray} (hs : s.size ≤ 140737488351232) (hn : n < 1000000000) :
    ∃ w', (Instr.mapUpdate 157 (.map (some m)) (.string s) (.agg #[])).run Tryz.prog W = .ok () w' ∧ SetN w' m (n + 1) (fun nm => f nm || decide (s.data.toList = nm)) ∧ W.grownBy w' (some m) := by
  obtain ⟨D, h0, hh⟩ := h
  obtain ⟨w', h1, h2, h3⟩ := World.ownsMap.update h0 kStr Tryz.underlying157 (by unfold maxLen; omega) (key_str hs) unitElem_mk
  refine ⟨w', h1, ⟨_, h2, fun nm => ?_⟩, h3⟩
  by_cases e : s.data.toList = nm
  · rw [← e, Maps.has_put_same (k := .string s.data.toList) h0.isMap trivial]; simp
  · rw [Maps.has_put_other (fun e2 => e (by cases e2; rfl)), hh]; simp [e]
/-- is it an entry's file, and does none count for it? -/
def preO (nm : Nm) : Bool := decide (nm.take 2 = [111, 47])
def strB (t : NL) (nm : Nm) : Bool := !(t.any (fun p => decide (nameN (p.2 : Int) = nm))) && preO nm
def strT (t : NL) (l : List Nm) (st : LSt) : LSt := l.foldl (fun st nm => if strB t nm = true then (opT ⟨6, nm, [], []⟩ st).1 else st) st
theorem str_next (t : NL) (l : List Nm) (k : Nat) (h : k < l.length) (st : LSt) : strT t (l.take (k + 1)) st = if strB t l[k] = true then (opT ⟨6, l[k], [], []⟩ (strT t (l.take k) st)).1 else strT t (l.take k) st := by
  unfold strT
  rw [List.take_succ_eq_append_getElem h, List.foldl_append]
  rfl
def cntF (t : NL) (left : Lit → Bool) (nm : Nm) : Bool := t.any (fun p => decide (nameN (p.2 : Int) = nm) && !left (.string p.1))
theorem cnt_start (t : NL) : cntF t (Maps.has (dOf (fun b => b) t)) = fun _ => false := by
  funext nm
  unfold cntF
  rw [List.any_eq_false]
  intro p hp
  rw [dOf_has]
  have : (atN t p.1).isSome = true := by
    cases h : atN t p.1 with
    | none => exact absurd rfl (at_none h p hp)
    | some k => rfl
  simp [this]
theorem cnt_step {t : NL} (hs : SortedN t) {left : Lit → Bool} {x : Nm} {k : Nat} (ha : atN t x = some k) : cntF t (fun z => left z && !z.sameKey (.string x)) = fun nm => cntF t left nm || decide (nameN (k : Int) = nm) := by
  funext nm
  have hm := at_some ha
  unfold cntF
  rw [Bool.eq_iff_iff]
  simp only [List.any_eq_true, Bool.and_eq_true, decide_eq_true_eq, Bool.not_eq_true', Bool.or_eq_true, Bool.and_eq_false_iff, same_str, Bool.not_eq_false']
  constructor
  · rintro ⟨p, hp, h1, h2 | h2⟩
    · exact .inl ⟨p, hp, h1, h2⟩
    · right
      have h3 : p.1 = x := h2
      have h4 := at_mem hs (name := p.1) (k := p.2) hp
      rw [h3, ha] at h4
      rw [Option.some.inj h4]
      exact h1
  · rintro (⟨p, hp, h1, h2⟩ | h2)
    · exact ⟨p, hp, h1, .inl h2⟩
    · exact ⟨(x, k), hm, h2, .inr rfl⟩
theorem cnt_end (t : NL) {left : Lit → Bool} (h : ∀ kl, left kl = false) : cntF t left = fun nm => t.any (fun p => decide (nameN (p.2 : Int) = nm)) := by
  funext nm
  unfold cntF
  congr 1
  funext p
  rw [h]; simp
theorem pre_take (a : ByteArray) : ((a.extract 0 2).toList == [111, 47]) = preO a.data.toList := by
  have e : (a.extract 0 2).data.toList = a.data.toList.take 2 := by simp [ByteArray.data_extract, List.extract_eq_take_drop]
  rw [Lib.toList_data, e]
  unfold preO
  by_cases h : a.data.toList.take 2 = [111, 47] <;> simp [h]
theorem pre_short (a : ByteArray) (h : ¬ 2 ≤ a.size) : preO a.data.toList = false := by
  unfold preO
  rw [decide_eq_false]
  intro e
  have := congrArg List.length e
  rw [List.length_take] at this
  simp at this
  omega
set_option maxRecDepth 20000
set_option maxHeartbeats 4000000
theorem preLC (a : ByteArray) (w : World) (hl : a.size ≤ 4194304) :
    Calls Tryz.prog 131 #[.string a, .string ⟨#[111, 47]⟩] w fun e w' => e = .returned (.bool (preO a.data.toList)) ∧ w' = w := by
  by_cases h1 : 2 ≤ a.size
  · have h2 := hide' (pre_take a)
    go_enter Tryz.func131, Tryz.ntmps131
    go_wp2_with fail
    go_ret
    exact ⟨by rw [← h2.out]; rfl, rfl⟩
  · have h2 := hide' (pre_short a h1)
    go_enter Tryz.func131, Tryz.ntmps131
    go_wp2_with fail
    go_ret
    exact ⟨by rw [h2.out]; rfl, rfl⟩
theorem preC (a : ByteArray) (w : World) (hl : a.size ≤ 4194304) :
    Calls Tryz.prog 88 #[.string a, .string ⟨#[111, 47]⟩] w fun e w' => e = .returned (.bool (preO a.data.toList)) ∧ w' = w := by
  have c := hide' (fun W => preLC a W hl)
  obtain ⟨d, hd⟩ : ∃ d, d = preO a.data.toList := ⟨_, rfl⟩
  rw [← hd] at c ⊢
  clear hd
  go_enter Tryz.func88, Tryz.ntmps88
  go_wp2_with fail
  refine (c.out _).mono ?_
  rintro e w9 ⟨rfl, ew⟩
  rw [ew]
  clear ew w9
  go_wp2_with fail
  go_ret
  exact ⟨rfl, rfl⟩
theorem grown_of {W W' : World} (h : Below W.heap.size W W') (row : Option Nat) : W.grownBy W' row := ⟨h.os, h.tape, h.output, h.size, fun i hi _ => h.block i hi⟩
theorem straysC {o : Ow} {g lb sb tm : Nat} {slots : Int} {s : Dk} {c : Int} {t : NL} {W : World} (h : StoS o g lb sb tm slots s c t W) (m : Nat) (hB : Bd m s) (hm : 3 * m + 10 ≤ 80000000) (htl : t.length ≤ 1000000) :
    Calls Tryz.prog 39 #[lptr sb] W fun e W' => e = .returned (.tuple #[]) ∧ (∃ o', StoS o' g lb sb tm slots (strT t s.list (s, c)).1 (strT t s.list (s, c)).2 t W' ∧ GrowT lb tm o W o' W') ∧ Bd (3 * m) (strT t s.list (s, c)).1 := by
  have hmm := @run_makeMap Tryz.prog
  have H := hide' h
  have BB := hide' hB
  have b1 := below_alloc' W (.map #[] 0)
  have B1 := hide' b1
  have hown := (stoS_below h b1).tab
  have hS0 := setN_empty (W := W.alloc (.map #[] 0)) (heap_alloc_new W _)
  have hlt := dsk_lt h.log.dsk
  have HLT := hide' hlt
  have hlb := h.log.blk.2
  have htm := tbi_lt h.tab
  have hsb := h.blk.2
  obtain ⟨d0, d1, d2, d3⟩ := stoS_cells (stoS_below h b1)
  clear h b1 hB hlt
  obtain ⟨W1, hW1⟩ : ∃ W1, W1 = W.alloc (.map #[] 0) := ⟨_, rfl⟩
  have Z1 : Hid (W1.heap.size = W.heap.size + 1) := by rw [hW1]; unfold Hid; simp
  rw [← hW1] at hS0 hown d0 d1 d2 d3 B1
  have HW1 := hide' hW1
  rw [hW1] at d3
  clear hW1
  go_enter Tryz.func39, Tryz.ntmps39
  go_upto_region 1 with fail
  rw [← HW1.out] at d3 ⊢
  go_wp2_with (first
    | (at_range; refine wpList_range_own _ rfl _ 99 rfl 9 3 kStr Tryz.underlying99 _ tm t.length _ rfl hown ?_; intro w0 hrg0 hg0 hs0)
    | go_in)
  go_frame
  have hne : W.heap.size ≠ W1.heap.size := by have := Z1.out; omega
  have SW0 := hide' (setN_block (W' := w0) hS0 (hg0.block W.heap.size (by have := Z1.out; omega) (by simp)))
  have BW0 : Hid (Below W.heap.size W w0) := B1.out.grown hg0 (by have := Z1.out; omega) (fun j hj => by cases hj)
  rw [← cnt_start t] at SW0
  have hcz : Maps.size (dOf (fun b => b) t) = t.length := dOf_size _ _
  rw [hcz] at hrg0
  clear hS0 hg0 hs0 hown d0 d1 d2 d3 HW1 hcz
  go_loopw [4] (fun _ wr => ∃ (left : Lit → Bool) (cnt nn : Nat), wr.ranges Tryz.prog 9 iel tm W1.heap.size t.length (dOf (fun b => b) t) left cnt ∧ Hid (SetN wr W.heap.size nn (cntF t left)) ∧ nn + cnt ≤ t.length ∧ Hid (Below W.heap.size W wr)) (fun _ wr => wr.rangeLeft tm W1.heap.size)
  case atStart => exact ⟨_, _, 0, hrg0, SW0, by omega, BW0⟩
  case round =>
    clear hrg0 SW0 BW0
    obtain ⟨left, cnt, nn, hrg, SW, hnn, BW⟩ := hrel
    go_wp2_with (first
      | (at_next; refine wpList_next_ranges _ rfl _ rfl 9 kStr iel Value.string (fun c : Int => .int .i64 c) (fun key kl hkey => by obtain ⟨x, rfl, _⟩ := str_inv hkey; exact ⟨x, rfl⟩) (fun v y hv => by obtain ⟨c, rfl, _⟩ := iel_inv hv; exact ⟨c, rfl⟩) tm W1.heap.size t.length _ _ _ rfl hrg ?_ ?_)
      | go_in)
    · intro hc0 hl0
      have S4 := SW.out
      rw [cnt_end t hl0] at S4
      have SF := hide' S4
      have HS4 := hide' (stoS_below H.out BW.out)
      have CL := hide' (listC HS4.out.log.dsk (bd_mono BB.out (by omega)))
      obtain ⟨w4, ew4⟩ : ∃ x, x = wr := ⟨_, rfl⟩
      rw [← ew4] at SF HS4 CL BW ⊢
      have zW4 := BW.out.size
      have LN : Hid (s.list.length ≤ m) := by
        unfold Hid Dk.list
        split
        · simp
        · rw [List.length_map]; exact BB.out.2.2.1
      have LG : Hid (∀ x ∈ s.list, x.length ≤ 64) := by
        obtain ⟨m0, m1, m2, pv, fb, cs, vv⟩ := H.out.log.dsk
        intro x hx
        unfold Dk.list at hx
        split at hx
        · cases hx
        · obtain ⟨p, hp, rfl⟩ := List.mem_map.1 hx
          exact good_len (vv.wf.now.2 p hp).2
      obtain ⟨e0, e1, e2, e3⟩ := stoS_cells HS4.out
      clear hc0 hl0 hrg S4 SW ew4 hnn
      go_wp2_with fail
      refine CL.out.mono ?_
      rintro e w5 ⟨v, rfl, ho⟩
      have HS5 := hide' (stoS_below HS4.out ho.2)
      have SF5 := hide' (setN_block SF.out (ho.2.block W.heap.size (setN_lt SF.out)))
      have B5 := hide' (BW.out.trans (ho.2.mono zW4))
      obtain ⟨ao, ca, b, off, hv, hc⟩ := holds_partsC (holds_own ho)
      have HBL : Hid (0 < s.list.length → w4.heap.size ≤ b) := fun hp => by
        obtain ⟨h1, -⟩ := hc hp
        rcases ho.1.2 with ⟨_, hz⟩ | ⟨x, cap, cur, hvv, hx, _⟩
        · omega
        · rw [hv, h1] at hvv
          simp at hvv
          omega
      have C := hide' hc
      have hz5 := ho.2.size
      rw [hv]
      clear ho hv hc CL HS4 SF e0 e1 e2 e3
      have ST0 : Hid (strT t (s.list.take 0) (s, c) = (s, c)) := rfl
      have SAll : Hid (s.list.take s.list.length = s.list) := List.take_length
      obtain ⟨ns, hns⟩ : ∃ ns, ns = s.list := ⟨_, rfl⟩
      have NS : Hid (s.list = ns) := hns.symm
      rw [NS.out] at LN LG HBL C ST0 SAll ⊢
      clear hns
      obtain ⟨n, en⟩ : ∃ n, n = ns.length := ⟨_, rfl⟩
      have N : Hid (ns.length = n) := en.symm
      rw [N.out] at LN ⊢
      have hnm := LN.out
      clear en
      have hcm : Hid (o W.heap.size = none) := none_of_lt HLT.out (Nat.le_refl _)
      go_wp2_with fail
      go_loopw [29] (fun i wr => ∃ (k : Nat) (o' : Ow), k ≤ n ∧ i = .int .i64 k ∧ Hid (StoS o' g lb sb tm slots (strT t (ns.take k) (s, c)).1 (strT t (ns.take k) (s, c)).2 t wr) ∧ Hid (GrowT lb tm o w5 o' wr) ∧ Hid (Bd (m + 2 * k) (strT t (ns.take k) (s, c)).1)) (fun i _ => n - (intOf i).toNat)
      case atStart => exact ⟨0, o, Nat.zero_le _, rfl, by rw [ST0.out]; exact HS5, GrowT.refl _ _ _ _, by rw [ST0.out]; exact BB⟩
      case round =>
        clear HS5
        obtain ⟨k, o6, hk, rfl, HS6, G6, BB6⟩ := hrel
        have hcs : Hid (SetN wr W.heap.size nn (fun nm => t.any (fun p => decide (nameN (p.2 : Int) = nm)))) := setN_block SF5.out (G6.out.off.block W.heap.size (setN_lt SF5.out) (fun hh => by
          rcases hh with hh | hh | hh
          · exact hh hcm.out
          · omega
          · omega))
        by_cases hlt : k < n
        · have G : Hid (k < ns.length) := by unfold Hid; rw [N.out]; exact hlt
          obtain ⟨hao, hblt, hcell⟩ := C.out (by have := G.out; omega)
          subst hao
          have hbl := HBL.out (by have := G.out; omega)
          have ck : wr.cell? ⟨b, off + k, none⟩ = some (.string ⟨(ns[k]'G.out).toArray⟩) := by
            rw [World.cell?_of_block (w := w5) (a := ⟨b, off + k, none⟩) (G6.out.off.block b hblt (fun hh => by
              rcases hh with hh | hh | hh
              · exact hh (none_of_lt HLT.out (by omega))
              · omega
              · omega))]
            exact hcell k G.out
          have hsz := LG.out _ (List.getElem_mem G.out)
          have R := hide' (str_next t ns k G.out (s, c))
          clear hcell
          generalize ns[k]'G.out = q at ck hsz R
          generalize strT t (ns.take k) (s, c) = st at HS6 BB6 R
          obtain ⟨s6, c6⟩ := st
          simp only at HS6 BB6 R
          have hqs : (⟨q.toArray⟩ : ByteArray).size ≤ 64 := by rw [size_l]; exact hsz
          have hlk := setN_look hcs.out (s := ⟨q.toArray⟩) (by omega)
          have QL : Hid ((⟨q.toArray⟩ : ByteArray).data.toList = q) := by unfold Hid; simp
          have SB : Hid (strB t q = (!(t.any (fun p => decide (nameN (p.2 : Int) = q))) && preO q)) := rfl
          rw [QL.out] at hlk
          have CP := hide' (fun W' => preC ⟨q.toArray⟩ W' (by omega))
          rw [QL.out] at CP
          have bz := below_alloc' wr (.cells #[] 141)
          have HS7 := hide' (stoS_below HS6.out bz)
          have G7 := hide' (G6.out.trans (growT_below (lb := lb) (tm := tm) (o := o6) bz))
          have CR := hide' (removeC HS7.out.log.dsk ⟨q.toArray⟩ [] [] (by omega) (bd_mono BB6.out (by omega)))
          rw [QL.out] at CR
          have BB7 := hide' (bd_step BB6.out ⟨6, q, [], []⟩)
          obtain ⟨e0, e1, e2, e3⟩ := stoS_cells HS7.out
          clear bz hcs HS6 G6
          generalize (⟨q.toArray⟩ : ByteArray) = qb at ck hlk CP CR hqs
          cases hf : t.any (fun p => decide (nameN (p.2 : Int) = q)) with
          | true =>
            rw [hf] at hlk SB
            have R2 : Hid (strT t (ns.take (k + 1)) (s, c) = (s6, c6)) := by unfold Hid; rw [R.out, if_neg (by rw [SB.out]; simp)]
            clear hf CR CP R
            go_wp2_with fail
            go_roundw
            case rel => exact ⟨k + 1, o6, by omega, by go_num, by rw [R2.out]; exact HS7, G7, by rw [R2.out]; exact bd_mono BB6.out (by omega)⟩
            case measure => simp [intOf]; omega
          | false =>
            rw [hf] at hlk SB
            cases hp : preO q with
            | true =>
              rw [hp] at CP SB
              have R2 : Hid (strT t (ns.take (k + 1)) (s, c) = ((s6.step ⟨6, q, [], []⟩).1, c6)) := by unfold Hid; rw [R.out, if_pos (by rw [SB.out]; rfl)]; rfl
              clear hf hp R
              go_wp2_with fail
              refine (CP.out _).mono ?_
              rintro e w9 ⟨rfl, ew⟩
              rw [ew]
              clear ew w9
              go_wp2_with fail
              refine CR.out.mono ?_
              intro e w8 sp
              have P8 := hide' (tpost_step HS7.out sp)
              obtain ⟨rfl, -⟩ := sp
              obtain ⟨-, o8, S8, g8⟩ := P8.out
              have HS8 := hide' S8
              have G8 := hide' (G7.out.trans g8)
              clear S8 g8 P8 CR HS7 G7 e0 e1 e2 e3
              go_wp2_with fail
              go_roundw
              case rel => exact ⟨k + 1, o8, by omega, by go_num, by rw [R2.out]; exact HS8, G8, by rw [R2.out]; exact bd_mono BB7.out (by simp only [List.length_nil]; omega)⟩
              case measure => simp [intOf]; omega
            | false =>
              rw [hp] at CP SB
              have R2 : Hid (strT t (ns.take (k + 1)) (s, c) = (s6, c6)) := by unfold Hid; rw [R.out, if_neg (by rw [SB.out]; simp)]
              clear hf hp CR R
              go_wp2_with fail
              refine (CP.out _).mono ?_
              rintro e w9 ⟨rfl, ew⟩
              rw [ew]
              clear ew w9
              go_wp2_with fail
              go_roundw
              case rel => exact ⟨k + 1, o6, by omega, by go_num, by rw [R2.out]; exact HS7, G7, by rw [R2.out]; exact bd_mono BB6.out (by omega)⟩
              case measure => simp [intOf]; omega
        · have E : Hid (ns.take k = ns) := List.take_of_length_le (by rw [N.out]; omega)
          rw [E.out, ← NS.out] at HS6 BB6
          go_wp2_with fail
          go_end0
          exact ⟨rfl, ⟨o6, HS6.out, (growT_below B5.out).trans G6.out⟩, bd_mono BB6.out (by omega)⟩
    · intro x cc kl y1 y2 w1 cnt1 hkx hlx hvy hat hrg1 hlt' hg1 hs1 hen
      obtain ⟨x', ex, hkl⟩ := str_inv hkx
      cases ex
      obtain ⟨c', ec, hy⟩ := iel_inv hvy
      have ec' : cc = c' := by simpa using ec
      subst ec'
      have hy1 : y1 = .lit (.int .i64 cc) := by simpa using congrArg Prod.fst hy
      rw [hkl, hy1] at hat
      rw [hkl] at hrg1
      obtain ⟨k, hak, hck⟩ : ∃ k : Nat, atN t x.data.toList = some k ∧ cc = (k : Int) := by
        cases ha : atN t x.data.toList with
        | none =>
          have h1 := hat .nil
          rw [dOf_none ha] at h1
          cases h1
        | some k =>
          refine ⟨k, rfl, ?_⟩
          have h1 := hat .nil
          rw [dOf_some ha] at h1
          simp at h1
          exact h1.symm
      subst hck
      have SW1 := hide' (setN_block SW.out (hg1.block W.heap.size (setN_lt SW.out) (fun e => hne (Option.some.inj e))))
      have B2 := hide' (BW.out.grown hg1 BW.out.size (fun j hj => by cases hj; have := Z1.out; omega))
      have RS := hide' hrg1
      have RO := hide' hrg
      have CPa := hide' (pathC (k : Int) w1)
      have NK : Hid ((pathB (k : Int)).data.toList = nameN (k : Int)) := rfl
      have hps := path_size (k : Int)
      have CS := hide' (cnt_step (left := left) H.out.srt hak)
      clear hkx hlx hvy hat hrg1 hrg hg1 hs1 SW hy hy1 hkl hak BW
      generalize pathB (k : Int) = pk at CPa NK hps
      go_wp2_with fail
      refine CPa.out.mono ?_
      rintro e w2 ⟨rfl, b2⟩
      have SW2 := setN_block SW1.out (b2.block W.heap.size (setN_lt SW1.out))
      have RS2 := hide' (RS.out.kept (grown_of b2 none) (by simp) (by simp))
      have B3 := hide' (B2.out.trans (b2.mono B2.out.size))
      obtain ⟨w3, hup, s3, g3⟩ := setN_put SW2 (s := pk) hps (by omega)
      rw [NK.out, ← CS.out] at s3
      have SW3 := hide' s3
      have RS3 := hide' (RS2.out.kept g3 (fun e => by have := Option.some.inj e; omega) (fun e => by have := Option.some.inj e; have := Z1.out; omega))
      have B4 := hide' (B3.out.grown g3 B3.out.size (fun j hj => by cases hj; exact Nat.le_refl _))
      clear SW2 s3 g3 b2 CPa
      go_wp2_with fail
      go_roundw
      case rel => exact ⟨_, cnt1, nn + 1, RS3.out, SW3, by omega, B4⟩
      case measure => rw [RS3.out.left_eq, RO.out.left_eq]; exact hlt'
end Go.Proofs.YtibjcofbhldenaaGreatDoor
