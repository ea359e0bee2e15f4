/- The contracts of Sync and Append. The contract of Used: the bytes of all files that have a name, in whatever order the table is gone through. The contract of Append. -/
import Derived.Test.YtijnjgnckipghaaGreatBw3
import Derived.Test.YtijnjgnckipghaaGreatBw4
import Derived.Maps.RangeWalk
import Derived.Deep.RegionHeld3
namespace Go.Proofs.YtijnjgnckipghaaGreat
open Go.RowKit Go.Maps
theorem file_slice {o : Ow} {W : World} {b i : Nat} {bs : List UInt8} {sf : Nat} (h : FileAt o W b i bs sf) : ∃ ao cap, Blk b W [.int .i64 (i : Int), .slice ao bs.length cap, .int .i64 (sf : Int)] ∧ W.ownsRow 0 5 1 (.slice ao bs.length cap) bs.length (bs.map B) ∧ o b = some (.file i) ∧ ∀ rb, (Value.slice ao bs.length cap).ownBlock = some rb → o rb = some (.row i) := by
  obtain ⟨rv, h1, h2, h3, h4⟩ := h
  rcases h2.2 with ⟨rfl, hn⟩ | ⟨x, cap, cur, rfl, _⟩
  · rw [hn] at h2 ⊢; exact ⟨none, 0, h1, h2, h3, h4⟩
  · exact ⟨_, _, h1, h2, h3, h4⟩
theorem row_holds0 {W : World} {base : Nat} {v : Value} {bs : List UInt8} (h : W.ownsRow base 5 1 v bs.length (bs.map B)) : HoldsB W v bs := by
  obtain ⟨hl, h1 | ⟨g, cap, cur, rfl, hg, hh, hr⟩⟩ := h
  · obtain ⟨rfl, hn⟩ := h1
    obtain rfl : bs = [] := List.eq_nil_of_length_eq_zero hn
    exact ⟨none, 0, rfl, fun _ => rfl, Nat.le_refl _, fun h => absurd rfl h⟩
  · have h : W.ownsRow base 5 1 (.slice (some ⟨g, 0, none⟩) bs.length cap) bs.length (bs.map B) := ⟨hl, .inr ⟨g, cap, cur, rfl, hg, hh, hr⟩⟩
    refine ⟨_, cap, rfl, fun e => (by cases e), hr.1, fun _ => ⟨g, 0, rfl, (h.lt g rfl).2, fun j hj => ?_⟩⟩
    rw [Nat.zero_add, h.cellAt j (by omega)]
    simp [hj]
/-- what a step of a disk answers and leaves -/
def StepPost (o : Ow) (g : Nat) (s : Dk) (op : DOp) (W : World) (e : Ending) (W' : World) : Prop := e = .returned (.int .i64 (s.step op).2) ∧ ∃ o', Dsk o' g (s.step op).1 W' ∧ Grow o W o' W'
theorem sync_spec (s : Dk) (nm to : Nm) (d : List UInt8) (h : stepE s [nm] = 0) : (atN s.now nm = none → s.step ⟨3, nm, to, d⟩ = (cntS s, 90)) ∧ ∀ k, atN s.now nm = some k → s.step ⟨3, nm, to, d⟩ = ({ cntS s with firm := s.firm.set k (s.data.getD k []).length }, 0) := by
  obtain ⟨h1, h2⟩ := step_z s ⟨3, nm, to, d⟩ h
  refine ⟨fun e => ?_, fun k e => ?_⟩
  · rw [h2, e, h1]; rfl
  · rw [h2, e, h1]; rfl
set_option maxRecDepth 20000 in
set_option maxHeartbeats 2000000 in
theorem syncC {o : Ow} {g : Nat} {s : Dk} {W : World} (h : Dsk o g s W) (nm : ByteArray) (to : Nm) (d : List UInt8) (hs : nm.size ≤ 140737488351232) (hB : Bd 900000000 s) :
    Calls Tryz.prog 79 #[.pointer (some ⟨g, 0, none⟩), .string nm] W fun e W' => StepPost o g s ⟨3, nm.data.toList, to, d⟩ W e W' := by
  obtain ⟨m0, m1, m2, pv, fb, cs, v⟩ := h
  have CO := hide' (stepOnC v W (.slice none 0 0) [] (ownS_nil W W (Below.refl _ _)) v.lt nm hs (fun n hn => by cases hn) (by simp) (by have := hB.1; omega))
  have V := hide' v
  by_cases hE : stepE s [nm.data.toList] = 0
  · obtain ⟨sp1, sp2⟩ := sync_spec s nm.data.toList to d hE
    cases ha : atN s.now nm.data.toList with
    | none =>
      have R : Hid (onV fb s.now nm.data.toList (stepE s ([] ++ [nm.data.toList])) = .tuple #[.pointer none, .int .i64 90]) := by
        unfold Hid onV; rw [List.nil_append, hE, if_neg (by decide)]; unfold findV; rw [ha]
      rw [R.out] at CO
      have SP := hide' (sp1 ha)
      clear v ha hE sp1 sp2
      go_enter Tryz.func79, Tryz.ntmps79
      go_wp2_with (go_at_call 87; refine CO.out.mono ?_; rintro e w1 ⟨rfl, h1, h2⟩; have H1 := hide' h1; have H2 := hide' h2; clear h1 h2)
      go_ret
      exact ⟨by rw [SP.out]; rfl, o, by rw [SP.out]; exact ⟨_, _, _, _, _, _, H1.out⟩, grow_g (off_low H2.out (Nat.le_refl _)) V.out.og⟩
    | some k =>
      have R : Hid (onV fb s.now nm.data.toList (stepE s ([] ++ [nm.data.toList])) = .tuple #[.pointer (some ⟨fb k, 0, none⟩), .int .i64 0]) := by
        unfold Hid onV; rw [List.nil_append, hE, if_neg (by decide)]; unfold findV; rw [ha]
      rw [R.out] at CO
      have SP := hide' (sp2 k ha)
      have hk := (v.wf.now.2 _ (at_some ha)).1
      have hcn : (cntS s).data = s.data := by unfold cntS; split <;> rfl
      have hcf : (cntS s).firm = s.firm := by unfold cntS; split <;> rfl
      have hwf := wf_step v.wf ⟨3, nm.data.toList, to, d⟩
      rw [SP.out] at hwf
      have HW := hide' hwf
      have HK := hide' hk
      have HN := hide' hcn
      have HF := hide' hcf
      clear v ha hE sp1 sp2 hwf hk hcn hcf
      go_enter Tryz.func79, Tryz.ntmps79
      go_wp2_with fail
      refine CO.out.mono ?_
      rintro e w1 ⟨rfl, h1, h2⟩
      have fa := h1.files k (by rw [HN.out]; exact HK.out)
      rw [HN.out, HF.out] at fa
      obtain ⟨ao, ca, fB, fR, fo, fw⟩ := file_slice fa
      obtain ⟨⟨c0, c1, c2⟩, ⟨f0, f1, f2⟩⟩ := cells_3 fB
      have FB := hide' fB
      have FR := hide' fR
      have FO := hide' fo
      have FW := hide' fw
      have H1 := hide' h1
      have H2 := hide' h2
      have hlb := hB.2.2.2.2.2 k
      clear h1 h2 fa fB fR fo fw hB
      obtain ⟨len, hlen⟩ : ∃ len, len = (s.data.getD k []).length := ⟨_, rfl⟩
      have HL := hide' hlen
      rw [← hlen] at c1 hlb
      clear hlen
      go_wp2_with fail
      go_ret
      refine ⟨by rw [SP.out]; rfl, o, ?_, ?_⟩
      · rw [SP.out]
        have sp : Same o (fun r => r ≠ .file k ∧ r ≠ .row k) w1 (w1.setCell ⟨fb k, 2, none⟩ (.int .i64 (len : Int))) := (same_poke FO.out _).mono (fun r h => h.1)
        have fb' := cells_set FB.out (j := 2) (by simp) (.int .i64 (len : Int))
        have fr' := row_same (r := .row k) FR.out (same_poke (W := w1) (b := fb k) (j := 2) (o := o) FO.out (.int .i64 (len : Int))) FW.out (by simp)
        have q := dkV_file H1.out k (d' := s.data.getD k []) (f' := len) (fun _ _ e => e) sp ⟨_, fb', fr', FO.out, FW.out⟩ (fun x hx => Nat.lt_of_lt_of_le (H1.out.lt x hx) sp.size) (by
          rw [HN.out, HF.out, set_self, HL.out]
          have := HW.out
          have e : ({ cntS s with firm := s.firm.set k (s.data.getD k []).length } : Dk) = { cntS s with data := s.data, firm := s.firm.set k (s.data.getD k []).length } := by rw [← HN.out]
          rw [← e]
          exact this)
        rw [HN.out, HF.out, set_self, HL.out] at q
        have e : ({ cntS s with firm := s.firm.set k (s.data.getD k []).length } : Dk) = { cntS s with data := s.data, firm := s.firm.set k (s.data.getD k []).length } := by rw [← HN.out]
        simp only
        rw [e]
        rw [← HL.out] at q ⊢
        exact ⟨_, _, _, _, _, _, q⟩
      · have gr := grow_g (off_low H2.out (Nat.le_refl _)) V.out.og
        exact gr.trans ⟨off_poke (S := o.has) ⟨fb k, 2, none⟩ (has_of FO.out) _, fun _ _ e => e, fun _ e => .inl e⟩
  · have R : Hid (onV fb s.now nm.data.toList (stepE s ([] ++ [nm.data.toList])) = .tuple #[.pointer none, .int .i64 (stepE s [nm.data.toList])]) := by
      unfold Hid onV; rw [List.nil_append, if_pos hE]
    have SP : Hid (s.step ⟨3, nm.data.toList, to, d⟩ = (cntS s, stepE s [nm.data.toList])) := step_e s ⟨3, nm.data.toList, to, d⟩ hE
    rw [R.out] at CO
    generalize stepE s [nm.data.toList] = E at hE CO SP
    have q : (E != 0) = true := by simpa using hE
    clear v hE
    go_enter Tryz.func79, Tryz.ntmps79
    go_wp2_with (go_at_call 87; refine CO.out.mono ?_; rintro e w1 ⟨rfl, h1, h2⟩; have H1 := hide' h1; have H2 := hide' h2; clear h1 h2)
    go_ret
    exact ⟨by rw [SP.out]; rfl, o, by rw [SP.out]; exact ⟨_, _, _, _, _, _, H1.out⟩, grow_g (off_low H2.out (Nat.le_refl _)) V.out.og⟩
end Go.Proofs.YtijnjgnckipghaaGreat
namespace Go.Proofs.YtijnjgnckipghaaGreat
open Go.RowKit Go.Maps
open Go.WideElems (Fit rd rg pl rd_val rg_of)
/-- the bytes of those that are no longer to come -/
def sumL (d : List (List UInt8)) (left : Lit → Bool) (l : NL) : Nat := ((l.filter (fun p => !left (.string p.1))).map (fun p => (d.getD p.2 []).length)).sum
theorem sumL_cons (d : List (List UInt8)) (left : Lit → Bool) (q : Nm × Nat) (r : NL) : sumL d left (q :: r) = (if left (.string q.1) = true then 0 else (d.getD q.2 []).length) + sumL d left r := by
  unfold sumL
  rw [List.filter_cons]
  cases left (.string q.1) <;> simp
theorem sumL_start (d : List (List UInt8)) (fb : Nat → Nat) (l : NL) : sumL d (Maps.has (dOf fb l)) l = 0 := by
  unfold sumL
  have : l.filter (fun p => !Maps.has (dOf fb l) (.string p.1)) = [] := by
    rw [List.filter_eq_nil_iff]
    intro p hp
    rw [dOf_has]
    cases e : atN l p.1 with
    | none => exact absurd rfl (at_none e p hp)
    | some k => simp
  rw [this]
  rfl
theorem sumL_end (d : List (List UInt8)) {left : Lit → Bool} (h : ∀ kl, left kl = false) (l : NL) : sumL d left l = sumN d l := by
  unfold sumL sumN
  rw [List.filter_eq_self.2 (fun p _ => by rw [h]; rfl)]
theorem sumL_other (d : List (List UInt8)) (left : Lit → Bool) (x : Nm) : ∀ (l : NL), (∀ p ∈ l, p.1 ≠ x) → sumL d (fun z => left z && !z.sameKey (.string x)) l = sumL d left l := by
  intro l
  induction l with
  | nil => intro _; rfl
  | cons q r ih =>
    intro h
    rw [sumL_cons, sumL_cons, ih (fun p hp => h p (List.mem_cons_of_mem _ hp)), same_str]
    have : q.1 ≠ x := h q (List.mem_cons_self ..)
    simp [this]
theorem sumL_step (d : List (List UInt8)) {left : Lit → Bool} {x : Nm} {k : Nat} (hl : left (.string x) = true) : ∀ {l : NL}, SortedN l → atN l x = some k → sumL d (fun z => left z && !z.sameKey (.string x)) l = sumL d left l + (d.getD k []).length := by
  intro l
  induction l with
  | nil => intro _ h; cases h
  | cons q r ih =>
    intro hs h
    obtain ⟨h1, h2⟩ := List.pairwise_cons.1 hs
    rw [sumL_cons, sumL_cons, same_str]
    by_cases e : q.1 = x
    · have ek : q.2 = k := by
        unfold atN at h
        rw [List.find?_cons, show decide (q.1 = x) = true by simpa using e] at h
        simpa using h
      have hr : ∀ p ∈ r, p.1 ≠ x := fun p hp e2 => by
        have := h1 p hp
        rw [e, e2, less_irrefl] at this
        cases this
      rw [sumL_other d left x r hr, ek]
      have q1 : left (.string q.1) = true := by rw [e]; exact hl
      simp [e, hl]
      omega
    · have ha : atN r x = some k := by
        unfold atN at h ⊢
        rw [List.find?_cons, show decide (q.1 = x) = false by simpa using e] at h
        exact h
      rw [ih h2 ha]
      simp [e]
      omega
theorem sumL_le (d : List (List UInt8)) (left : Lit → Bool) (l : NL) : sumL d left l ≤ sumN d l := by
  induction l with
  | nil => exact Nat.le_refl _
  | cons q r ih =>
    rw [sumL_cons]
    have : sumN d (q :: r) = (d.getD q.2 []).length + sumN d r := by unfold sumN; simp
    rw [this]
    split <;> omega
theorem sumN_bound (d : List (List UInt8)) (m : Nat) (h : ∀ i, (d.getD i []).length ≤ m) : ∀ l : NL, sumN d l ≤ l.length * m := by
  intro l
  induction l with
  | nil => exact Nat.zero_le _
  | cons q r ih =>
    have e : sumN d (q :: r) = (d.getD q.2 []).length + sumN d r := by unfold sumN; simp
    rw [e, List.length_cons, Nat.succ_mul]
    have := h q.2
    omega
/-- an element that is there -/
def pel2 (v : Value) : Option (DU × List MemPlace) := match v with
  | .pointer (some ⟨b, 0, none⟩) => some (.lit (.int .i64 (b : Int)), [])
  | _ => none
def ptrV (b : Nat) : Value := .pointer (some ⟨b, 0, none⟩)
theorem pel2_inv {v : Value} {y : DU × List MemPlace} (h : pel2 v = some y) : ∃ b, v = ptrV b := by
  unfold pel2 at h
  split at h
  · exact ⟨_, rfl⟩
  · cases h
theorem tbl_two {W : World} {m : Nat} {fb : Nat → Nat} {l : NL} (h : Tbl W m fb l) : W.ownsMap Tryz.prog 9 pel2 m l.length (dOf fb l) := by
  obtain ⟨es, clock, hb, F, hs, hD⟩ := h
  have hx : ∀ x ∈ es.toList, ∀ z, pel x.val = some z → pel2 x.val = some z := by
    intro x hx z hz
    rcases pel_inv hz with ⟨e1, e2⟩ | ⟨b, e1, e2⟩
    · exfalso
      obtain ⟨y, hy⟩ := F.reads x hx
      obtain ⟨z', hz', hyz⟩ := rd_val hy
      rw [hz] at hz'
      have e3 := Option.some.inj hz'
      have hm : rg Tryz.prog 9 pel x ∈ (es.toList.map (rg Tryz.prog 9 pel)).foldr DataW.insert [] := mem_sorted.2 (List.mem_map_of_mem hx)
      unfold dOf at hD
      rw [← DataW.map.inj hD] at hm
      obtain ⟨p, _, hp⟩ := List.mem_map.1 hm
      rw [rg_of hy] at hp
      have : y.2 = .nil := by rw [hyz, ← e3, e2]
      rw [← hp] at this
      simp at this
    · rw [e1]; rw [e2]; rfl
  have := World.ownsMap_of_fit (R := pel2) hb F hx
  rw [hD]
  exact this.mono hs
set_option maxRecDepth 100000 in
set_option maxHeartbeats 2000000 in
theorem usedC {o : Ow} {g : Nat} {s : Dk} {W : World} (h : Dsk o g s W) (hB : Bd 1000000000 s) :
    Calls Tryz.prog 20 #[.pointer (some ⟨g, 0, none⟩)] W fun e W' => e = .returned (.int .i64 (s.used : Int)) ∧ Below W.heap.size W W' := by
  obtain ⟨m0, m1, m2, pv, fb, cs, v⟩ := h
  obtain ⟨⟨_, _, _, _, _, c5, _⟩, _⟩ := cells_eight v.blk
  have HT := hide' (tbl_two v.seen)
  have V := hide' v
  have HS := hide' v.wf.now.1
  have bnd : s.used ≤ 1000000000000000000 := by
    have h1 := sumN_bound s.data 1000000000 hB.2.2.2.2.2 s.now
    have h2 : s.now.length * 1000000000 ≤ 1000000000 * 1000000000 := Nat.mul_le_mul_right _ hB.2.2.1
    rw [used_sum]
    omega
  have HBN := hide' bnd
  have HB := hide' hB
  clear v hB bnd
  go_enter Tryz.func20, Tryz.ntmps20
  go_wp2_with (at_range; refine wpList_range_own _ rfl _ 104 rfl 9 109 kStr Tryz.underlying104 pel2 m1 s.now.length (dOf fb s.now) rfl HT.out ?_; intro w0 hrg0 hg0 hs0)
  go_frame
  go_loopw [3, 5] (fun u _ wr => ∃ (n : Nat) (left : Lit → Bool) (cnt : Nat), u = .int .i64 n ∧ Hid (n = sumL s.data left s.now) ∧ Hid (wr.ranges Tryz.prog 9 pel2 m1 W.heap.size s.now.length (dOf fb s.now) left cnt) ∧ Hid (Below W.heap.size W wr) ∧ Hid (∀ kl, left kl = true → Maps.has (dOf fb s.now) kl = true))
    (fun _ _ wr => wr.rangeLeft m1 W.heap.size)
  case atStart => exact ⟨0, _, _, rfl, (sumL_start _ _ _).symm, hrg0, ⟨hg0.os, hg0.tape, hg0.output, hg0.size, fun k hk => hg0.block k hk (by simp)⟩, fun _ h => h⟩
  case round =>
    obtain ⟨n, left, cnt, rfl, hn, hrg, hbl, hle⟩ := hrel
    clear hrg0 hg0 hs0
    go_wp2_with (at_next; refine wpList_next_ranges _ rfl _ rfl 9 kStr pel2 encStr ptrV (fun key kl hk => by obtain ⟨x, hx, _⟩ := Maps.keyOf_str Tryz.underlying9 hk; exact ⟨x, hx⟩) (fun v y hv => pel2_inv hv) m1 W.heap.size s.now.length (dOf fb s.now) left cnt rfl hrg.out ?_ ?_)
    · intro _ hl0
      go_wp2_with fail
      go_ret
      refine ⟨?_, hbl.out⟩
      have e1 : n = s.used := by rw [hn.out, sumL_end s.data hl0, used_sum]
      rw [← e1]
      rfl
    · intro x c kl yd yp w1 cnt1 hkey hlk hv hat hrg1 hlt hg1 hs1 hen
      obtain ⟨x', ex, rfl, _⟩ := Maps.keyOf_str Tryz.underlying9 hkey
      obtain rfl : x = x' := encStr_inj ex
      have hh := hle.out _ hlk
      rw [dOf_has] at hh
      obtain ⟨k, ha⟩ := Option.isSome_iff_exists.1 hh
      have hd := hat (.nil)
      rw [dOf_some ha] at hd
      subst hd
      have hc : c = fb k := by
        have h1 : pel2 (ptrV c) = some (.lit (.int .i64 (c : Int)), []) := rfl
        rw [h1] at hv
        simp only [Option.some.injEq, Prod.mk.injEq, DataW.lit.injEq, Lit.int.injEq, true_and] at hv
        omega
      subst hc
      have hk := (V.out.wf.now.2 _ (at_some ha)).1
      obtain ⟨ao, ca, fB, _, fo, _⟩ := file_slice (V.out.files k hk)
      have B1 : Hid (Below W.heap.size W w1) := hbl.out.trans ⟨hg1.os, hg1.tape, hg1.output, hg1.size, fun i hi => hg1.block i (by have := hbl.out.size; omega) (fun e => by have := Option.some.inj e; omega)⟩
      have fB1 := cells_below fB B1.out
      obtain ⟨⟨_, d1, _⟩, _⟩ := cells_3 fB1
      have N1 : Hid (n + (s.data.getD k []).length = sumL s.data (fun z => left z && !z.sameKey (.string x)) s.now) := by
        unfold Hid; rw [sumL_step s.data hlk HS.out ha, hn.out]
      have hle1 := sumL_le s.data (fun z => left z && !z.sameKey (.string x)) s.now
      have hbn : n + (s.data.getD k []).length ≤ 1000000000000000000 := by
        rw [N1.out]
        have := HBN.out
        rw [used_sum] at this
        omega
      have L1 : Hid (∀ kl, (fun z => left z && !z.sameKey (.string x)) kl = true → Maps.has (dOf fb s.now) kl = true) := fun kl h => hle.out kl (by simp only [Bool.and_eq_true] at h; exact h.1)
      have R1 := hide' hrg1
      have R0 := hrg
      have LT := hide' hlt
      generalize (s.data.getD k []).length = len at d1 N1 hbn
      clear hkey hlk hv hat hrg1 hlt hg1 hs1 hn hbl hle hle1 fB fB1 fo ha hk hh ex HT
      unfold ptrV at hen ⊢
      go_wp2_with fail
      go_roundw
      case rel => exact ⟨n + len, _, cnt1, by go_num, N1, R1, B1, L1⟩
      case measure => rw [R1.out.left_eq, R0.out.left_eq]; exact LT.out
end Go.Proofs.YtijnjgnckipghaaGreat
namespace Go.Proofs.YtijnjgnckipghaaGreat
open Go.RowKit Go.Maps
theorem holdsB_off {S : Nat → Prop} {W W' : World} {v : Value} {bs : List UInt8} (h : HoldsB W v bs) (hb : Off S W W') (hS : ∀ ad n c, v = .slice (some ad) n c → ¬ S ad.block) : HoldsB W' v bs := by
  obtain ⟨ao, cap, rfl, h0, hcp, hc⟩ := h
  refine ⟨ao, cap, rfl, h0, hcp, fun hne => ?_⟩
  obtain ⟨b, off, rfl, hlt, hcell⟩ := hc hne
  have hn := hS _ _ _ rfl
  exact ⟨b, off, rfl, Nat.lt_of_lt_of_le hlt hb.size, fun j hj => by rw [World.cell?_of_block (w := W) (a := ⟨b, off + j, none⟩) (hb.block b hlt hn)]; exact hcell j hj⟩
theorem wrap_small (x : Int) (h0 : 0 ≤ x) (h1 : x < 9223372036854775808) : IntKind.i64.wrap x = x := by
  rw [IntKind.wrap_i64]
  omega
/-- a whole list of bytes appended to a row that stands anywhere, and where it lies then -/
theorem appRowC {ops : Array Oper} {rest : List Oper} {o : Oper} {a : Act} {Q : Exit → Act → World → Prop} {wr : World} (hgd : o.guard = none) (s z : Operand)
    (ho : o.op = .call { callee := .builtin .append, args := #[s, z], argTypes := #[67, 67] }) (v : Value) (ps : List UInt8) (hs : a.eval s = v) (hown : wr.ownsRow 0 5 1 v ps.length (ps.map B))
    (u : Value) (qs : List UInt8) (hz : a.eval z = u) (hu : HoldsB wr u qs) (hlen : ps.length + qs.length ≤ 140737488355328)
    (h : ∀ v' w', w'.ownsRow 0 5 1 v' (ps ++ qs).length ((ps ++ qs).map B) → wr.grownBy w' v.ownBlock → (v'.ownBlock = v.ownBlock ∨ v'.ownBlock = some wr.heap.size) → wpList Tryz.prog ops Q rest (a.put o.dst v') w') : wpList Tryz.prog ops Q (o :: rest) a wr := by
  obtain ⟨i0, hi, hz0, hz1, hz2⟩ := info_parts Tryz.info5
  obtain ⟨ao, cap, rfl, h0, hcp, hc⟩ := hu
  have key : ∀ (ad : Addr), ao = some ad → (∀ j x, (qs.map B)[j]? = some x → wr.cell? (ad.add j) = some x) → wpList Tryz.prog ops Q (o :: rest) a wr := by
    intro ad e hnews
    subst e
    refine wpList_append_own_at _ hgd s z 67 ho 0 5 i0 (.int .u8 0) 1 1 Tryz.underlying67 hi hz0 hz1 hz2 rfl (by decide) v ps.length (ps.map B) hs hown ad qs.length cap (qs.map B) hz (by simp) hnews ?_ (by unfold maxLen; omega) (by omega) (Nat.zero_le _) ?_
    · intro u hu; obtain ⟨x, _, rfl⟩ := List.mem_map.1 hu; rfl
    · intro v' w' h1 h2 _ h4
      exact h v' w' (by rw [List.map_append, List.length_append]; exact h1) h2 h4
  by_cases hq : qs = []
  · subst hq
    cases ao with
    | none =>
      obtain rfl := h0 rfl
      refine wpList_append_own_none hgd s z 67 ho 0 5 i0 1 Tryz.underlying67 hi v ps.length (ps.map B) hs hown hz ?_
      exact h v wr (by rw [List.append_nil]; exact hown) ⟨rfl, rfl, rfl, Nat.le_refl _, fun _ _ _ => rfl⟩ (.inl rfl)
    | some ad => exact key ad rfl (fun j x hj => by simp at hj)
  · obtain ⟨b, off, rfl, hlt, hcell⟩ := hc hq
    refine key ⟨b, off, none⟩ rfl (fun j x hj => ?_)
    have e : (⟨b, off, none⟩ : Addr).add j = ⟨b, off + j, none⟩ := Go.WideShapes.add_plain _ _ _
    rw [e]
    obtain ⟨hj1, hj2⟩ := List.getElem?_eq_some_iff.1 hj
    rw [List.length_map] at hj1
    rw [hcell j hj1, ← hj2]
    simp
theorem row_sl {W : World} {base : Nat} {t : TypeId} {v : Value} {n : Nat} {xs : List Value} (h : W.ownsRow base t 1 v n xs) : ∃ ao cap, v = .slice ao n cap := by
  rcases h.2 with ⟨e, hn⟩ | ⟨x, cap, cur, hv, _⟩
  · exact ⟨none, 0, by rw [hn]; exact e⟩
  · exact ⟨_, _, hv⟩
theorem row_slN {W : World} {base : Nat} {t : TypeId} {v : Value} {n : Nat} {xs : List Value} (h : W.ownsRow base t 1 v n xs) : ∃ ao cap N, v = .slice ao N cap ∧ Hid (N = n) := by
  obtain ⟨ao, cap, e⟩ := row_sl h
  exact ⟨ao, cap, n, e, rfl⟩
/-- who owns what, where a row of file k lies at v -/
def Ow.row (o : Ow) (v : Value) (k : Nat) : Ow := match v.ownBlock with | some rb => o.set rb (.row k) | none => o
theorem dkV_app {o : Ow} {g m0 m1 m2 : Nat} {pv : Value} {fb : Nat → Nat} {s : Dk} {cs : List Chg} {W W2 : World} (h : DkV o g m0 m1 m2 pv fb s cs W) (k : Nat) (rv : Value) {x : List UInt8}
    (fB : Blk (fb k) W [.int .i64 (k : Int), rv, .int .i64 ((s.firm.getD k 0 : Nat) : Int)]) (fo : o (fb k) = some (.file k)) (fw : ∀ rb, rv.ownBlock = some rb → o rb = some (.row k))
    (g2 : W.grownBy W2 rv.ownBlock) {v' : Value} (hrow : W2.ownsRow 0 5 1 v' (s.data.getD k [] ++ x).length ((s.data.getD k [] ++ x).map B)) (hat : v'.ownBlock = rv.ownBlock ∨ v'.ownBlock = some W.heap.size)
    (hw : Wf { s with data := s.data.set k (s.data.getD k [] ++ x) }) :
    DkV (o.row v' k) g m0 m1 m2 pv fb { s with data := s.data.set k (s.data.getD k [] ++ x) } cs (W2.setCell ⟨fb k, 1, none⟩ v') ∧ Grow o W (o.row v' k) (W2.setCell ⟨fb k, 1, none⟩ v') := by
  have hob : ∀ rb, v'.ownBlock = some rb → (o rb = some (.row k) ∨ (o rb = none ∧ rb = W.heap.size)) := by
    intro rb e
    rcases hat with h1 | h1
    · exact .inl (fw rb (by rw [← h1]; exact e))
    · rw [h1] at e
      have e2 := Option.some.inj e
      right
      refine ⟨?_, e2.symm⟩
      cases e3 : o rb with
      | none => rfl
      | some r => have := h.lt rb (has_of e3); omega
  have hle : o.le (o.row v' k) := by
    unfold Ow.row
    cases e : v'.ownBlock with
    | none => exact fun _ _ h => h
    | some rb =>
      rcases hob rb e with h1 | h1
      · exact le_set _ (.inr h1)
      · exact le_set _ (.inl h1.1)
  have hnew : ∀ i, (o.row v' k).has i → o.has i ∨ (v'.ownBlock = some i) := by
    intro i hi
    unfold Ow.row at hi
    cases e : v'.ownBlock with
    | none => rw [e] at hi; exact .inl hi
    | some rb =>
      rw [e] at hi
      by_cases hr : i = rb
      · right; rw [hr]
      · left; unfold Ow.has at hi ⊢; simp only at hi; rw [set_other _ _ hr] at hi; exact hi
  have s1 : Same o (fun r => r ≠ .row k) W W2 := ⟨g2.size, fun i r e hr => g2.block i (h.lt i (has_of e)) (fun e2 => by rw [fw i e2.symm] at e; exact hr (Option.some.inj e).symm)⟩
  have s2 : Same o (fun r => r ≠ .file k) W2 (W2.setCell ⟨fb k, 1, none⟩ v') := same_poke fo _
  have s12 : Same o (fun r => r ≠ .file k ∧ r ≠ .row k) W (W2.setCell ⟨fb k, 1, none⟩ v') := (s1.mono (fun _ h => h.2)).trans (s2.mono (fun _ h => h.1))
  have fB2 := cells_set (blk_same fB s1 fo (by simp)) (j := 1) (by simp) v'
  have ez : (W2.setCell ⟨fb k, 1, none⟩ v').heap.size = W2.heap.size := by simp [World.setCell]
  have row' : (W2.setCell ⟨fb k, 1, none⟩ v').ownsRow 0 5 1 v' (s.data.getD k [] ++ x).length ((s.data.getD k [] ++ x).map B) := by
    refine row_same (o := o.row v' k) (r := .row k) hrow (same_poke (hle _ _ fo) _) (fun rb e => ?_) (by simp)
    unfold Ow.row
    rw [e]
    exact set_same _ _ _
  have hfile : FileAt (o.row v' k) (W2.setCell ⟨fb k, 1, none⟩ v') (fb k) k (s.data.getD k [] ++ x) (s.firm.getD k 0) := ⟨v', fB2, row', hle _ _ fo, fun rb e => by unfold Ow.row; rw [e]; exact set_same _ _ _⟩
  have hlt : ∀ i, (o.row v' k).has i → i < (W2.setCell ⟨fb k, 1, none⟩ v').heap.size := by
    intro i hi
    rw [ez]
    rcases hnew i hi with h1 | h1
    · exact Nat.lt_of_lt_of_le (h.lt i h1) g2.size
    · exact (hrow.lt i h1).2
  have q := dkV_file h k hle s12 hfile hlt (by rw [set_selfN]; exact hw)
  rw [set_selfN] at q
  refine ⟨q, ?_, hle, fun i hi => ?_⟩
  · exact Off.trans (off_grown (S := o.has) g2 (fun i e => has_of (fw i e))) (off_poke (S := o.has) _ (has_of fo) _) (fun i hi => .inl hi)
  · rcases hnew i hi with h1 | h1
    · exact .inl h1
    · rcases hob i h1 with h2 | h2
      · exact .inl (has_of h2)
      · right; omega
theorem app_spec (s : Dk) (nm to : Nm) (d : List UInt8) (h : stepE s [nm] = 0) : (atN s.now nm = none → s.step ⟨2, nm, to, d⟩ = (cntS s, 90)) ∧ ∀ k, atN s.now nm = some k → ((d ≠ [] ∧ s.room < ((s.used + d.length : Nat) : Int)) → s.step ⟨2, nm, to, d⟩ = (cntS s, 92)) ∧ (¬ (d ≠ [] ∧ s.room < ((s.used + d.length : Nat) : Int)) → s.step ⟨2, nm, to, d⟩ = ({ cntS s with data := s.data.set k (s.data.getD k [] ++ d) }, 0)) := by
  obtain ⟨h1, h2⟩ := step_z s ⟨2, nm, to, d⟩ h
  refine ⟨fun e => ?_, fun k e => ⟨fun hc => ?_, fun hc => ?_⟩⟩
  · rw [h2, e, h1]; rfl
  · rw [h2, e, h1]
    show (if d ≠ [] ∧ s.room < ((s.used + d.length : Nat) : Int) then (({ s with n := s.n + 1 } : Dk), (92 : Int)) else ({ s with n := s.n + 1, data := s.data.set k (s.data.getD k [] ++ d) }, 0)) = _
    rw [if_pos hc]
  · rw [h2, e, h1]
    show (if d ≠ [] ∧ s.room < ((s.used + d.length : Nat) : Int) then (({ s with n := s.n + 1 } : Dk), (92 : Int)) else ({ s with n := s.n + 1, data := s.data.set k (s.data.getD k [] ++ d) }, 0)) = _
    rw [if_neg hc]
theorem cnt_data (s : Dk) : (cntS s).data = s.data := by unfold cntS; split <;> rfl
theorem cnt_firm (s : Dk) : (cntS s).firm = s.firm := by unfold cntS; split <;> rfl
theorem cnt_room (s : Dk) : (cntS s).room = s.room := by unfold cntS; split <;> rfl
theorem cnt_used (s : Dk) : (cntS s).used = s.used := by unfold cntS; split <;> rfl
set_option maxRecDepth 20000 in
set_option maxHeartbeats 4000000 in
theorem appendC {o : Ow} {g : Nat} {s : Dk} {W : World} (h : Dsk o g s W) (nm : ByteArray) (to : Nm) (dv : Value) (d : List UInt8) (hs : nm.size ≤ 140737488351232) (hB : Bd 900000000 s) (hd : HoldsB W dv d) (hdl : d.length ≤ 1000000000) (hav : ∀ ad n c, dv = .slice (some ad) n c → o ad.block = none) :
    Calls Tryz.prog 50 #[.pointer (some ⟨g, 0, none⟩), .string nm, dv] W fun e W' => StepPost o g s ⟨2, nm.data.toList, to, d⟩ W e W' := by
  obtain ⟨m0, m1, m2, pv, fb, cs, v⟩ := h
  have CO := hide' (stepOnC v W (.slice none 0 0) [] (ownS_nil W W (Below.refl _ _)) v.lt nm hs (fun n hn => by cases hn) (by simp) (by have := hB.1; omega))
  have V := hide' v
  by_cases hE : stepE s [nm.data.toList] = 0
  · obtain ⟨sp1, sp2⟩ := app_spec s nm.data.toList to d hE
    cases ha : atN s.now nm.data.toList with
    | none =>
      have R : Hid (onV fb s.now nm.data.toList (stepE s ([] ++ [nm.data.toList])) = .tuple #[.pointer none, .int .i64 90]) := by
        unfold Hid onV; rw [List.nil_append, hE, if_neg (by decide)]; unfold findV; rw [ha]
      rw [R.out] at CO
      have SP := hide' (sp1 ha)
      clear v ha hE sp1 sp2 hd hav
      go_enter Tryz.func50, Tryz.ntmps50
      go_wp2_with (go_at_call 87; refine CO.out.mono ?_; rintro e w1 ⟨rfl, h1, h2⟩; have H1 := hide' h1; have H2 := hide' h2; clear h1 h2)
      go_ret
      exact ⟨by rw [SP.out]; rfl, o, by rw [SP.out]; exact ⟨_, _, _, _, _, _, H1.out⟩, grow_g (off_low H2.out (Nat.le_refl _)) V.out.og⟩
    | some k =>
      have R : Hid (onV fb s.now nm.data.toList (stepE s ([] ++ [nm.data.toList])) = .tuple #[.pointer (some ⟨fb k, 0, none⟩), .int .i64 0]) := by
        unfold Hid onV; rw [List.nil_append, hE, if_neg (by decide)]; unfold findV; rw [ha]
      rw [R.out] at CO
      obtain ⟨spF, spO⟩ := sp2 k ha
      have SF := hide' spF
      have SO := hide' spO
      have hwf := wf_step v.wf ⟨2, nm.data.toList, to, d⟩
      have HW := hide' hwf
      have HK := hide' (v.wf.now.2 _ (at_some ha)).1
      have HD := hide' hd
      have HAV := hide' hav
      have HBD := hide' hB
      have hbu : s.used ≤ 1000000000000000000 := by
        have h1 := sumN_bound s.data 900000000 hB.2.2.2.2.2 s.now
        have h2 : s.now.length * 900000000 ≤ 900000000 * 900000000 := Nat.mul_le_mul_right _ hB.2.2.1
        rw [used_sum]
        omega
      have hrm := v.rm
      obtain ⟨da, dc, hdv, hjunk⟩ := id hd
      clear hjunk
      subst hdv
      clear v ha hE sp1 sp2 hd hav hwf spF spO hB
      go_enter Tryz.func50, Tryz.ntmps50
      go_wp2_with fail
      refine CO.out.mono ?_
      rintro e w1 ⟨rfl, h1, h2⟩
      have H1 := hide' h1
      have H2 := hide' (off_low h2 (Nat.le_refl _))
      have HD1 := hide' (holdsB_off HD.out H2.out (fun ad n c e => by
        have h3 := HAV.out ad n c e
        intro h4
        rw [h4, V.out.og] at h3
        cases h3))
      have c0 := (cells_eight h1.blk).1.1
      rw [cnt_room] at c0
      have CU : Hid (∀ W2, Below w1.heap.size w1 W2 → Calls Tryz.prog 20 #[.pointer (some ⟨g, 0, none⟩)] W2 fun e w' => e = .returned (.int .i64 (s.used : Int)) ∧ Hid (Below w1.heap.size w1 w') ∧ w'.cell? ⟨g, 0, none⟩ = some (.int .i64 s.room)) := by
        intro W2 hb
        refine (usedC (dsk_below ⟨_, _, _, _, _, _, H1.out⟩ hb) (bd_mono (bd_cnt HBD.out) (by omega))).mono ?_
        rintro e w' ⟨rfl, hb'⟩
        refine ⟨by rw [cnt_used], hb.trans (hb'.mono hb.size), ?_⟩
        obtain ⟨⟨k0, _⟩, _⟩ := cells_eight (cells_below H1.out.blk (hb.trans (hb'.mono hb.size)))
        rw [cnt_room] at k0
        exact k0
      have fa := h1.files k (by rw [cnt_data]; exact HK.out)
      rw [cnt_data, cnt_firm] at fa
      obtain ⟨ao, ca, fB, fR, fo, fw⟩ := file_slice fa
      have FB := hide' fB
      have FR := hide' fR
      have FO := hide' fo
      have FW := hide' fw
      have dlb := HBD.out.2.2.2.2.2 k
      have DLB := hide' dlb
      -- the end, whatever world the test has left
      have FIN : Hid (¬ (d ≠ [] ∧ s.room < ((s.used + d.length : Nat) : Int)) → ∀ w2 w3 v', Below w1.heap.size w1 w2 → w2.grownBy w3 (Value.slice ao (s.data.getD k []).length ca).ownBlock → w3.ownsRow 0 5 1 v' (s.data.getD k [] ++ d).length ((s.data.getD k [] ++ d).map B) → (v'.ownBlock = (Value.slice ao (s.data.getD k []).length ca).ownBlock ∨ v'.ownBlock = some w2.heap.size) →
          StepPost o g s ⟨2, nm.data.toList, to, d⟩ W (.returned (.int .i64 0)) (w3.setCell ⟨fb k, 1, none⟩ v')) := by
        intro hc w2 w3 v' hb hg hr hat
        have SP := SO.out hc
        have hw := HW.out
        rw [SP] at hw
        have V2 := dkV_below H1.out hb
        have q := dkV_app (x := d) V2 k (.slice ao (s.data.getD k []).length ca) (by rw [cnt_firm]; exact cells_below FB.out hb) FO.out FW.out hg (by rw [cnt_data]; exact hr) hat (by rw [cnt_data]; exact hw)
        rw [cnt_data] at q
        refine ⟨by rw [SP], o.row v' k, by rw [SP]; exact ⟨_, _, _, _, _, _, q.1⟩, ?_⟩
        exact (grow_g H2.out V.out.og).trans ((grow_below hb).trans q.2)
      have LOOK : Hid (∀ w2, Below w1.heap.size w1 w2 → (w2.cell? ⟨fb k, 1, none⟩ = some (.slice ao (s.data.getD k []).length ca) ∧ w2.frozen? ⟨fb k, 1, none⟩ = false) ∧ w2.ownsRow 0 5 1 (.slice ao (s.data.getD k []).length ca) (s.data.getD k []).length ((s.data.getD k []).map B) ∧ HoldsB w2 (.slice da d.length dc) d) := by
        intro w2 hb
        obtain ⟨⟨_, k1, _⟩, ⟨_, j1, _⟩⟩ := cells_3 (cells_below FB.out hb)
        exact ⟨⟨k1, j1⟩, row_below FR.out hb, holdsB_mono HD1.out hb⟩
      have LST : Hid (∀ w2 w3 : World, Below w1.heap.size w1 w2 → w2.grownBy w3 (Value.slice ao (s.data.getD k []).length ca).ownBlock → w3.cell? ⟨fb k, 1, none⟩ = some (.slice ao (s.data.getD k []).length ca) ∧ w3.frozen? ⟨fb k, 1, none⟩ = false) := by
        intro w2 w3 hb hg
        have hlt : fb k < w2.heap.size := Nat.lt_of_lt_of_le (FB.out.2) hb.size
        have hne : some (fb k) ≠ (Value.slice ao (s.data.getD k []).length ca).ownBlock := fun e => by have h3 := FW.out (fb k) e.symm; rw [FO.out] at h3; cases h3
        obtain ⟨⟨k1, j1⟩, _⟩ := LOOK.out w2 hb
        exact ⟨by rw [World.cell?_of_block (w := w2) (a := ⟨fb k, 1, none⟩) (hg.block _ hlt hne)]; exact k1, by rw [World.frozen?_of_block (w := w2) (a := ⟨fb k, 1, none⟩) (hg.block _ hlt hne)]; exact j1⟩
      clear h1 h2 fa fB fR fo fw
      by_cases hd0 : d = []
      · have HC : Hid (¬ (d ≠ [] ∧ s.room < ((s.used + d.length : Nat) : Int))) := fun h => h.1 hd0
        have e0 : d.length = 0 := by rw [hd0]; rfl
        generalize hdl2 : d.length = L at e0 hdl ⊢
        subst e0
        have HL := hide' hdl2
        rw [HL.out] at LOOK
        clear hd0 hdl2
        go_wp2_with fail
        go_quiet (fail)
        have BW := hide' (below_drewN w1 nq)
        have LK := hide' (LOOK.out _ BW.out)
        obtain ⟨⟨l1, l2⟩, _⟩ := LK.out
        go_wp2_with (at_builtin; refine appRowC rfl (.tmp 37) (.tmp 38) rfl _ (s.data.getD k []) rfl LK.out.2.1 _ d rfl LK.out.2.2 (by have h5 := DLB.out; have h6 := HL.out; omega) ?_; intro v' w3 h1 h2 h3; obtain ⟨xa, xc, N, rfl, HN⟩ := row_slN h1; obtain ⟨m1', m2'⟩ := LST.out _ _ BW.out h2; have P1 := hide' h1; have P2 := hide' h2; have P3 := hide' h3; clear h1 h2 h3)
        go_ret
        exact FIN.out HC.out _ _ _ BW.out P2.out P1.out P3.out
      · have hpos : 0 < d.length := List.length_pos_iff.2 hd0
        by_cases hfull : s.room < (s.used : Int) + (d.length : Int)
        · have SP := hide' (SF.out ⟨hd0, by rw [Int.natCast_add]; exact hfull⟩)
          have q1 : decide (s.room < (s.used : Int) + (d.length : Int)) = true := by simpa using hfull
          generalize hdl2 : d.length = L at hpos hfull q1 hdl ⊢
          clear hdl2 hd0 hfull FIN LOOK LST
          generalize s.used = U at hbu CU q1 ⊢
          generalize s.room = Rm at hrm c0 CU q1 ⊢
          have qw : IntKind.i64.wrap ((U : Int) + (L : Int)) = (U : Int) + (L : Int) := wrap_small _ (by omega) (by omega)
          go_wp2_with fail
          go_region_held3 (fun w' => w'.cell? ⟨g, 0, none⟩ = some (.int .i64 Rm)) (go_keep)
            (first | (go_at_call 20; refine (CU.out _ ?_).mono ?_; (first | exact (Below.refl _ _).drew | exact Below.refl _ _); rintro e w2 ⟨rfl, B2, k0⟩))
          all_goals
            go_wp2_with fail
            go_ret
            exact ⟨by rw [SP.out]; rfl, o, by rw [SP.out]; exact ⟨_, _, _, _, _, _, dkV_below H1.out (by first | exact B2.out | exact B2.out.drew)⟩, (grow_g H2.out V.out.og).trans (grow_below (by first | exact B2.out | exact B2.out.drew))⟩
        · have HC : Hid (¬ (d ≠ [] ∧ s.room < ((s.used + d.length : Nat) : Int))) := fun h => hfull (by have := h.2; rw [Int.natCast_add] at this; exact this)
          have q1 : decide (s.room < (s.used : Int) + (d.length : Int)) = false := by simpa using hfull
          generalize hdl2 : d.length = L at hpos hfull q1 hdl ⊢
          have HL := hide' hdl2
          rw [HL.out] at LOOK
          clear hdl2 hd0 hfull
          generalize hU : s.used = U at hbu CU q1
          generalize hR : s.room = Rm at hrm c0 CU q1
          clear hU hR
          have qw : IntKind.i64.wrap ((U : Int) + (L : Int)) = (U : Int) + (L : Int) := wrap_small _ (by omega) (by omega)
          go_wp2_with fail
          go_region_held3 (fun w' => w'.cell? ⟨g, 0, none⟩ = some (.int .i64 Rm)) (go_keep)
            (first | (go_at_call 20; refine (CU.out _ ?_).mono ?_; (first | exact (Below.refl _ _).drew | exact Below.refl _ _); rintro e w2 ⟨rfl, B2, k0⟩))
          all_goals
            have BW := B2
            have LK := hide' (LOOK.out _ BW.out)
            obtain ⟨⟨l1, l2⟩, _⟩ := LK.out
            go_wp2_with (at_builtin; refine appRowC rfl (.tmp 37) (.tmp 38) rfl _ (s.data.getD k []) rfl LK.out.2.1 _ d rfl LK.out.2.2 (by have h5 := DLB.out; have h6 := HL.out; omega) ?_; intro v' w3 h1 h2 h3; obtain ⟨xa, xc, N, rfl, HN⟩ := row_slN h1; obtain ⟨m1', m2'⟩ := LST.out _ _ BW.out h2; have P1 := hide' h1; have P2 := hide' h2; have P3 := hide' h3; clear h1 h2 h3)
            go_ret
            exact FIN.out HC.out _ _ _ BW.out P2.out P1.out P3.out
  · have R : Hid (onV fb s.now nm.data.toList (stepE s ([] ++ [nm.data.toList])) = .tuple #[.pointer none, .int .i64 (stepE s [nm.data.toList])]) := by
      unfold Hid onV; rw [List.nil_append, if_pos hE]
    have SP : Hid (s.step ⟨2, nm.data.toList, to, d⟩ = (cntS s, stepE s [nm.data.toList])) := step_e s ⟨2, nm.data.toList, to, d⟩ hE
    rw [R.out] at CO
    generalize stepE s [nm.data.toList] = E at hE CO SP
    have q : (E != 0) = true := by simpa using hE
    clear v hE hd hav
    go_enter Tryz.func50, Tryz.ntmps50
    go_wp2_with (go_at_call 87; refine CO.out.mono ?_; rintro e w1 ⟨rfl, h1, h2⟩; have H1 := hide' h1; have H2 := hide' h2; clear h1 h2)
    go_ret
    exact ⟨by rw [SP.out]; rfl, o, by rw [SP.out]; exact ⟨_, _, _, _, _, _, H1.out⟩, grow_g (off_low H2.out (Nat.le_refl _)) V.out.og⟩
end Go.Proofs.YtijnjgnckipghaaGreat
