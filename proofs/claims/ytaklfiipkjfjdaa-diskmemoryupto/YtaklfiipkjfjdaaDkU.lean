/- The contract of Used: the bytes of all files that have a name, in whatever order the table is gone through. -/
import Derived.Test.YtaklfiipkjfjdaaDkO
import Derived.Maps.RangeWalk
namespace Go.Proofs.Ytaklfiipkjfjdaa
open Go.RowKit Go.Maps
open Go.WideElems (Fit rd rg pl rd_val rg_of)
/-- the bytes of those that are no longer to come -/
def sumL (d : List (List UInt8)) (left : Lit → Bool) (l : NL) : Nat := ((l.filter (fun p => !left (.string p.1))).map (fun p => (d.getD p.2 []).length)).sum
theorem sumL_cons (d : List (List UInt8)) (left : Lit → Bool) (q : Nm × Nat) (r : NL) : sumL d left (q :: r) = (if left (.string q.1) = true then 0 else (d.getD q.2 []).length) + sumL d left r := by
  unfold sumL
  rw [List.filter_cons]
  cases left (.string q.1) <;> simp
theorem sumL_start (d : List (List UInt8)) (fb : Nat → Nat) (l : NL) : sumL d (Maps.has (dOf fb l)) l = 0 := by
  unfold sumL
  have : l.filter (fun p => !Maps.has (dOf fb l) (.string p.1)) = [] := by
    rw [List.filter_eq_nil_iff]
    intro p hp
    rw [dOf_has]
    cases e : atN l p.1 with
    | none => exact absurd rfl (at_none e p hp)
    | some k => simp
  rw [this]
  rfl
theorem sumL_end (d : List (List UInt8)) {left : Lit → Bool} (h : ∀ kl, left kl = false) (l : NL) : sumL d left l = sumN d l := by
  unfold sumL sumN
  rw [List.filter_eq_self.2 (fun p _ => by rw [h]; rfl)]
theorem sumL_other (d : List (List UInt8)) (left : Lit → Bool) (x : Nm) : ∀ (l : NL), (∀ p ∈ l, p.1 ≠ x) → sumL d (fun z => left z && !z.sameKey (.string x)) l = sumL d left l := by
  intro l
  induction l with
  | nil => intro _; rfl
  | cons q r ih =>
    intro h
    rw [sumL_cons, sumL_cons, ih (fun p hp => h p (List.mem_cons_of_mem _ hp)), same_str]
    have : q.1 ≠ x := h q (List.mem_cons_self ..)
    simp [this]
theorem sumL_step (d : List (List UInt8)) {left : Lit → Bool} {x : Nm} {k : Nat} (hl : left (.string x) = true) : ∀ {l : NL}, SortedN l → atN l x = some k → sumL d (fun z => left z && !z.sameKey (.string x)) l = sumL d left l + (d.getD k []).length := by
  intro l
  induction l with
  | nil => intro _ h; cases h
  | cons q r ih =>
    intro hs h
    obtain ⟨h1, h2⟩ := List.pairwise_cons.1 hs
    rw [sumL_cons, sumL_cons, same_str]
    by_cases e : q.1 = x
    · have ek : q.2 = k := by
        unfold atN at h
        rw [List.find?_cons, show decide (q.1 = x) = true by simpa using e] at h
        simpa using h
      have hr : ∀ p ∈ r, p.1 ≠ x := fun p hp e2 => by
        have := h1 p hp
        rw [e, e2, less_irrefl] at this
        cases this
      rw [sumL_other d left x r hr, ek]
      have q1 : left (.string q.1) = true := by rw [e]; exact hl
      simp [e, hl]
      omega
    · have ha : atN r x = some k := by
        unfold atN at h ⊢
        rw [List.find?_cons, show decide (q.1 = x) = false by simpa using e] at h
        exact h
      rw [ih h2 ha]
      simp [e]
      omega
theorem sumL_le (d : List (List UInt8)) (left : Lit → Bool) (l : NL) : sumL d left l ≤ sumN d l := by
  induction l with
  | nil => exact Nat.le_refl _
  | cons q r ih =>
    rw [sumL_cons]
    have : sumN d (q :: r) = (d.getD q.2 []).length + sumN d r := by unfold sumN; simp
    rw [this]
    split <;> omega
theorem sumN_bound (d : List (List UInt8)) (m : Nat) (h : ∀ i, (d.getD i []).length ≤ m) : ∀ l : NL, sumN d l ≤ l.length * m := by
  intro l
  induction l with
  | nil => exact Nat.zero_le _
  | cons q r ih =>
    have e : sumN d (q :: r) = (d.getD q.2 []).length + sumN d r := by unfold sumN; simp
    rw [e, List.length_cons, Nat.succ_mul]
    have := h q.2
    omega
/-- an element that is there -/
def pel2 (v : Value) : Option (DU × List MemPlace) := match v with
  | .pointer (some ⟨b, 0, none⟩) => some (.lit (.int .i64 (b : Int)), [])
  | _ => none
def ptrV (b : Nat) : Value := .pointer (some ⟨b, 0, none⟩)
theorem pel2_inv {v : Value} {y : DU × List MemPlace} (h : pel2 v = some y) : ∃ b, v = ptrV b := by
  unfold pel2 at h
  split at h
  · exact ⟨_, rfl⟩
  · cases h
theorem tbl_two {W : World} {m : Nat} {fb : Nat → Nat} {l : NL} (h : Tbl W m fb l) : W.ownsMap Try.prog 9 pel2 m l.length (dOf fb l) := by
  obtain ⟨es, clock, hb, F, hs, hD⟩ := h
  have hx : ∀ x ∈ es.toList, ∀ z, pel x.val = some z → pel2 x.val = some z := by
    intro x hx z hz
    rcases pel_inv hz with ⟨e1, e2⟩ | ⟨b, e1, e2⟩
    · exfalso
      obtain ⟨y, hy⟩ := F.reads x hx
      obtain ⟨z', hz', hyz⟩ := rd_val hy
      rw [hz] at hz'
      have e3 := Option.some.inj hz'
      have hm : rg Try.prog 9 pel x ∈ (es.toList.map (rg Try.prog 9 pel)).foldr DataW.insert [] := mem_sorted.2 (List.mem_map_of_mem hx)
      unfold dOf at hD
      rw [← DataW.map.inj hD] at hm
      obtain ⟨p, _, hp⟩ := List.mem_map.1 hm
      rw [rg_of hy] at hp
      have : y.2 = .nil := by rw [hyz, ← e3, e2]
      rw [← hp] at this
      simp at this
    · rw [e1]; rw [e2]; rfl
  have := World.ownsMap_of_fit (R := pel2) hb F hx
  rw [hD]
  exact this.mono hs
set_option maxRecDepth 100000 in
set_option maxHeartbeats 2000000 in
theorem usedC {o : Ow} {g : Nat} {s : Dk} {W : World} (h : Dsk o g s W) (hB : Bd 1000000000 s) :
    Calls Try.prog 33 #[.pointer (some ⟨g, 0, none⟩)] W fun e W' => e = .returned (.int .i64 (s.used : Int)) ∧ Below W.heap.size W W' := by
  obtain ⟨m0, m1, m2, pv, fb, cs, v⟩ := h
  obtain ⟨⟨_, _, _, _, _, c5, _⟩, _⟩ := cells_eight v.blk
  have HT := hide' (tbl_two v.seen)
  have V := hide' v
  have HS := hide' v.wf.now.1
  have bnd : s.used ≤ 1000000000000000000 := by
    have h1 := sumN_bound s.data 1000000000 hB.2.2.2.2.2 s.now
    have h2 : s.now.length * 1000000000 ≤ 1000000000 * 1000000000 := Nat.mul_le_mul_right _ hB.2.2.1
    rw [used_sum]
    omega
  have HBN := hide' bnd
  have HB := hide' hB
  clear v hB bnd
  go_enter Try.func33, Try.ntmps33
  go_wp2_with (at_range; refine wpList_range_own _ rfl _ 67 rfl 9 72 kStr Try.underlying67 pel2 m1 s.now.length (dOf fb s.now) rfl HT.out ?_; intro w0 hrg0 hg0 hs0)
  go_frame
  go_loopw [3, 5] (fun u _ wr => ∃ (n : Nat) (left : Lit → Bool) (cnt : Nat), u = .int .i64 n ∧ Hid (n = sumL s.data left s.now) ∧ Hid (wr.ranges Try.prog 9 pel2 m1 W.heap.size s.now.length (dOf fb s.now) left cnt) ∧ Hid (Below W.heap.size W wr) ∧ Hid (∀ kl, left kl = true → Maps.has (dOf fb s.now) kl = true))
    (fun _ _ wr => wr.rangeLeft m1 W.heap.size)
  case atStart => exact ⟨0, _, _, rfl, (sumL_start _ _ _).symm, hrg0, ⟨hg0.os, hg0.tape, hg0.output, hg0.size, fun k hk => hg0.block k hk (by simp)⟩, fun _ h => h⟩
  case round =>
    obtain ⟨n, left, cnt, rfl, hn, hrg, hbl, hle⟩ := hrel
    clear hrg0 hg0 hs0
    go_wp2_with (at_next; refine wpList_next_ranges _ rfl _ rfl 9 kStr pel2 encStr ptrV (fun key kl hk => by obtain ⟨x, hx, _⟩ := Maps.keyOf_str Try.underlying9 hk; exact ⟨x, hx⟩) (fun v y hv => pel2_inv hv) m1 W.heap.size s.now.length (dOf fb s.now) left cnt rfl hrg.out ?_ ?_)
    · intro _ hl0
      go_wp2_with fail
      go_ret
      refine ⟨?_, hbl.out⟩
      have e1 : n = s.used := by rw [hn.out, sumL_end s.data hl0, used_sum]
      rw [← e1]
      rfl
    · intro x c kl yd yp w1 cnt1 hkey hlk hv hat hrg1 hlt hg1 hs1 hen
      obtain ⟨x', ex, rfl, _⟩ := Maps.keyOf_str Try.underlying9 hkey
      obtain rfl : x = x' := encStr_inj ex
      have hh := hle.out _ hlk
      rw [dOf_has] at hh
      obtain ⟨k, ha⟩ := Option.isSome_iff_exists.1 hh
      have hd := hat (.nil)
      rw [dOf_some ha] at hd
      subst hd
      have hc : c = fb k := by
        have h1 : pel2 (ptrV c) = some (.lit (.int .i64 (c : Int)), []) := rfl
        rw [h1] at hv
        simp only [Option.some.injEq, Prod.mk.injEq, DataW.lit.injEq, Lit.int.injEq, true_and] at hv
        omega
      subst hc
      have hk := (V.out.wf.now.2 _ (at_some ha)).1
      obtain ⟨ao, ca, fB, _, fo, _⟩ := file_slice (V.out.files k hk)
      have B1 : Hid (Below W.heap.size W w1) := hbl.out.trans ⟨hg1.os, hg1.tape, hg1.output, hg1.size, fun i hi => hg1.block i (by have := hbl.out.size; omega) (fun e => by have := Option.some.inj e; omega)⟩
      have fB1 := cells_below fB B1.out
      obtain ⟨⟨_, d1, _⟩, _⟩ := cells_3 fB1
      have N1 : Hid (n + (s.data.getD k []).length = sumL s.data (fun z => left z && !z.sameKey (.string x)) s.now) := by
        unfold Hid; rw [sumL_step s.data hlk HS.out ha, hn.out]
      have hle1 := sumL_le s.data (fun z => left z && !z.sameKey (.string x)) s.now
      have hbn : n + (s.data.getD k []).length ≤ 1000000000000000000 := by
        rw [N1.out]
        have := HBN.out
        rw [used_sum] at this
        omega
      have L1 : Hid (∀ kl, (fun z => left z && !z.sameKey (.string x)) kl = true → Maps.has (dOf fb s.now) kl = true) := fun kl h => hle.out kl (by simp only [Bool.and_eq_true] at h; exact h.1)
      have R1 := hide' hrg1
      have R0 := hrg
      have LT := hide' hlt
      generalize (s.data.getD k []).length = len at d1 N1 hbn
      clear hkey hlk hv hat hrg1 hlt hg1 hs1 hn hbl hle hle1 fB fB1 fo ha hk hh ex HT
      unfold ptrV at hen ⊢
      go_wp2_with fail
      go_roundw
      case rel => exact ⟨n + len, _, cnt1, by go_num, N1, R1, B1, L1⟩
      case measure => rw [R1.out.left_eq, R0.out.left_eq]; exact LT.out
end Go.Proofs.Ytaklfiipkjfjdaa
