/- A slice whose elements are these bytes. A whole list of bytes appended; the contracts of CopyBytes and SameBytes. A part of a list of bytes as a value; such a list as a text. The contract of bytes.Clone. The contract of Spare; a part of what is owned. Copies of requests and responses; two that are alike are told as such. -/
import Derived.Test.YtipcmbonhkelbabGreatDoorOwnB
import Derived.Test.YtipcmbonhkelbabGreatDoorBk
import Derived.Laws.AppendOwnNone
import Derived.WideShapes
import Derived.Lib.SliceRun
import Derived.Test.YtipcmbonhkelbabGreatDoorBm
namespace Go.Proofs.YtipcmbonhkelbabGreatDoor
open Go.RowKit
/-- v is a slice whose elements are the bytes bs -/
def HoldsB (w : World) (v : Value) (bs : List UInt8) : Prop :=
  ∃ ao cap, v = .slice ao bs.length cap ∧ (ao = none → cap = 0) ∧ bs.length ≤ cap ∧ (bs ≠ [] → ∃ b off, ao = some ⟨b, off, none⟩ ∧ b < w.heap.size ∧ ∀ j (h : j < bs.length), w.cell? ⟨b, off + j, none⟩ = some (B bs[j]))
theorem holdsB_own {w0 w : World} {v : Value} {bs : List UInt8} (h : Own w0 v bs w) : HoldsB w v bs := by
  obtain ⟨hl, h1 | ⟨g, cap, cur, rfl, hg, hh, hr⟩⟩ := h.1
  · obtain ⟨rfl, hn⟩ := h1
    obtain rfl : bs = [] := List.eq_nil_of_length_eq_zero hn
    exact ⟨none, 0, rfl, fun _ => rfl, Nat.le_refl _, fun h => absurd rfl h⟩
  · refine ⟨_, cap, rfl, fun e => (by cases e), hr.1, fun _ => ⟨g, 0, rfl, (h.1.lt g rfl).2, fun j hj => ?_⟩⟩
    rw [Nat.zero_add, h.1.cellAt j (by omega)]
    simp [hj]
theorem holdsB_mono {w w' : World} {v : Value} {bs : List UInt8} (h : HoldsB w v bs) (hb : Below w.heap.size w w') : HoldsB w' v bs := by
  obtain ⟨ao, cap, rfl, h0, hcp, hc⟩ := h
  refine ⟨ao, cap, rfl, h0, hcp, fun hne => ?_⟩
  obtain ⟨b, off, rfl, hlt, hcell⟩ := hc hne
  have := hb.size
  exact ⟨b, off, rfl, by omega, fun j hj => by rw [hb.cell (p := ⟨b, off + j, none⟩) hlt]; exact hcell j hj⟩
theorem holdsB_pre {w : World} {ao : Option Addr} {cap : Nat} {bs : List UInt8} (h : HoldsB w (.slice ao bs.length cap) bs) (i : Nat) (hi : i ≤ bs.length) : HoldsB w (.slice ao i cap) (bs.take i) := by
  obtain ⟨ao', cap', e, h0, hcp, hc⟩ := h
  simp only [Value.slice.injEq] at e
  obtain ⟨rfl, _, rfl⟩ := e
  have hl : (bs.take i).length = i := by rw [List.length_take]; omega
  refine ⟨ao, cap, by rw [hl], h0, by omega, fun hne => ?_⟩
  obtain ⟨b, off, rfl, hlt, hcell⟩ := hc (fun e => hne (by rw [e]; simp))
  exact ⟨b, off, rfl, hlt, fun j hj => by rw [hcell j (by omega)]; simp⟩
theorem holdsB_parts {w : World} {v : Value} {bs : List UInt8} (h : HoldsB w v bs) : ∃ (ao : Option Addr) (cap : Nat), v = .slice ao bs.length cap ∧ bs.length ≤ cap := by
  obtain ⟨ao, cap, e, _, hc, _⟩ := h
  exact ⟨ao, cap, e, hc⟩
end Go.Proofs.YtipcmbonhkelbabGreatDoor
namespace Go.Proofs.YtipcmbonhkelbabGreatDoor
open Go.RowKit
/-- a whole list of bytes appended -/
theorem appAllB {ops : Array Oper} {rest : List Oper} {o : Oper} {a : Act} {Q : Exit → Act → World → Prop} {wr : World} (hgd : o.guard = none) (s z : Operand)
    (ho : o.op = .call { callee := .builtin .append, args := #[s, z], argTypes := #[25, 25] }) (w0 : World) (v : Value) (ps : List UInt8) (hs : a.eval s = v) (hown : Own w0 v ps wr)
    (u : Value) (qs : List UInt8) (hz : a.eval z = u) (hu : HoldsB wr u qs) (hlen : ps.length + qs.length ≤ 140737488355328)
    (h : ∀ v' w', Own w0 v' (ps ++ qs) w' → wpList Tryz.prog ops Q rest (a.put o.dst v') w') : wpList Tryz.prog ops Q (o :: rest) a wr := by
  obtain ⟨i0, hi, hz0, hz1, hz2⟩ := info_parts Tryz.info5
  have hsz := hown.2.size
  obtain ⟨ao, cap, rfl, h0, hcp, hc⟩ := hu
  have key : ∀ (ad : Addr), ao = some ad → (∀ j x, (qs.map B)[j]? = some x → wr.cell? (ad.add j) = some x) → wpList Tryz.prog ops Q (o :: rest) a wr := by
    intro ad e hnews
    subst e
    refine wpList_append_own _ hgd s z 25 ho w0.heap.size 5 i0 (.int .u8 0) 1 1 Tryz.underlying25 hi hz0 hz1 hz2 rfl (by decide) v ps.length (ps.map B) hs hown.1 ad qs.length cap (qs.map B) hz (by simp) hnews ?_ (by unfold maxLen; omega) (by omega) hsz ?_
    · intro u hu; obtain ⟨x, _, rfl⟩ := List.mem_map.1 hu; rfl
    · intro v' w' h1 h2 _
      refine h v' w' ⟨by rw [List.map_append, List.length_append]; exact h1, ?_⟩
      refine Below.grown hown.2 h2 (by omega) ?_
      intro k hk
      exact (hown.1.lt k hk).1
  by_cases hq : qs = []
  · subst hq
    cases ao with
    | none =>
      obtain rfl := h0 rfl
      refine wpList_append_own_none hgd s z 25 ho w0.heap.size 5 i0 1 Tryz.underlying25 hi v ps.length (ps.map B) hs hown.1 hz ?_
      exact h v wr (by rw [List.append_nil]; exact hown)
    | some ad => exact key ad rfl (fun j x hj => by simp at hj)
  · obtain ⟨b, off, rfl, hlt, hcell⟩ := hc hq
    refine key ⟨b, off, none⟩ rfl (fun j x hj => ?_)
    have e : (⟨b, off, none⟩ : Addr).add j = ⟨b, off + j, none⟩ := Go.WideShapes.add_plain _ _ _
    rw [e]
    obtain ⟨hj1, hj2⟩ := List.getElem?_eq_some_iff.1 hj
    rw [List.length_map] at hj1
    rw [hcell j hj1, ← hj2]
    simp
theorem own_mono {w0 w w' : World} {v : Value} {ps : List UInt8} (h : Own w0 v ps w) (hb : Below w.heap.size w w') : Own w0 v ps w' := by
  have hz := h.2.size
  refine ⟨?_, h.2.trans (hb.mono hz)⟩
  obtain ⟨hl, h1 | ⟨g, cap, cur, rfl, hg, hh, hr⟩⟩ := h.1
  · exact ⟨hl, .inl h1⟩
  · have hlt : g < w.heap.size := by
      rcases Nat.lt_or_ge g w.heap.size with h | h
      · exact h
      · rw [Array.getElem?_eq_none (by omega)] at hh; cases hh
    exact ⟨hl, .inr ⟨g, cap, cur, rfl, hg, by rw [hb.block g hlt]; exact hh, hr⟩⟩
theorem own_base {w w1 w2 : World} {v : Value} {ps : List UInt8} (h : Own w1 v ps w2) (hb : Below w.heap.size w w1) : Own w v ps w2 := by
  have hz := hb.size
  refine ⟨?_, hb.trans (h.2.mono hz)⟩
  obtain ⟨hl, h1 | ⟨g, cap, cur, hv, hg, hr⟩⟩ := h.1
  · exact ⟨hl, .inl h1⟩
  · exact ⟨hl, .inr ⟨g, cap, cur, hv, by omega, hr⟩⟩
set_option maxHeartbeats 400000 in
theorem copyB (v : Value) (bs : List UInt8) (w : World) (hv : HoldsB w v bs) (hl : bs.length ≤ 140737488355328) :
    Calls Tryz.prog 5 #[v] w fun e w' => ∃ u, e = .returned u ∧ Own w u bs w' := by
  have HV := hide' (holdsB_mono hv (below_alloc' w (.cells #[] 5)))
  clear hv
  go_enter Tryz.func5, Tryz.ntmps5
  go_wp2_with (at_builtin; refine appAllB rfl (.tmp 5) (.tmp 6) rfl w _ [] rfl (own_empty w) v bs rfl HV.out (by simpa using hl) ?_; intro v2 w2 hown2)
  go_ret
  exact ⟨v2, rfl, hown2⟩
set_option maxRecDepth 20000 in
set_option maxHeartbeats 1000000 in
theorem sameB (va vb : Value) (xs ys : List UInt8) (w : World) (ha : HoldsB w va xs) (hb : HoldsB w vb ys) (la : xs.length ≤ 1000000000000000) (lb : ys.length ≤ 1000000000000000) :
    Calls Tryz.prog 10 #[va, vb] w fun e w' => e = .returned (.bool (decide (xs = ys))) ∧ ∃ n, w' = w.drewN n := by
  obtain ⟨ao, ca, rfl, _, _, hca⟩ := ha
  obtain ⟨bo, cb, rfl, _, _, hcb⟩ := hb
  by_cases hl : xs.length = ys.length
  · by_cases hz : xs.length = 0
    · have e1 : xs = [] := List.eq_nil_of_length_eq_zero hz
      have e2 : ys = [] := List.eq_nil_of_length_eq_zero (by omega)
      subst e1 e2
      clear hca hcb hl hz la lb
      go_enter Tryz.func10, Tryz.ntmps10
      go_wp2
      go_rounds 1
      go_ret
      exact ⟨rfl, 0, rfl⟩
    · obtain ⟨b1, o1, rfl, hlt1, c1⟩ := hca (fun e => hz (by rw [e]; rfl))
      obtain ⟨b2, o2, rfl, hlt2, c2⟩ := hcb (fun e => hz (by rw [hl, e]; rfl))
      have C1 : Hid _ := c1
      have C2 : Hid _ := c2
      obtain ⟨n, hn⟩ : ∃ n, n = xs.length := ⟨_, rfl⟩
      have N1 : Hid (xs.length = n) := hn.symm
      have N2 : Hid (ys.length = n) := by unfold Hid; omega
      have ln : n ≤ 1000000000000000 := by omega
      rw [N1.out, N2.out]
      clear hca hcb c1 c2 hl hz la lb hn
      go_enter Tryz.func10, Tryz.ntmps10
      go_wp2
      go_loopw [5] (fun i wr => ∃ k : Nat, k ≤ n ∧ i = .int .i64 k ∧ Hid (xs.take k = ys.take k) ∧ ∃ m, Hid (wr = w.drewN m)) (fun i _ => n - (intOf i).toNat)
      case atStart => exact ⟨0, by omega, rfl, rfl, 0, rfl⟩
      case round =>
        obtain ⟨k, hk, rfl, hE, m, hw⟩ := hrel
        have hw' := hw.out
        subst hw'
        by_cases hlt : k < n
        · have x1 := C1.out k (by rw [N1.out]; exact hlt)
          have x2 := C2.out k (by rw [N2.out]; exact hlt)
          unfold B at x1 x2
          have G1 : Hid (k < xs.length) := by unfold Hid; rw [N1.out]; exact hlt
          have G2 : Hid (k < ys.length) := by unfold Hid; rw [N2.out]; exact hlt
          by_cases he : xs[k]'G1.out = ys[k]'G2.out
          · have E : Hid (xs.take (k + 1) = ys.take (k + 1)) := by
              unfold Hid; rw [List.take_succ_eq_append_getElem G1.out, List.take_succ_eq_append_getElem G2.out, hE.out, he]
            rw [he] at x1
            generalize (ys[k]'G2.out).toNat = y at x1 x2
            clear he
            go_wp2
            go_quiet (fail)
            go_wp2
            go_roundw
            case rel => exact ⟨k + 1, by omega, by go_num, E, _, rfl⟩
            case measure => simp [intOf]; omega
          · have F : Hid (decide (xs = ys) = false) := by
              unfold Hid; rw [decide_eq_false_iff_not]; intro e; subst e; exact he rfl
            have hne : (((xs[k]'G1.out).toNat : Int) != ((ys[k]'G2.out).toNat : Int)) = true := by
              simp
              intro e
              exact he (UInt8.toNat_inj.1 (by omega))
            have hne2 : ((xs[k]'G1.out).toNat != (ys[k]'G2.out).toNat) = true := by
              simp
              intro e
              exact he (UInt8.toNat_inj.1 e)
            generalize (xs[k]'G1.out).toNat = x at x1 hne hne2
            generalize (ys[k]'G2.out).toNat = y at x2 hne hne2
            clear he
            go_wp2
            go_quiet (fail)
            go_wp2
            go_ret
            rw [F.out]
            exact ⟨rfl, _, World.drewN_drewN _ _ _⟩
        · have F : Hid (decide (xs = ys) = true) := by
            unfold Hid; rw [decide_eq_true_iff]
            have := hE.out
            rwa [List.take_of_length_le (by rw [N1.out]; omega), List.take_of_length_le (by rw [N2.out]; omega)] at this
          go_wp2
          go_ret
          rw [F.out]
          exact ⟨rfl, m, rfl⟩
  · have F : Hid (decide (xs = ys) = false) := by
      unfold Hid; rw [decide_eq_false_iff_not]; intro e; subst e; exact hl rfl
    have hl' : ((xs.length : Int) != (ys.length : Int)) = true := by simp; omega
    clear hca hcb hl
    generalize xs.length = n1 at la hl' ⊢
    generalize ys.length = n2 at lb hl' ⊢
    go_enter Tryz.func10, Tryz.ntmps10
    go_wp2
    go_ret
    rw [F.out]
    exact ⟨rfl, 0, rfl⟩
theorem sameBe (va vb : Value) (xs : List UInt8) (w : World) (ha : HoldsB w va xs) (hb : HoldsB w vb xs) (la : xs.length ≤ 1000000000000000) :
    Calls Tryz.prog 10 #[va, vb] w fun e w' => e = .returned (.bool true) ∧ Below w.heap.size w w' := by
  refine (sameB va vb xs xs w ha hb la la).mono ?_
  rintro e w' ⟨rfl, n, rfl⟩
  exact ⟨by simp, below_drewN _ _⟩
end Go.Proofs.YtipcmbonhkelbabGreatDoor
namespace Go.Proofs.YtipcmbonhkelbabGreatDoor
open Go.RowKit
theorem sub_holds {w : World} {b off cap k m : Nat} {bs : List UInt8} (hk : k ≤ m) (hm : m ≤ bs.length) (hcp : bs.length ≤ cap) (hlt : b < w.heap.size) (hcell : ∀ j (h : j < bs.length), w.cell? ⟨b, off + j, none⟩ = some (B bs[j])) :
    HoldsB w (.slice (some ⟨b, off + k, none⟩) (m - k) (cap - k)) ((bs.drop k).take (m - k)) := by
  have hl : ((bs.drop k).take (m - k)).length = m - k := by rw [List.length_take, List.length_drop]; omega
  refine ⟨_, _, by rw [hl], (fun e => by cases e), by omega, fun _ => ⟨b, off + k, rfl, hlt, fun j hj => ?_⟩⟩
  rw [Nat.add_assoc, hcell (k + j) (by omega)]
  simp
theorem midB {w : World} {v : Value} {bs : List UInt8} (h : HoldsB w v bs) (k m : Nat) (hk : k ≤ m) (hm : m ≤ bs.length) :
    ∃ pv, (∀ W, Sem.run Tryz.prog (Instr.slice 25 v (some (.int .i64 (k : Int))) (some (.int .i64 (m : Int))) none) W = .ok pv W) ∧ HoldsB w pv ((bs.drop k).take (m - k)) := by
  obtain ⟨ao, cap, rfl, h0, hcp, hc⟩ := h
  have hel : Tryz.prog.elem 25 = 5 := by kernel_rfl
  have hh : ∀ W, Sem.run Tryz.prog (Instr.slice 25 (.slice ao bs.length cap) (some (.int .i64 (k : Int))) (some (.int .i64 (m : Int))) none) W = .ok (sliced ao k m cap 1) W := by
    intro W
    have h := run_slice_lh (P := Tryz.prog) W 25 ao bs.length cap (by rw [hel]; exact Tryz.underlying25) .i64 .i64 k m (by omega) (by omega) (by omega)
    rw [hel, Tryz.sizeOf5] at h
    simp only [Result.andThen, Int.toNat_natCast] at h
    exact h
  refine ⟨_, hh, ?_⟩
  unfold sliced
  by_cases hz : k < bs.length
  · obtain ⟨b, off, rfl, hlt, hcell⟩ := hc (by intro e; rw [e] at hz; simp at hz)
    rw [if_neg (by omega), Nat.mul_one, Option.map_some, Go.WideShapes.add_plain]
    exact sub_holds hk hm hcp hlt hcell
  · have hl : (bs.drop k).take (m - k) = [] := by rw [List.take_eq_nil_iff]; exact .inl (by omega)
    rw [hl]
    have hz : m - k = 0 := by omega
    rw [hz]
    cases ao with
    | none =>
      have := h0 rfl
      subst this
      refine ⟨none, 0, ?_, fun _ => rfl, Nat.le_refl _, fun h => absurd rfl h⟩
      simp
    | some ad =>
      by_cases hq : cap = k
      · refine ⟨some ad, 0, ?_, (fun h => by cases h), Nat.le_refl _, fun h => absurd rfl h⟩
        simp [hq]
      · refine ⟨some (ad.add k), cap - k, ?_, (fun h => by cases h), Nat.zero_le _, fun h => absurd rfl h⟩
        simp [hq]
theorem takeB {w : World} {v : Value} {bs : List UInt8} (h : HoldsB w v bs) (k : Nat) (hk : k ≤ bs.length) : ∃ pv, (∀ W, Sem.run Tryz.prog (Instr.slice 25 v none (some (.int .i64 (k : Int))) none) W = .ok pv W) ∧ HoldsB w pv (bs.take k) := by
  have h' := h
  obtain ⟨ao, cap, rfl, h0, hc, _⟩ := h'
  refine ⟨.slice ao k cap, fun W => ?_, holdsB_pre h k hk⟩
  have hel : Tryz.prog.elem 25 = 5 := by kernel_rfl
  have hh := run_slice_h (P := Tryz.prog) W 25 ao bs.length cap (by rw [hel]; exact Tryz.underlying25) .i64 k (by omega) (by omega)
  rw [hel, Tryz.sizeOf5] at hh
  simp only [Result.andThen, Int.toNat_natCast, sliced] at hh
  rw [hh]
  by_cases hz : cap = 0
  · subst hz
    obtain rfl : k = 0 := by omega
    cases ao <;> simp
  · simp [Addr.add]
theorem conv_holds {w : World} {v : Value} {bs : List UInt8} (h : HoldsB w v bs) : Sem.run Tryz.prog (convert 25 9 v) w = .ok (.string ⟨bs.toArray⟩) w := by
  obtain ⟨ao, cap, rfl, h0, hcp, hc⟩ := h
  by_cases hz : bs = []
  · subst hz
    rw [run_convert_bytes_string w 25 9 5 _ _ _ Tryz.underlying25 Tryz.underlying5 Tryz.underlying9]
    cases ao with
    | none =>
      unfold Conv.bytesToString
      simp [Sem.run_pure]
      rfl
    | some ad =>
      have hl : (loadCells ad 0).run Tryz.prog w = .ok ((([] : List UInt8).map (fun c => (c.toNat : Int))).map (Value.int .u8)).toArray w := by
        have := run_loadCells_list (P := Tryz.prog) (w := w) ad ([] : List Value) (fun j v hv => by simp at hv)
        simpa using this
      rw [List.length_nil, run_bytesToString w _ _ _ _ hl, fold_push]
      simp
  · obtain ⟨b, off, rfl, hlt, hcell⟩ := hc hz
    have hl : (loadCells ⟨b, off, none⟩ bs.length).run Tryz.prog w = .ok ((bs.map (fun c => (c.toNat : Int))).map (Value.int .u8)).toArray w := by
      have := run_loadCells_list (P := Tryz.prog) (w := w) ⟨b, off, none⟩ (bs.map B) (fun j v hv => by
        obtain ⟨hj1, hj2⟩ := List.getElem?_eq_some_iff.1 hv
        rw [List.length_map] at hj1
        rw [Go.WideShapes.add_plain, hcell j hj1, ← hj2]
        simp)
      simpa [map_B] using this
    rw [run_convert_bytes_string w 25 9 5 _ _ _ Tryz.underlying25 Tryz.underlying5 Tryz.underlying9, run_bytesToString w _ _ _ _ hl, fold_push]
    simp
end Go.Proofs.YtipcmbonhkelbabGreatDoor
namespace Go.Proofs.YtipcmbonhkelbabGreatDoor
open Go.RowKit
set_option maxHeartbeats 400000 in
theorem bcloneC (v : Value) (bs : List UInt8) (w : World) (hv : HoldsB w v bs) (hl : bs.length ≤ 140737488355328) :
    Calls Tryz.prog 19 #[v] w fun e w' => ∃ u, e = .returned u ∧ Own w u bs w' := by
  have HV := hide' (holdsB_mono hv (below_alloc' w (.cells #[] 5)))
  have q1 : ∀ (w : World) (a : Option Addr) (n c n' c' : Nat), (binOp .eql 25 (.slice a n c) (.slice none n' c')).run Tryz.prog w = .ok (.bool a.isNone) w := fun w a n c n' c' => Lib.run_eql_slice_nil w _ _ a n c n' c' Tryz.underlying25
  obtain ⟨ao, cap, rfl, h0, hcp, hc⟩ := hv
  cases ao with
  | none =>
    have hb : bs = [] := by
      apply Classical.byContradiction
      intro h
      obtain ⟨b, off, e, _⟩ := hc h
      cases e
    subst hb
    clear HV hc
    go_enter Tryz.func19, Tryz.ntmps19
    go_wp2_with fail
    go_ret
    exact ⟨.slice none 0 0, rfl, own_nil _ _ (Below.refl _ _)⟩
  | some ad =>
    clear hc h0
    go_enter Tryz.func19, Tryz.ntmps19
    go_wp2_with (at_builtin; refine appAllB rfl (.tmp 5) (.tmp 6) rfl w _ [] rfl (own_empty w) _ bs rfl HV.out (by simpa using hl) ?_; intro v2 w2 hown2)
    go_ret
    exact ⟨v2, rfl, hown2⟩
end Go.Proofs.YtipcmbonhkelbabGreatDoor
namespace Go.Proofs.YtipcmbonhkelbabGreatDoor
open Go.RowKit
def mks : List UInt8 := [201, 202, 203, 204, 205, 206, 207, 208]
theorem mks_at : ∀ k (h : k < mks.length), ((mks[k]).toNat : Int) = 201 + (k : Int) := by
  intro k h
  have : ∀ j : Fin 8, ((mks[j.val]'(show j.val < mks.length from j.isLt)).toNat : Int) = 201 + (j.val : Int) := by decide
  exact this ⟨k, h⟩
end Go.Proofs.YtipcmbonhkelbabGreatDoor
namespace Go.Proofs.YtipcmbonhkelbabGreatDoor
open Go.RowKit
theorem sameFe (va vb : Value) (xs : FL) (w : World) (ha : HoldsF w va xs) (hb : HoldsF w vb xs) (la : xs.length ≤ 1000000000000000) :
    Calls Tryz.prog 31 #[va, vb] w fun e w' => e = .returned (.bool true) ∧ Below w.heap.size w w' := by
  refine (sameF va vb xs xs w ha hb la la).mono ?_
  rintro e w' ⟨rfl, n, rfl⟩
  exact ⟨by simp, below_drewN _ _⟩
set_option maxRecDepth 20000 in
set_option maxHeartbeats 2000000 in
theorem sameRs (s k : Int) (r : List UInt8) (fs : FL) (la lb : Value) (w : World) (ha : HoldsF w la fs) (hb : HoldsF w lb fs) (hl : fs.length ≤ 2000000) :
    Calls Tryz.prog 9 #[.agg #[.int .i64 s, .string ⟨r.toArray⟩, .int .i64 k, la], .agg #[.int .i64 s, .string ⟨r.toArray⟩, .int .i64 k, lb]] w fun e w' => e = .returned (.bool true) ∧ Below w.heap.size w w' := by
  obtain ⟨a1, c1, b1, o1, e1, _⟩ := holdsF_parts ha
  obtain ⟨a2, c2, b2, o2, e2, _⟩ := holdsF_parts hb
  subst e1 e2
  have b0 := below_alloc' w (.cells #[.int .i64 s, .string ⟨r.toArray⟩, .int .i64 k, .slice a1 fs.length c1] 24)
  have b1' := below_alloc' (w.alloc (.cells #[.int .i64 s, .string ⟨r.toArray⟩, .int .i64 k, .slice a1 fs.length c1] 24)) (.cells #[.int .i64 s, .string ⟨r.toArray⟩, .int .i64 k, .slice a2 fs.length c2] 24)
  have bb := bt' b0 b1'
  have cS := hide' (sameFe _ _ fs _ (holdsF_mono ha bb) (holdsF_mono hb bb) (by omega))
  have BB := hide' bb
  clear ha hb b0 b1' bb
  generalize fs.length = n at cS BB ⊢
  go_enter Tryz.func9, Tryz.ntmps9
  go_wp2_with fail
  refine cS.out.mono ?_
  rintro e w' ⟨rfl, b⟩
  have B' := hide' (bt' BB.out b)
  clear b
  go_wp2_with fail
  go_ret
  exact ⟨rfl, B'.out⟩
set_option maxRecDepth 20000 in
set_option maxHeartbeats 4000000 in
theorem copyRs (s k : Int) (r : List UInt8) (fs : FL) (lv : Value) (w : World) (hv : HoldsF w lv fs) (hl : fs.length ≤ 2000000) :
    Calls Tryz.prog 6 #[.agg #[.int .i64 s, .string ⟨r.toArray⟩, .int .i64 k, lv]] w fun e w' => ∃ u, e = .returned (.agg #[.int .i64 s, .string ⟨r.toArray⟩, .int .i64 k, u]) ∧ OwnF w u fs w' := by
  obtain ⟨la, lc, lb, lo, hlv, _⟩ := holdsF_parts hv
  subst hlv
  have b1 := below_alloc' w (.cells #[.int .i64 s, .string ⟨r.toArray⟩, .int .i64 k, .slice la fs.length lc] 24)
  have b2 := below_alloc' (w.alloc (.cells #[.int .i64 s, .string ⟨r.toArray⟩, .int .i64 k, .slice la fs.length lc] 24)) (.cells #[.int .i64 0, .string ⟨#[]⟩, .int .i64 0, .slice none 0 0] 24)
  have Q1 := quad_below (quad_lit w (.int .i64 s) (.string ⟨r.toArray⟩) (.int .i64 k) (.slice la fs.length lc) 24) b2
  have Q2 := quad_lit (w.alloc (.cells #[.int .i64 s, .string ⟨r.toArray⟩, .int .i64 k, .slice la fs.length lc] 24)) (.int .i64 0) (.string ⟨#[]⟩) (.int .i64 0) (.slice none 0 0) 24
  have z1 : (w.alloc (.cells #[.int .i64 s, .string ⟨r.toArray⟩, .int .i64 k, .slice la fs.length lc] 24)).heap.size = w.heap.size + 1 := by simp
  rw [z1] at Q2
  have hv2 := holdsF_mono hv (bt' b1 b2)
  have B2 := hide' (bt' b1 b2)
  obtain ⟨W2, hW2⟩ : ∃ W2, W2 = (w.alloc (.cells #[.int .i64 s, .string ⟨r.toArray⟩, .int .i64 k, .slice la fs.length lc] 24)).alloc (.cells #[.int .i64 0, .string ⟨#[]⟩, .int .i64 0, .slice none 0 0] 24) := ⟨_, rfl⟩
  have HW2 := hide' hW2
  have zs : Hid (W2.heap.size = w.heap.size + 2) := by unfold Hid; rw [hW2]; simp
  rw [← hW2] at Q1 Q2 hv2 B2
  have HQ1 := hide' Q1
  have HQ2 := hide' Q2
  have cC := hide' (copyF _ fs _ hv2 (by omega))
  obtain ⟨i0, i1, i2, i3, _⟩ := Q1
  clear hv b1 b2 Q2 hv2 hW2 z1
  go_enter Tryz.func6, Tryz.ntmps6
  go_wp2_with fail
  rw [← HW2.out]
  refine cC.out.mono ?_
  rintro e w3 ⟨u, rfl, ho⟩
  obtain ⟨ua, uc, ub, uo, hu, _⟩ := holdsF_parts (holdsF_own ho)
  subst hu
  have P3 := hide' (quad_below HQ1.out ho.2)
  have Q3 := hide' (quad_below HQ2.out ho.2)
  have B3 := hide' (bt' B2.out ho.2)
  have R3 := hide' ho.1
  clear ho i0 i1 i2 i3 cC HQ1 HQ2
  have P4 := hide' (quad_set3 P3.out (.slice ua fs.length uc))
  have Q4 := hide' (quad_other (o := 3) Q3.out (show w.heap.size + 1 ≠ w.heap.size by omega) (.slice ua fs.length uc))
  have B4 := hide' (B3.out.setCell (p := ⟨w.heap.size, 3, none⟩) (Nat.le_refl _) (.slice ua fs.length uc))
  have R4 := hide' (row_poke (o := 3) (x := .slice ua fs.length uc) R3.out (b := w.heap.size) (by rw [zs.out]; omega))
  obtain ⟨h0, h1, h2, h3, e0, e1, e2, e3, hz⟩ := P3.out
  obtain ⟨k0, k1, k2, k3, d0, d1, d2, d3, dz⟩ := P4.out
  obtain ⟨j0, j1, j2, j3, f0, f1, f2, f3, fz⟩ := Q4.out
  go_wp2_with fail
  obtain ⟨q0, q1, q2, q3⟩ := quad_store Q4.out (.int .i64 s) (.string ⟨r.toArray⟩) (.int .i64 k) (.slice ua fs.length uc)
  have qb := put4_below B4.out (Nat.le_succ _) (.int .i64 s) (.string ⟨r.toArray⟩) (.int .i64 k) (.slice ua fs.length uc)
  have qr := row_base (row_put (v0 := .int .i64 s) (v1 := .string ⟨r.toArray⟩) (v2 := .int .i64 k) (v3 := .slice ua fs.length uc) R4.out (b := w.heap.size + 1) (by rw [zs.out]; omega)) B2.out.size
  unfold put4 at q0 q1 q2 q3 qb qr
  exact bodyPost_ret (v := .agg #[.int .i64 s, .string ⟨r.toArray⟩, .int .i64 k, .slice ua fs.length uc]) (by simp [results, Tryz.results6, go_sem, q0, q1, q2, q3]) rfl ⟨.slice ua fs.length uc, rfl, qr, qb⟩
end Go.Proofs.YtipcmbonhkelbabGreatDoor
