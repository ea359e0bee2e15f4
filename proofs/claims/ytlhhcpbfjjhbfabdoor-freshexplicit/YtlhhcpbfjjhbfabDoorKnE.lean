/- The contracts of read, first, told, limit and maxStale. -/
import Derived.Test.YtlhhcpbfjjhbfabDoorBo
import Derived.Test.YtlhhcpbfjjhbfabDoorKnS
import Derived.Test.YtlhhcpbfjjhbfabDoorBn
import Derived.Test.YtlhhcpbfjjhbfabDoorBk
namespace Go.Proofs.YtlhhcpbfjjhbfabDoor
open Go.RowKit
/-- a directive as a value -/
def dirV (d : DV) : Value := .agg #[.string ⟨d.1.toArray⟩, .string ⟨d.2.1.toArray⟩, .bool d.2.2]
def dirL (d : DV) : List Value := [.string ⟨d.1.toArray⟩, .string ⟨d.2.1.toArray⟩, .bool d.2.2]
theorem cells3K {b : Nat} {W : World} {v0 v1 v2 : Value} (h : Blk b W [v0, v1, v2]) : (W.cell? ⟨b, 0, none⟩ = some v0 ∧ W.cell? ⟨b, 1, none⟩ = some v1 ∧ W.cell? ⟨b, 2, none⟩ = some v2) ∧ (W.frozen? ⟨b, 0, none⟩ = false ∧ W.frozen? ⟨b, 1, none⟩ = false ∧ W.frozen? ⟨b, 2, none⟩ = false) :=
  ⟨⟨(h.1 0 (by simp)).1, (h.1 1 (by simp)).1, (h.1 2 (by simp)).1⟩, ⟨(h.1 0 (by simp)).2, (h.1 1 (by simp)).2, (h.1 2 (by simp)).2⟩⟩
theorem put_three (b : Nat) (W : World) (v0 v1 v2 : Value) : putFrom b 0 W [v0, v1, v2] = ((W.setCell ⟨b, 0, none⟩ v0).setCell ⟨b, 1, none⟩ v1).setCell ⟨b, 2, none⟩ v2 := rfl
/-- three cells written: what is read of them, and what lies below -/
theorem three_store {w W : World} {b : Nat} {u0 u1 u2 : Value} (h : Blk b W [u0, u1, u2]) (hw : Below w.heap.size w W) (hb : w.heap.size ≤ b) (v0 v1 v2 : Value) :
    (((W.setCell ⟨b, 0, none⟩ v0).setCell ⟨b, 1, none⟩ v1).setCell ⟨b, 2, none⟩ v2).cell? ⟨b, 0, none⟩ = some v0 ∧ (((W.setCell ⟨b, 0, none⟩ v0).setCell ⟨b, 1, none⟩ v1).setCell ⟨b, 2, none⟩ v2).cell? ⟨b, 1, none⟩ = some v1 ∧ (((W.setCell ⟨b, 0, none⟩ v0).setCell ⟨b, 1, none⟩ v1).setCell ⟨b, 2, none⟩ v2).cell? ⟨b, 2, none⟩ = some v2 ∧
    Below w.heap.size w (((W.setCell ⟨b, 0, none⟩ v0).setCell ⟨b, 1, none⟩ v1).setCell ⟨b, 2, none⟩ v2) := by
  have h1 := cells_put h [v0, v1, v2] rfl
  have h2 := put_below hb [v0, v1, v2] 0 W hw
  rw [put_three] at h1 h2
  obtain ⟨⟨a, b, c⟩, _⟩ := cells3K h1
  exact ⟨a, b, c, h2⟩
/-- a block of three cells, whatever they hold, above w -/
def TriK (w : World) (b : Nat) (W : World) : Prop := (∃ u0 u1 u2, Blk b W [u0, u1, u2]) ∧ Below w.heap.size w W ∧ w.heap.size ≤ b
theorem tri_below {w : World} {b : Nat} {W W' : World} (h : TriK w b W) (hb : Below W.heap.size W W') : TriK w b W' := by
  obtain ⟨⟨u0, u1, u2, h1⟩, h2, h3⟩ := h
  exact ⟨⟨u0, u1, u2, cells_below h1 hb⟩, h2.trans (hb.mono h2.size), h3⟩
theorem tri_lit (w : World) (v0 v1 v2 : Value) (t : TypeId) : TriK w w.heap.size (w.alloc (.cells #[v0, v1, v2] t)) := ⟨⟨v0, v1, v2, cells_lit w #[v0, v1, v2] t⟩, below_alloc' w _, Nat.le_refl _⟩
theorem prefix_head (a : List UInt8) : (a.take 1 == [34]) = decide (a.head? = some 34) := by
  cases a with
  | nil => rfl
  | cons x r => by_cases h : x = 34 <;> simp [h]
set_option maxHeartbeats 1000000 in
theorem prefixL (a : ByteArray) (d : Bool) (w : World) (hl : a.size ≤ 4194304) (hd : (1 ≤ a.size ∧ Hid (((a.extract 0 1).toList == [34]) = d)) ∨ (¬ 1 ≤ a.size ∧ d = false)) :
    Calls Tryd.prog 66 #[.string a, .string ⟨#[34]⟩] w fun e w' => e = .returned (.bool d) ∧ w' = w := by
  rcases hd with ⟨h1, h2⟩ | ⟨h1, rfl⟩
  · have hc := cut_to a 1 h1
    go_enter Tryd.func66, Tryd.ntmps66
    go_wp2_with fail
    go_ret
    exact ⟨by rw [← h2.out]; rfl, rfl⟩
  · go_enter Tryd.func66, Tryd.ntmps66
    go_wp2_with fail
    go_ret
    exact ⟨rfl, rfl⟩
set_option maxHeartbeats 1000000 in
theorem prefixC (a : List UInt8) (w : World) (hl : a.length ≤ 4194304) :
    Calls Tryd.prog 56 #[.string ⟨a.toArray⟩, .string ⟨#[34]⟩] w fun e w' => e = .returned (.bool (decide (a.head? = some 34))) ∧ w' = w := by
  have c := hide' (fun W => prefixL ⟨a.toArray⟩ (decide (a.head? = some 34)) W (by rw [size_l]; exact hl) (by
    rw [size_l]
    by_cases h : 1 ≤ a.length
    · refine .inl ⟨h, ?_⟩
      unfold Hid
      rw [← ext_to, Lib.toList_data]
      exact prefix_head a
    · refine .inr ⟨h, ?_⟩
      cases a with
      | nil => rfl
      | cons x r => simp at h))
  generalize decide (a.head? = some 34) = d at c ⊢
  go_enter Tryd.func56, Tryd.ntmps56
  go_wp2_with fail
  refine (c.out _).mono ?_
  rintro e w9 ⟨rfl, ew⟩
  rw [ew]
  clear ew w9
  go_wp2_with fail
  go_ret
  exact ⟨rfl, rfl⟩
set_option maxHeartbeats 1000000 in
/-- read, where the callees answer so -/
theorem readW (t nm ar lo uq : ByteArray) (hz q : Bool) (er : Int) (w : World)
    (cC : ∀ W : World, Calls Tryd.prog 55 #[.string t, .string ⟨#[61]⟩] W fun e w' => e = .returned (.tuple #[.string nm, .string ar, .bool hz]) ∧ ∃ n, w' = W.drewN n)
    (cP : ∀ W : World, Calls Tryd.prog 56 #[.string ar, .string ⟨#[34]⟩] W fun e w' => e = .returned (.bool q) ∧ w' = W)
    (cU : ∀ W : World, Calls Tryd.prog 57 #[.string ar] W fun e w' => e = .returned (.tuple #[.string uq, .int .i64 er]) ∧ Below W.heap.size W w')
    (cF : ∀ W : World, Calls Tryd.prog 38 #[.string nm] W fun e w' => e = .returned (.string lo) ∧ Below W.heap.size W w') :
    Calls Tryd.prog 40 #[.string t] w fun e w' => e = .returned (.agg #[.string lo, .string (if q = true then uq else ar), .bool hz]) ∧ Below w.heap.size w w' := by
  have CC := hide' cC
  have CP := hide' cP
  have CU := hide' cU
  have CF := hide' cF
  clear cC cP cU cF
  go_enter Tryd.func40, Tryd.ntmps40
  go_wp2_with fail
  refine (CC.out _).mono ?_
  rintro e w1 ⟨rfl, n, h1⟩
  have T1 : Hid (TriK w w.heap.size w1) := by rw [h1]; exact tri_below (tri_lit w _ _ _ _) (below_drewN _ n)
  clear h1
  go_wp2_with fail
  refine (CP.out _).mono ?_
  rintro e w9 ⟨rfl, ew⟩
  rw [ew]
  clear ew w9
  cases q with
  | false =>
    go_wp2_with fail
    refine (CF.out _).mono ?_
    rintro e w4 ⟨rfl, h4⟩
    have T4 := hide' (tri_below T1.out h4)
    clear h4 T1
    obtain ⟨⟨u0, u1, u2, bk⟩, bel, hle⟩ := T4.out
    obtain ⟨⟨c0, c1, c2⟩, f0, f1, f2⟩ := cells3K bk
    have BK := hide' bk
    have hlt := bk.2
    clear bk T4
    go_wp2_with fail
    obtain ⟨q0, q1, q2, q3⟩ := three_store BK.out bel hle (.string lo) (.string ar) (.bool hz)
    exact bodyPost_ret (v := .agg #[.string lo, .string ar, .bool hz]) (by simp [results, Tryd.results40, go_sem, q0, q1, q2]) rfl ⟨rfl, q3⟩
  | true =>
    go_wp2_with fail
    refine (CU.out _).mono ?_
    rintro e w3 ⟨rfl, h3⟩
    have T3 := hide' (tri_below T1.out h3)
    clear h3 T1
    go_wp2_with fail
    refine (CF.out _).mono ?_
    rintro e w4 ⟨rfl, h4⟩
    have T4 := hide' (tri_below T3.out h4)
    clear h4 T3
    obtain ⟨⟨u0, u1, u2, bk⟩, bel, hle⟩ := T4.out
    obtain ⟨⟨c0, c1, c2⟩, f0, f1, f2⟩ := cells3K bk
    have BK := hide' bk
    have hlt := bk.2
    clear bk T4
    go_wp2_with fail
    obtain ⟨q0, q1, q2, q3⟩ := three_store BK.out bel hle (.string lo) (.string uq) (.bool hz)
    exact bodyPost_ret (v := .agg #[.string lo, .string uq, .bool hz]) (by simp [results, Tryd.results40, go_sem, q0, q1, q2]) rfl ⟨rfl, q3⟩
theorem readKC (t : List UInt8) (w : World) (hl : t.length ≤ 4194304) :
    Calls Tryd.prog 40 #[.string ⟨t.toArray⟩] w fun e w' => e = .returned (dirV (dirOf t)) ∧ Below w.heap.size w w' := by
  have hn : (t.take (eqPos t)).length ≤ 4194304 := Nat.le_trans (List.length_take_le' _ _) hl
  have hv : (t.drop (eqPos t + 1)).length ≤ 4194304 := by rw [List.length_drop]; omega
  by_cases h1 : eqPos t < t.length
  · have h := readW ⟨t.toArray⟩ ⟨(t.take (eqPos t)).toArray⟩ ⟨(t.drop (eqPos t + 1)).toArray⟩ ⟨(lows (t.take (eqPos t))).toArray⟩ ⟨(unqS ⟨(t.drop (eqPos t + 1)).toArray⟩).1.toArray⟩ true (decide ((t.drop (eqPos t + 1)).head? = some 34)) (unqS ⟨(t.drop (eqPos t + 1)).toArray⟩).2 w
      (fun W => cutEq1 ⟨t.toArray⟩ W (by rw [size_l]; exact hl) (by rw [size_l]; exact h1)) (fun W => prefixC _ W hv) (fun W => unquoteTok _ W (by rw [size_l]; exact hv)) (fun W => foldTok ⟨(t.take (eqPos t)).toArray⟩ W (by rw [size_l]; omega))
    refine h.mono ?_
    rintro e w' ⟨rfl, hb⟩
    refine ⟨?_, hb⟩
    unfold dirV dirOf argOf
    rw [if_pos h1, decide_eq_true h1]
    by_cases h2 : (t.drop (eqPos t + 1)).head? = some 34
    · rw [decide_eq_true h2, if_pos rfl, if_pos h2]
    · rw [decide_eq_false h2, if_neg (by decide), if_neg h2]
  · have e1 : t.take (eqPos t) = t := List.take_of_length_le (by omega)
    have h := readW ⟨t.toArray⟩ ⟨t.toArray⟩ ⟨#[]⟩ ⟨(lows t).toArray⟩ ⟨(unqS ⟨#[]⟩).1.toArray⟩ false false (unqS ⟨#[]⟩).2 w
      (fun W => cutEq0 ⟨t.toArray⟩ W (by rw [size_l]; exact h1)) (fun W => prefixC [] W (by simp)) (fun W => unquoteTok ⟨#[]⟩ W (by decide)) (fun W => foldTok ⟨t.toArray⟩ W (by rw [size_l]; omega))
    refine h.mono ?_
    rintro e w' ⟨rfl, hb⟩
    refine ⟨?_, hb⟩
    unfold dirV dirOf
    rw [if_neg h1, decide_eq_false h1, e1]
    rfl
/-- what first answers -/
def fstV : Option DV → Value
  | none => .tuple #[.agg #[.string ⟨#[]⟩, .string ⟨#[]⟩, .bool false], .bool false]
  | some d => .tuple #[.agg #[.string ⟨d.1.toArray⟩, .string ⟨d.2.1.toArray⟩, .bool d.2.2], .bool true]
set_option maxHeartbeats 2000000 in
theorem firstC (v : Value) (ds : List DV) (nm : List UInt8) (w : World) (hv : HoldsD w v ds) (hl : ds.length ≤ 1000000000000) :
    Calls Tryd.prog 41 #[v, .string ⟨nm.toArray⟩] w fun e w' => e = .returned (fstV (fndD ds nm)) ∧ Below w.heap.size w w' := by
  obtain ⟨ao, ca, b, rfl, hc⟩ := hv
  have C := hide' hc
  clear hc
  obtain ⟨n, en⟩ : ∃ n, n = ds.length := ⟨_, rfl⟩
  have N : Hid (ds.length = n) := en.symm
  rw [N.out] at hl ⊢
  clear en
  have T0 := hide' (tri_lit w (.string ⟨#[]⟩) (.string ⟨#[]⟩) (.bool false) 75)
  go_enter Tryd.func41, Tryd.ntmps41
  go_wp2_with fail
  go_loopw [10] (fun i wr => ∃ k : Nat, k ≤ n ∧ i = .int .i64 k ∧ Hid (∀ j (hj : j < ds.length), j < k → ¬ ds[j].1 = nm) ∧ Hid (TriK w w.heap.size wr)) (fun i _ => n - (intOf i).toNat)
  case atStart => exact ⟨0, Nat.zero_le _, rfl, fun j h hj => absurd hj (by omega), T0⟩
  case round =>
    clear T0
    obtain ⟨k, hk, rfl, A, T⟩ := hrel
    by_cases hlt : k < n
    · have G : Hid (k < ds.length) := by unfold Hid; rw [N.out]; exact hlt
      obtain ⟨hao, hblt, hcell⟩ := C.out (by have := G.out; omega)
      subst hao
      obtain ⟨h1, h2, h3⟩ := hcell k G.out
      have bel := T.out.2.1
      have c1 : wr.cell? ⟨b, k * 3, none⟩ = some (.string ⟨(ds[k]'G.out).1.toArray⟩) := by rw [bel.cell (p := ⟨b, k * 3, none⟩) hblt]; exact h1
      have c2 : wr.cell? ⟨b, k * 3 + 1, none⟩ = some (.string ⟨(ds[k]'G.out).2.1.toArray⟩) := by rw [bel.cell (p := ⟨b, k * 3 + 1, none⟩) hblt]; exact h2
      have c3 : wr.cell? ⟨b, k * 3 + 2, none⟩ = some (.bool (ds[k]'G.out).2.2) := by rw [bel.cell (p := ⟨b, k * 3 + 2, none⟩) hblt]; exact h3
      clear hcell h1 h2 h3 bel
      have T2 := fun x y z => hide' (tri_below T.out (below_alloc' wr (.cells #[.string x, .string y, .bool z] 75)))
      by_cases he : (ds[k]'G.out).1 = nm
      · have F : Hid (fndD ds nm = some (ds[k]'G.out)) := fnd_hit ds nm k G.out A.out he
        rw [he] at c1
        have FV : Hid (fstV (fndD ds nm) = .tuple #[.agg #[.string ⟨nm.toArray⟩, .string ⟨(ds[k]'G.out).2.1.toArray⟩, .bool (ds[k]'G.out).2.2], .bool true]) := by unfold Hid; rw [F.out, ← he]; rfl
        clear he F
        generalize (ds[k]'G.out).2.1 = p2 at c2 FV
        generalize (ds[k]'G.out).2.2 = p3 at c3 FV
        have T3 := T2 ⟨nm.toArray⟩ ⟨p2.toArray⟩ p3
        clear T2 T
        obtain ⟨⟨u0, u1, u2, bk⟩, bel, hle⟩ := T3.out
        obtain ⟨⟨d0, d1, d2⟩, f0, f1, f2⟩ := cells3K bk
        have BK := hide' bk
        have hlt2 := bk.2
        clear bk T3
        go_wp2_with fail
        obtain ⟨q0, q1, q2, q3⟩ := three_store BK.out bel hle (.string ⟨nm.toArray⟩) (.string ⟨p2.toArray⟩) (.bool p3)
        exact bodyPost_ret (v := .tuple #[.agg #[.string ⟨nm.toArray⟩, .string ⟨p2.toArray⟩, .bool p3], .bool true]) (by simp [results, Tryd.results41, go_sem, q0, q1, q2]) rfl ⟨by rw [FV.out], q3⟩
      · have A2 : Hid (∀ j (hj : j < ds.length), j < k + 1 → ¬ ds[j].1 = nm) := by
          intro j h hj
          by_cases hjk : j = k
          · subst hjk; exact he
          · exact A.out j h (by omega)
        have hne := ba_eql' _ _ he
        have hne2 : ((ds[k]'G.out).1 == nm) = false := by simpa using he
        clear he
        generalize (ds[k]'G.out).1 = p1 at c1 hne hne2
        generalize (ds[k]'G.out).2.1 = p2 at c2
        generalize (ds[k]'G.out).2.2 = p3 at c3
        have T3 := T2 ⟨p1.toArray⟩ ⟨p2.toArray⟩ p3
        clear T2 T
        go_wp2_with fail
        go_roundw
        case rel => exact ⟨k + 1, by omega, by go_num, A2, T3⟩
        case measure => simp [intOf]; omega
    · have F : Hid (fndD ds nm = none) := fnd_none ds nm (fun j hj => A.out j hj (by have := N.out; omega))
      have FV : Hid (fstV (fndD ds nm) = .tuple #[.agg #[.string ⟨#[]⟩, .string ⟨#[]⟩, .bool false], .bool false]) := by unfold Hid; rw [F.out]; rfl
      obtain ⟨⟨u0, u1, u2, bk⟩, bel, hle⟩ := T.out
      obtain ⟨⟨d0, d1, d2⟩, f0, f1, f2⟩ := cells3K bk
      have BK := hide' bk
      have hlt2 := bk.2
      clear bk T F
      go_wp2_with fail
      obtain ⟨q0, q1, q2, q3⟩ := three_store BK.out bel hle (.string ⟨#[]⟩) (.string ⟨#[]⟩) (.bool false)
      exact bodyPost_ret (v := .tuple #[.agg #[.string ⟨#[]⟩, .string ⟨#[]⟩, .bool false], .bool false]) (by simp [results, Tryd.results41, go_sem, q0, q1, q2]) rfl ⟨by rw [FV.out], q3⟩
set_option maxHeartbeats 1000000 in
theorem toldC (v : Value) (ds : List DV) (nm : List UInt8) (w : World) (hv : HoldsD w v ds) (hl : ds.length ≤ 1000000000000) :
    Calls Tryd.prog 23 #[v, .string ⟨nm.toArray⟩] w fun e w' => e = .returned (.bool (hasD ds nm)) ∧ Below w.heap.size w w' := by
  have c := hide' (firstC v ds nm w hv hl)
  obtain ⟨ao, ca, b, rfl, _⟩ := hv
  unfold hasD
  cases h : fndD ds nm with
  | none =>
    rw [h] at c
    clear h
    unfold fstV at c
    go_enter Tryd.func23, Tryd.ntmps23
    go_wp2_with fail
    refine c.out.mono ?_
    rintro e w1 ⟨rfl, h1⟩
    have B1 := hide' h1
    clear h1 c
    go_wp2_with fail
    go_ret
    exact ⟨rfl, B1.out.trans ((below_alloc' w1 _).mono B1.out.size)⟩
  | some d =>
    rw [h] at c
    clear h
    unfold fstV at c
    go_enter Tryd.func23, Tryd.ntmps23
    go_wp2_with fail
    refine c.out.mono ?_
    rintro e w1 ⟨rfl, h1⟩
    have B1 := hide' h1
    clear h1 c
    go_wp2_with fail
    go_ret
    exact ⟨rfl, B1.out.trans ((below_alloc' w1 _).mono B1.out.size)⟩
set_option maxHeartbeats 1000000 in
theorem limitC (v : Value) (ds : List DV) (nm : List UInt8) (w : World) (hv : HoldsD w v ds) (hl : ds.length ≤ 1000000000000) (hm : ∀ d ∈ ds, d.2.1.length ≤ 4194304) :
    Calls Tryd.prog 25 #[v, .string ⟨nm.toArray⟩] w fun e w' => e = .returned (.int .i64 (numD ds nm)) ∧ Below w.heap.size w w' := by
  have c := hide' (firstC v ds nm w hv hl)
  obtain ⟨ao, ca, b, rfl, _⟩ := hv
  unfold numD
  cases h : fndD ds nm with
  | none =>
    rw [h] at c
    clear h hm
    unfold fstV at c
    unfold numO
    go_enter Tryd.func25, Tryd.ntmps25
    go_wp2_with fail
    refine c.out.mono ?_
    rintro e w1 ⟨rfl, h1⟩
    have B1 := hide' h1
    clear h1 c
    go_wp2_with fail
    go_ret
    exact ⟨rfl, B1.out.trans ((below_alloc' w1 _).mono B1.out.size)⟩
  | some d =>
    rw [h] at c
    have hd := hm d (List.mem_of_find?_eq_some h)
    clear h hm
    unfold fstV at c
    have c2 := hide' (fun W => secondsTok ⟨d.2.1.toArray⟩ W (by rw [size_l]; omega))
    have hin := secs_in d.2.1
    have E : Hid (numO (some d) = max (secs d.2.1) 0) := rfl
    rw [E.out]
    clear E
    simp only at c2 c
    generalize d.2.1 = p2 at c c2 hd hin ⊢
    generalize secs p2 = x at c2 hin ⊢
    go_enter Tryd.func25, Tryd.ntmps25
    go_wp2_with fail
    refine c.out.mono ?_
    rintro e w1 ⟨rfl, h1⟩
    have B1 := hide' h1
    clear h1 c
    go_wp2_with fail
    refine (c2.out _).mono ?_
    rintro e w9 ⟨rfl, ew⟩
    rw [ew]
    clear ew w9
    go_wp2_with fail
    go_ret
    refine ⟨?_, B1.out.trans ((below_alloc' w1 _).mono B1.out.size)⟩
    first
      | rfl
      | (congr 2; split <;> omega)
      | (congr 2; omega)
set_option maxHeartbeats 1000000 in
theorem maxStaleC (v : Value) (ds : List DV) (w : World) (hv : HoldsD w v ds) (hl : ds.length ≤ 1000000000000) (hm : ∀ d ∈ ds, d.2.1.length ≤ 4194304) :
    Calls Tryd.prog 26 #[v] w fun e w' => e = .returned (.int .i64 (stlO (fndD ds msb))) ∧ Below w.heap.size w w' := by
  have c := hide' (firstC v ds msb w hv hl)
  obtain ⟨ao, ca, b, rfl, _⟩ := hv
  cases h : fndD ds msb with
  | none =>
    rw [h] at c
    clear h hm
    unfold fstV at c
    unfold stlO
    go_enter Tryd.func26, Tryd.ntmps26
    go_wp2_with fail
    refine c.out.mono ?_
    rintro e w1 ⟨rfl, h1⟩
    have B1 := hide' h1
    clear h1 c
    go_wp2_with fail
    go_ret
    exact ⟨rfl, B1.out.trans ((below_alloc' w1 _).mono B1.out.size)⟩
  | some d =>
    rw [h] at c
    have hd := hm d (List.mem_of_find?_eq_some h)
    clear h hm
    unfold fstV at c
    have c2 := hide' (fun W => secondsTok ⟨d.2.1.toArray⟩ W (by rw [size_l]; omega))
    have E : Hid (stlO (some d) = if d.2.2 = true then secs d.2.1 else 2147483648) := rfl
    rw [E.out]
    clear E
    simp only at c2 c
    generalize d.2.1 = p2 at c c2 hd ⊢
    generalize secs p2 = x at c2 ⊢
    cases hz : d.2.2 with
    | false =>
      rw [hz] at c
      rw [if_neg (by decide)]
      clear hz
      go_enter Tryd.func26, Tryd.ntmps26
      go_wp2_with fail
      refine c.out.mono ?_
      rintro e w1 ⟨rfl, h1⟩
      have B1 := hide' h1
      clear h1 c
      go_wp2_with fail
      go_ret
      exact ⟨rfl, B1.out.trans ((below_alloc' w1 _).mono B1.out.size)⟩
    | true =>
      rw [hz] at c
      rw [if_pos rfl]
      clear hz
      go_enter Tryd.func26, Tryd.ntmps26
      go_wp2_with fail
      refine c.out.mono ?_
      rintro e w1 ⟨rfl, h1⟩
      have B1 := hide' h1
      clear h1 c
      go_wp2_with fail
      refine (c2.out _).mono ?_
      rintro e w9 ⟨rfl, ew⟩
      rw [ew]
      clear ew w9
      go_wp2_with fail
      go_ret
      exact ⟨rfl, B1.out.trans ((below_alloc' w1 _).mono B1.out.size)⟩
end Go.Proofs.YtlhhcpbfjjhbfabDoor
