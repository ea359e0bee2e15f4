/- A row of numbers that a call itself made; the contracts of copyInts, cut and CopyFate. The contract of CopyFate. The contract of the laws' step: the op as it is meant. -/
import Derived.Test.YtijnjgnckipghaaGreatBw18
import Derived.Test.YtijnjgnckipghaaGreatBw11
import Derived.Test.YtijnjgnckipghaaGreatBw4
namespace Go.Proofs.YtijnjgnckipghaaGreat
open Go.RowKit
theorem Tryz.info3 : (Tryz.prog.info? 3).map (fun i => (i.zero, i.size, i.bytes)) = some (some (.int .i64 0), 1, 8) := by kernel_rfl
def I (z : Int) : Value := .int .i64 z
/-- v holds just the numbers zs, in a row of the call's own; what lay below is as it was -/
def OwnI (w0 : World) (v : Value) (zs : List Int) (w : World) : Prop := w.ownsRow w0.heap.size 3 1 v zs.length (zs.map I) ∧ Below w0.heap.size w0 w
theorem ownI_empty (w0 : World) : OwnI w0 (.slice (some ⟨w0.heap.size, 0, none⟩) 0 0) [] (w0.alloc (.cells #[] 3)) :=
  ⟨World.ownsRow_lit w0 #[] 0 (Nat.le_refl _) (by decide) rfl, (Below.refl _ _).alloc (Nat.le_refl _) _⟩
theorem holdsI_own {w0 w : World} {v : Value} {zs : List Int} (h : OwnI w0 v zs w) : HoldsI w v zs := by
  obtain ⟨hl, h1 | ⟨g, cap, cur, rfl, hg, hh, hr⟩⟩ := h.1
  · obtain ⟨rfl, hn⟩ := h1
    obtain rfl : zs = [] := List.eq_nil_of_length_eq_zero hn
    exact ⟨none, 0, rfl, fun _ => rfl, Nat.le_refl _, fun h => absurd rfl h⟩
  · refine ⟨_, cap, rfl, fun e => (by cases e), hr.1, fun _ => ⟨g, 0, rfl, (h.1.lt g rfl).2, fun j hj => ?_⟩⟩
    rw [Nat.zero_add, h.1.cellAt j (by omega)]
    simp [hj, I]
theorem appAllI {ops : Array Oper} {rest : List Oper} {o : Oper} {a : Act} {Q : Exit → Act → World → Prop} {wr : World} (hgd : o.guard = none) (s z : Operand)
    (ho : o.op = .call { callee := .builtin .append, args := #[s, z], argTypes := #[23, 23] }) (w0 : World) (v : Value) (ps : List Int) (hs : a.eval s = v) (hown : OwnI w0 v ps wr)
    (u : Value) (qs : List Int) (hz : a.eval z = u) (hu : HoldsI wr u qs) (hlen : (ps.length + qs.length) * 8 ≤ 140737488355328)
    (h : ∀ v' w', OwnI w0 v' (ps ++ qs) w' → wr.grownBy w' v.ownBlock → wpList Tryz.prog ops Q rest (a.put o.dst v') w') : wpList Tryz.prog ops Q (o :: rest) a wr := by
  obtain ⟨i0, hi, hz0, hz1, hz2⟩ := info_parts Tryz.info3
  have hsz := hown.2.size
  obtain ⟨ao, cap, rfl, h0, hcp, hc⟩ := hu
  have key : ∀ (ad : Addr), ao = some ad → (∀ j x, (qs.map I)[j]? = some x → wr.cell? (ad.add j) = some x) → wpList Tryz.prog ops Q (o :: rest) a wr := by
    intro ad e hnews
    subst e
    refine wpList_append_own _ hgd s z 23 ho w0.heap.size 3 i0 (.int .i64 0) 1 8 Tryz.underlying23 hi hz0 hz1 hz2 rfl (by decide) v ps.length (ps.map I) hs hown.1 ad qs.length cap (qs.map I) hz (by simp) hnews ?_ (by unfold maxLen; omega) (by omega) hsz ?_
    · intro u hu; obtain ⟨x, _, rfl⟩ := List.mem_map.1 hu; rfl
    · intro v' w' h1 h2 _
      refine h v' w' ⟨by rw [List.map_append, List.length_append]; exact h1, ?_⟩ h2
      refine Below.grown hown.2 h2 (by omega) ?_
      intro k hk
      exact (hown.1.lt k hk).1
  by_cases hq : qs = []
  · subst hq
    cases ao with
    | none =>
      obtain rfl := h0 rfl
      refine wpList_append_own_none hgd s z 23 ho w0.heap.size 3 i0 1 Tryz.underlying23 hi v ps.length (ps.map I) hs hown.1 hz ?_
      exact h v wr (by rw [List.append_nil]; exact hown) ⟨rfl, rfl, rfl, Nat.le_refl _, fun _ _ _ => rfl⟩
    | some ad => exact key ad rfl (fun j x hj => by simp at hj)
  · obtain ⟨b, off, rfl, hlt, hcell⟩ := hc hq
    refine key ⟨b, off, none⟩ rfl (fun j x hj => ?_)
    have e : (⟨b, off, none⟩ : Addr).add j = ⟨b, off + j, none⟩ := Go.WideShapes.add_plain _ _ _
    rw [e]
    obtain ⟨hj1, hj2⟩ := List.getElem?_eq_some_iff.1 hj
    rw [List.length_map] at hj1
    rw [hcell j hj1, ← hj2]
    simp [I]
theorem takeO_run (x : Option Addr) (n cap : Nat) (hi : 300 ≤ n) (hc : n ≤ cap) (hn : x = none → n = 0) (w : World) : Sem.run Tryz.prog (Instr.slice 88 (.slice x n cap) none (some (.int .i64 300)) none) w = .ok (.slice x 300 cap) w := by
  have hel : Tryz.prog.elem 88 = 83 := by kernel_rfl
  have hh := run_slice_h (P := Tryz.prog) w 88 x n cap (by rw [hel]; exact Tryz.underlying88) .i64 300 (by omega) (by omega)
  have h3 : ((300 : Int)).toNat = 300 := rfl
  rw [hel, Tryz.sizeOf83] at hh
  simp only [Result.andThen, sliced, h3] at hh
  rw [hh]
  cases x with
  | none => have := hn rfl; omega
  | some a => simp [Addr.add]
theorem holdsO_take {w : World} {ao : Option Addr} {cap : Nat} {os : List OpT} (h : HoldsO w (.slice ao os.length cap) os) (i : Nat) (hi : i ≤ os.length) : HoldsO w (.slice ao i cap) (os.take i) := by
  obtain ⟨ao', cap', e, h0, hcp, hc⟩ := h
  simp only [Value.slice.injEq] at e
  obtain ⟨rfl, _, rfl⟩ := e
  have hl : (os.take i).length = i := by rw [List.length_take]; omega
  refine ⟨ao, cap, by rw [hl], h0, by omega, fun hne => ?_⟩
  obtain ⟨b, off, rfl, hlt, hcell⟩ := hc (fun e => hne (by rw [e]; simp))
  exact ⟨b, off, rfl, hlt, fun j hj => by
    have := hcell j (by omega)
    simpa using this⟩
end Go.Proofs.YtijnjgnckipghaaGreat
namespace Go.Proofs.YtijnjgnckipghaaGreat
open Go.RowKit
theorem cells_2 {b : Nat} {W : World} {v0 v1 : Value} (h : Blk b W [v0, v1]) : (W.cell? ⟨b, 0, none⟩ = some v0 ∧ W.cell? ⟨b, 1, none⟩ = some v1) ∧ (W.frozen? ⟨b, 0, none⟩ = false ∧ W.frozen? ⟨b, 1, none⟩ = false) :=
  ⟨⟨(h.1 0 (by simp)).1, (h.1 1 (by simp)).1⟩, ⟨(h.1 0 (by simp)).2, (h.1 1 (by simp)).2⟩⟩
theorem holdsI_row {base : Nat} {w : World} {v : Value} {zs : List Int} (h : w.ownsRow base 3 1 v zs.length (zs.map I)) : HoldsI w v zs := by
  obtain ⟨hl, h1 | ⟨g, cap, cur, rfl, hg, hh, hr⟩⟩ := id h
  · obtain ⟨rfl, hn⟩ := h1
    obtain rfl : zs = [] := List.eq_nil_of_length_eq_zero hn
    exact ⟨none, 0, rfl, fun _ => rfl, Nat.le_refl _, fun h => absurd rfl h⟩
  · refine ⟨_, cap, rfl, fun e => (by cases e), hr.1, fun _ => ⟨g, 0, rfl, (h.lt g rfl).2, fun j hj => ?_⟩⟩
    rw [Nat.zero_add, h.cellAt j (by omega)]
    simp [hj, I]
/-- two rows of two cells, one behind the other, of the call's own -/
structure Fat (w : World) (k v : Value) (w' : World) : Prop where
  b1 : Blk (w.heap.size + 1) w' [.int .i64 0, .slice none 0 0]
  b2 : Blk (w.heap.size + 1 + 1) w' [k, v]
  bel : Below w.heap.size w w'
theorem fat_start (w : World) (k a : Value) : Fat w k (.slice none 0 0) (((w.alloc (.cells #[k, a] 28)).alloc (.cells #[.int .i64 0, .slice none 0 0] 28)).alloc (.cells #[k, .slice none 0 0] 28)) := by
  have z1 : (w.alloc (.cells #[k, a] 28)).heap.size = w.heap.size + 1 := by simp
  have z2 : ((w.alloc (.cells #[k, a] 28)).alloc (.cells #[.int .i64 0, .slice none 0 0] 28)).heap.size = w.heap.size + 1 + 1 := by simp
  have b1 := cells_lit (w.alloc (.cells #[k, a] 28)) #[.int .i64 0, .slice none 0 0] 28
  have b2 := cells_lit ((w.alloc (.cells #[k, a] 28)).alloc (.cells #[.int .i64 0, .slice none 0 0] 28)) #[k, .slice none 0 0] 28
  rw [z1] at b1
  rw [z2] at b2
  have e1 := below_alloc' w (.cells #[k, a] 28)
  have e2 := below_alloc' (w.alloc (.cells #[k, a] 28)) (.cells #[.int .i64 0, .slice none 0 0] 28)
  have e3 := below_alloc' ((w.alloc (.cells #[k, a] 28)).alloc (.cells #[.int .i64 0, .slice none 0 0] 28)) (.cells #[k, .slice none 0 0] 28)
  exact ⟨cells_below b1 e3, b2, (e1.trans (e2.mono e1.size)).trans (e3.mono (by have := e1.size; have := e2.size; omega))⟩
theorem fat_below {w w1 w2 : World} {k v : Value} (h : Fat w k v w1) (hb : Below w1.heap.size w1 w2) : Fat w k v w2 := ⟨cells_below h.b1 hb, cells_below h.b2 hb, h.bel.trans (hb.mono h.bel.size)⟩
set_option maxRecDepth 20000 in
set_option maxHeartbeats 4000000 in
theorem copyFateC (k : Int) (kv : Value) (zs : List Int) (w : World) (hv : HoldsI w kv zs) (hl : zs.length ≤ 1000000000) :
    Calls Tryz.prog 38 #[.agg #[.int .i64 k, kv]] w fun e w' => ∃ u, e = .returned (.agg #[.int .i64 k, u]) ∧ HoldsI w' u zs ∧ Below w.heap.size w w' := by
  obtain ⟨ka, kc, hkv, _⟩ := id hv
  subst hkv
  have F := hide' (fat_start w (.int .i64 k) (.slice ka zs.length kc))
  have HV := hide' (holdsI_mono hv F.out.bel)
  have z3 : Hid ((((w.alloc (.cells #[.int .i64 k, .slice ka zs.length kc] 28)).alloc (.cells #[.int .i64 0, .slice none 0 0] 28)).alloc (.cells #[.int .i64 k, .slice none 0 0] 28)).heap.size = w.heap.size + 1 + 1 + 1) := by unfold Hid; simp
  rename_i hrest
  clear hv hrest
  obtain ⟨n, hn⟩ : ∃ n, n = zs.length := ⟨_, rfl⟩
  have HN := hide' hn
  rw [← hn] at F HV z3 hl ⊢
  clear hn
  go_enter Tryz.func38, Tryz.ntmps38
  go_wp2_with (at_builtin; refine appAllI rfl (.tmp 8) (.tmp 10) rfl _ _ [] rfl ⟨World.ownsRow_nil _ _ _ _, Below.refl _ _⟩ _ zs rfl HV.out (by have := HN.out; simp; omega) ?_; intro v2 w2 hown2 _; obtain ⟨va, vc, hv2⟩ := row_sl hown2.1; rw [List.nil_append, ← HN.out] at hv2; subst hv2; rw [List.nil_append] at hown2; have O2 := hide' hown2; have F2 := hide' (fat_below F.out hown2.2); clear hown2; obtain ⟨⟨x10, x11⟩, x12, x13⟩ := cells_2 F2.out.b1; obtain ⟨⟨x20, x21⟩, x22, x23⟩ := cells_2 F2.out.b2)
  have q := cells_2 (cells_put (cells_other (o := 1) F2.out.b1 (show w.heap.size + 1 ≠ w.heap.size + 1 + 1 by omega) (.slice va n vc)) [.int .i64 k, .slice va n vc] rfl)
  obtain ⟨⟨q0, q1⟩, _⟩ := q
  simp only [putFrom] at q0 q1
  have qb := ((F2.out.bel.setCell (p := ⟨w.heap.size + 1 + 1, 1, none⟩) (Nat.le_add_right _ 2) (.slice va n vc)).setCell (p := ⟨w.heap.size + 1, 0, none⟩) (Nat.le_succ _) (.int .i64 k)).setCell (p := ⟨w.heap.size + 1, 1, none⟩) (Nat.le_succ _) (.slice va n vc)
  have qr := row_poke (b := w.heap.size + 1) (o := 1) (x := .slice va n vc) (row_poke (b := w.heap.size + 1) (o := 0) (x := .int .i64 k) (row_poke (b := w.heap.size + 1 + 1) (o := 1) (x := .slice va n vc) O2.out.1 (by rw [z3.out]; omega)) (by rw [z3.out]; omega)) (by rw [z3.out]; omega)
  exact bodyPost_ret (v := .agg #[.int .i64 k, .slice va n vc]) (by simp [results, Tryz.results38, go_sem, q0, q1]) rfl ⟨.slice va n vc, rfl, holdsI_row qr, qb⟩
end Go.Proofs.YtijnjgnckipghaaGreat
namespace Go.Proofs.YtijnjgnckipghaaGreat
open Go.RowKit
def meant (a : Int) : Int := if a < 1 ∨ 6 < a then 6 else a
theorem cells_4 {b : Nat} {W : World} {v0 v1 v2 v3 : Value} (h : Blk b W [v0, v1, v2, v3]) : (W.cell? ⟨b, 0, none⟩ = some v0 ∧ W.cell? ⟨b, 1, none⟩ = some v1 ∧ W.cell? ⟨b, 2, none⟩ = some v2 ∧ W.cell? ⟨b, 3, none⟩ = some v3) ∧ (W.frozen? ⟨b, 0, none⟩ = false ∧ W.frozen? ⟨b, 1, none⟩ = false ∧ W.frozen? ⟨b, 2, none⟩ = false ∧ W.frozen? ⟨b, 3, none⟩ = false) :=
  ⟨⟨(h.1 0 (by simp)).1, (h.1 1 (by simp)).1, (h.1 2 (by simp)).1, (h.1 3 (by simp)).1⟩, ⟨(h.1 0 (by simp)).2, (h.1 1 (by simp)).2, (h.1 2 (by simp)).2, (h.1 3 (by simp)).2⟩⟩
theorem op_two (w : World) (o : Obj) (a n t d : Value) : Blk (w.heap.size + 1) ((w.alloc o).alloc (.cells #[a, n, t, d] 83)) [a, n, t, d] ∧ Below w.heap.size w ((w.alloc o).alloc (.cells #[a, n, t, d] 83)) := by
  have z1 : (w.alloc o).heap.size = w.heap.size + 1 := by simp
  have b1 := cells_lit (w.alloc o) #[a, n, t, d] 83
  rw [z1] at b1
  have e1 := below_alloc' w o
  have e2 := below_alloc' (w.alloc o) (.cells #[a, n, t, d] 83)
  exact ⟨b1, e1.trans (e2.mono e1.size)⟩
end Go.Proofs.YtijnjgnckipghaaGreat
