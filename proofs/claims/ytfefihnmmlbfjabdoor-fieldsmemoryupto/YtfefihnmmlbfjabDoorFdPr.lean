/- What Print prints, in plain words; a text appended to bytes; the contract of Print. -/
import Derived.Test.YtfefihnmmlbfjabDoorFdE
import Derived.Lib.AppendStr
namespace Go.Proofs.YtfefihnmmlbfjabDoor
open Go.RowKit
def lineB (f : List UInt8 × List UInt8) : List UInt8 := f.1 ++ [58, 32] ++ f.2 ++ [13, 10]
def printOf (fs : FL) : List UInt8 := (fs.map lineB).flatten
def printP (fs : FL) : List UInt8 × Int := if fs.all goodF = false then ([], 40) else if 100 < fs.length then ([], 42) else (printOf fs, 0)
theorem lineB_len (f : List UInt8 × List UInt8) : (lineB f).length = f.1.length + f.2.length + 4 := by
  unfold lineB; simp only [List.length_append, List.length_cons, List.length_nil]; omega
theorem print_snoc (fs : FL) (j : Nat) (h : j < fs.length) : printOf (fs.take (j + 1)) = printOf (fs.take j) ++ lineB fs[j] := by
  unfold printOf
  rw [List.take_succ_eq_append_getElem h, List.map_append, List.flatten_append]
  simp
theorem print_take (fs : FL) (j : Nat) : (printOf (fs.take j)).length ≤ (printOf fs).length := by
  have e : printOf fs = printOf (fs.take j) ++ printOf (fs.drop j) := by
    unfold printOf
    rw [← List.flatten_append, ← List.map_append, List.take_append_drop]
  rw [e, List.length_append]; omega
/-- a block that holds two texts -/
def Two2 (w : World) (b : Nat) (x y : List UInt8) : Prop := w.heap[b]? = some (.cells #[S x, S y] 43)
theorem two2_cell {w : World} {b : Nat} {x y : List UInt8} (h : Two2 w b x y) : w.cell? ⟨b, 0, none⟩ = some (.string ⟨x.toArray⟩) ∧ w.cell? ⟨b, 1, none⟩ = some (.string ⟨y.toArray⟩) := by
  unfold Two2 at h
  constructor <;> simp [World.cell?, h, S]
theorem two2_new (w : World) (x y : List UInt8) : Two2 (w.alloc (.cells #[S x, S y] 43)) w.heap.size x y := by
  unfold Two2; rw [heap_alloc_new]
/-- a text's bytes appended -/
theorem appStr {ops : Array Oper} {rest : List Oper} {o : Oper} {a : Act} {Q : Exit → Act → World → Prop} {wr : World} (hgd : o.guard = none) (s z : Operand)
    (ho : o.op = .call { callee := .builtin .append, args := #[s, z], argTypes := #[22, 9] }) (w0 : World) (v : Value) (ps : List UInt8) (hs : a.eval s = v) (hown : Own w0 v ps wr)
    (q : List UInt8) (hz : a.eval z = .string ⟨q.toArray⟩) (hlen : ps.length + q.length ≤ 140737488355328)
    (h : ∀ v' w', Own w0 v' (ps ++ q) w' → (∀ b x y, Two2 wr b x y → Two2 w' b x y) → wpList Tryd.prog ops Q rest (a.put o.dst v') w') : wpList Tryd.prog ops Q (o :: rest) a wr := by
  obtain ⟨i0, hi, hz0, hz1, hz2⟩ := info_parts Tryd.info5
  have hsz := hown.2.size
  have hq : (⟨q.toArray⟩ : ByteArray).size = q.length := size_l q
  have hc : Lib.strCells ⟨q.toArray⟩ = q.map B := by unfold Lib.strCells B; simp
  refine Lib.wpList_append_own_string _ hgd s z 22 9 ho w0.heap.size 5 i0 Tryd.underlying22 Tryd.underlying9 hi hz0 hz1 hz2 v ps.length (ps.map B) hs hown.1 ⟨q.toArray⟩ hz (by rw [hq]; unfold maxLen; omega) (by rw [hq]; exact hlen) hsz ?_
  intro v' w' h1 h2 _
  rw [hq, hc] at h1
  refine h v' w' ⟨by rw [List.map_append, List.length_append]; exact h1, ?_⟩ ?_
  · refine Below.grown hown.2 h2 (by omega) ?_
    intro k hk
    exact (hown.1.lt k hk).1
  · intro b x y hb
    unfold Two2 at hb ⊢
    have hlt : b < wr.heap.size := (Array.getElem?_eq_some_iff.1 hb).1
    rw [h2.block b hlt ?_]
    · exact hb
    · intro e
      obtain ⟨_, h3 | ⟨g, cap, cur, hv, _, hh, _⟩⟩ := hown.1
      · rw [h3.1] at e; simp [Value.ownBlock] at e
      · rw [hv] at e
        simp only [Value.ownBlock, Option.some.injEq] at e
        subst e
        rw [hh] at hb
        simp at hb
set_option maxRecDepth 20000 in
set_option maxHeartbeats 4000000 in
theorem printTok (v : Value) (fs : FL) (w : World) (hv : HoldsF w v fs) (hfit : Fit fs) (hl : fs.length ≤ 140737488351232) (hP : (printOf fs).length ≤ 140737488355328) :
    Calls Tryd.prog 12 #[v] w fun e w' => ∃ u, e = .returned (.tuple #[u, .int .i64 (printP fs).2]) ∧ Own w u (printP fs).1 w' := by
  obtain ⟨ao, ca, b1, o1, rfl, hca⟩ := holdsF_parts hv
  have CA : Hid _ := hca
  have FT : Hid _ := hfit
  clear hca hv hfit
  obtain ⟨n, en⟩ : ∃ n, n = fs.length := ⟨_, rfl⟩
  have N : Hid (fs.length = n) := en.symm
  rw [N.out] at hl ⊢
  have HP := hide' hP
  clear en hP
  go_enter Tryd.func12, Tryd.ntmps12
  go_wp2_with fail
  go_loopw [11] (fun i wr => ∃ j : Nat, j ≤ n ∧ i = .int .i64 j ∧ Hid ((fs.take j).all goodF = true) ∧ Hid (Below w.heap.size w wr)) (fun i _ => n - (intOf i).toNat)
  case atStart => exact ⟨0, Nat.zero_le _, rfl, by unfold Hid; simp, Below.refl _ _⟩
  case round =>
    obtain ⟨j, hj, rfl, hg, hb⟩ := hrel
    by_cases hlt : j < n
    · have G : Hid (j < fs.length) := by unfold Hid; rw [N.out]; exact hlt
      obtain ⟨hao, hblt, hcell⟩ := CA.out (by have := G.out; omega)
      subst hao
      obtain ⟨h1, h2⟩ := hcell j G.out
      have c1 : wr.cell? ⟨b1, o1 + j * 2, none⟩ = some (.string ⟨(fs[j]'G.out).1.toArray⟩) := by
        rw [hb.out.cell (p := ⟨b1, o1 + j * 2, none⟩) hblt]; exact h1
      have c2 : wr.cell? ⟨b1, o1 + j * 2 + 1, none⟩ = some (.string ⟨(fs[j]'G.out).2.toArray⟩) := by
        rw [hb.out.cell (p := ⟨b1, o1 + j * 2 + 1, none⟩) hblt]; exact h2
      obtain ⟨hs1, hs2⟩ := fit_at FT.out j G.out
      have cG := fun W => goodTok ⟨(fs[j]'G.out).1.toArray⟩ ⟨(fs[j]'G.out).2.toArray⟩ W (by rw [size_l]; exact hs1) (by rw [size_l]; exact hs2)
      simp only at cG
      clear hcell h1 h2
      cases hgf : goodF (fs[j]'G.out) with
      | true =>
        have R : Hid ((fs.take (j + 1)).all goodF = true) := by
          unfold Hid; rw [List.take_succ_eq_append_getElem G.out, List.all_append, hg.out]; simp [hgf]
        rw [show ((fs[j]'G.out).1, (fs[j]'G.out).2) = fs[j]'G.out from rfl, hgf] at cG
        have CG := hide' cG
        clear cG hgf hs1 hs2
        generalize (fs[j]'G.out).1 = q1 at c1 CG
        generalize (fs[j]'G.out).2 = q2 at c2 CG
        go_wp2_with (go_at_call 25; refine (CG.out _).mono ?_; rintro e w2 ⟨rfl, hb2⟩; have B2 := hide' (bt' (bt' hb.out (below_alloc' wr (.cells #[.string ⟨q1.toArray⟩, .string ⟨q2.toArray⟩] 43))) hb2); clear hb2 c1 c2)
        go_roundw
        case rel => exact ⟨j + 1, by omega, by go_num, R, B2⟩
        case measure => simp [intOf]; omega
      | false =>
        have R : Hid (printP fs = ([], 40)) := by
          unfold Hid printP
          rw [if_pos]
          rw [Bool.eq_false_iff]
          intro h
          have := List.all_eq_true.1 h _ (List.getElem_mem G.out)
          rw [hgf] at this
          cases this
        rw [show ((fs[j]'G.out).1, (fs[j]'G.out).2) = fs[j]'G.out from rfl, hgf] at cG
        have CG := hide' cG
        clear cG hgf hs1 hs2
        generalize (fs[j]'G.out).1 = q1 at c1 CG
        generalize (fs[j]'G.out).2 = q2 at c2 CG
        go_wp2_with (go_at_call 25; refine (CG.out _).mono ?_; rintro e w2 ⟨rfl, hb2⟩; have B2 := hide' (bt' (bt' hb.out (below_alloc' wr (.cells #[.string ⟨q1.toArray⟩, .string ⟨q2.toArray⟩] 43))) hb2); clear hb2 c1 c2)
        go_ret2
        rw [R.out]
        exact ⟨_, rfl, own_nil _ _ B2.out⟩
    · have hall : fs.all goodF = true := by
        have := hg.out; rwa [List.take_of_length_le (by rw [N.out]; omega)] at this
      by_cases h100 : 100 < n
      · have R : Hid (printP fs = ([], 42)) := by
          unfold Hid printP
          rw [if_neg (by rw [hall]; simp), if_pos (by rw [N.out]; exact h100)]
        clear hall
        go_wp2_with fail
        go_ret2
        rw [R.out]
        exact ⟨_, rfl, own_nil _ _ hb.out⟩
      · have R : Hid (printP fs = (printOf fs, 0)) := by
          unfold Hid printP
          rw [if_neg (by rw [hall]; simp), if_neg (by rw [N.out]; exact h100)]
        clear hall
        obtain ⟨wa, ewa⟩ : ∃ wa, wa = wr := ⟨_, rfl⟩
        rw [← ewa] at hb ⊢
        clear ewa
        go_wp2_with fail
        go_loopw [6, 24] (fun v i wr => ∃ j : Nat, j ≤ n ∧ i = .int .i64 j ∧ Hid (Own wa v (printOf (fs.take j)) wr)) (fun _ i _ => n - (intOf i).toNat)
        case atStart => exact ⟨0, Nat.zero_le _, rfl, own_nil _ _ (Below.refl _ _)⟩
        case round =>
          obtain ⟨j, hj, rfl, ho⟩ := hrel
          by_cases hlt : j < n
          · have G : Hid (j < fs.length) := by unfold Hid; rw [N.out]; exact hlt
            obtain ⟨hao, hblt, hcell⟩ := CA.out (by have := G.out; omega)
            subst hao
            obtain ⟨h1, h2⟩ := hcell j G.out
            have hblta : b1 < wa.heap.size := Nat.lt_of_lt_of_le hblt hb.out.size
            have c1 : wr.cell? ⟨b1, o1 + j * 2, none⟩ = some (.string ⟨(fs[j]'G.out).1.toArray⟩) := by
              rw [ho.out.2.cell (p := ⟨b1, o1 + j * 2, none⟩) hblta, hb.out.cell (p := ⟨b1, o1 + j * 2, none⟩) hblt]; exact h1
            have c2 : wr.cell? ⟨b1, o1 + j * 2 + 1, none⟩ = some (.string ⟨(fs[j]'G.out).2.toArray⟩) := by
              rw [ho.out.2.cell (p := ⟨b1, o1 + j * 2 + 1, none⟩) hblta, hb.out.cell (p := ⟨b1, o1 + j * 2 + 1, none⟩) hblt]; exact h2
            have R : Hid (printOf (fs.take (j + 1)) = printOf (fs.take j) ++ (fs[j]'G.out).1 ++ [58, 32] ++ (fs[j]'G.out).2 ++ [13, 10]) := by
              unfold Hid; rw [print_snoc fs j G.out]; unfold lineB; simp only [List.append_assoc]
            have LN : Hid ((printOf (fs.take j)).length + (fs[j]'G.out).1.length + (fs[j]'G.out).2.length + 4 ≤ 140737488355328) := by
              unfold Hid
              have t1 := print_take fs (j + 1)
              rw [print_snoc fs j G.out, List.length_append, lineB_len] at t1
              have t2 := HP.out
              omega
            clear hcell h1 h2
            generalize (fs[j]'G.out).1 = q1 at c1 R LN
            generalize (fs[j]'G.out).2 = q2 at c2 R LN
            generalize printOf (fs.take j) = acc at ho R LN
            have T0 := hide' (two2_new wr q1 q2)
            have O0 := hide' (own_mono ho.out (below_alloc' wr (.cells #[S q1, S q2] 43)))
            go_wp2_with (first
              | (at_builtin; refine appStr rfl (.tmp 28) (.tmp 30) rfl wa _ acc rfl O0.out q1 rfl (by have := LN.out; omega) ?_; intro v2 w2 ho2 k2; have O2 := hide' ho2; have T2 := hide' (k2 _ _ _ T0.out); have d2 := (two2_cell T2.out).2; clear ho2 k2 T0 O0 c1 c2)
              | (at_builtin; refine appStr rfl (.tmp 32) _ rfl wa _ _ rfl O2.out [58, 32] rfl (by have := LN.out; simp only [List.length_append, List.length_cons, List.length_nil]; omega) ?_; intro v3 w3 ho3 k3; have O3 := hide' ho3; have T3 := hide' (k3 _ _ _ T2.out); have d3 := (two2_cell T3.out).2; clear ho3 k3 T2 O2 d2)
              | (at_builtin; refine appStr rfl (.tmp 34) (.tmp 36) rfl wa _ _ rfl O3.out q2 rfl (by have := LN.out; simp only [List.length_append, List.length_cons, List.length_nil]; omega) ?_; intro v4 w4 ho4 k4; have O4 := hide' ho4; clear ho4 k4 T3 O3 d3)
              | (at_builtin; refine appStr rfl (.tmp 38) _ rfl wa _ _ rfl O4.out [13, 10] rfl (by have := LN.out; simp only [List.length_append, List.length_cons, List.length_nil]; omega) ?_; intro v5 w5 ho5 k5; have O5 := hide' ho5; clear ho5 k5 O4))
            go_roundw
            case rel => exact ⟨j + 1, by omega, by go_num, by unfold Hid; rw [R.out]; exact O5.out⟩
            case measure => simp [intOf]; omega
          · have E : Hid (fs.take j = fs) := List.take_of_length_le (by rw [N.out]; omega)
            rw [E.out] at ho
            go_wp2_with fail
            go_ret2
            rw [R.out]
            exact ⟨_, rfl, own_base ho.out hb.out⟩
end Go.Proofs.YtfefihnmmlbfjabDoor
