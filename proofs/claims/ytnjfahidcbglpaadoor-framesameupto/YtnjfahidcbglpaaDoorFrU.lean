/- The contract of the document's rule. -/
import Derived.Test.YtnjfahidcbglpaaDoorFrT
namespace Go.Proofs.YtnjfahidcbglpaaDoor
open Go.RowKit
theorem numR_neg (l : List UInt8) : numR l < 0 ↔ isNum l = false := by
  unfold numR
  cases isNum l with
  | false => simp
  | true => simp only [if_true]; constructor; intro h; omega; intro h; cases h
theorem numR_is {l : List UInt8} (h : isNum l = true) : numR l = (numF l : Int) := by unfold numR; rw [if_pos h]
/-- the elements all tell the first one's number -/
theorem all_num (x : List UInt8) (r : List (List UInt8)) : (isNum x && r.all (fun y => isNum y && decide (numF y = numF x))) = true ↔ ∀ y ∈ x :: r, ¬ numR y < 0 ∧ numR y = numR x := by
  rw [Bool.and_eq_true, List.all_eq_true]
  constructor
  · rintro ⟨h1, h2⟩ y hy
    have hn : isNum y = true ∧ numF y = numF x := by
      rcases List.mem_cons.1 hy with rfl | hy
      · exact ⟨h1, rfl⟩
      · have := h2 y hy
        rw [Bool.and_eq_true, decide_eq_true_eq] at this
        exact this
    refine ⟨fun h => ?_, ?_⟩
    · have := (numR_neg y).1 h
      rw [hn.1] at this; cases this
    · rw [numR_is hn.1, numR_is h1, hn.2]
  · intro h
    have num : ∀ y ∈ x :: r, isNum y = true := by
      intro y hy
      cases e : isNum y with
      | true => rfl
      | false => exact absurd ((numR_neg y).2 e) (h y hy).1
    have h1 := num x (by simp)
    refine ⟨h1, fun y hy => ?_⟩
    have h2 := num y (List.mem_cons_of_mem _ hy)
    have h3 := (h y (List.mem_cons_of_mem _ hy)).2
    rw [numR_is h1, numR_is h2] at h3
    rw [Bool.and_eq_true, decide_eq_true_eq]
    exact ⟨h2, by omega⟩
theorem lens_bad {els : List (List UInt8)} {k : Nat} (hk : k < els.length) (h0 : 0 < els.length) (h : numR els[k] < 0 ∨ ¬ numR els[k] = numR els[0]) : lensOf els = (0, 0, 60) := by
  cases els with
  | nil => simp at hk
  | cons x r =>
    rw [lens_cons, if_neg]
    intro ha
    have := (all_num x r).1 ha _ (List.getElem_mem hk)
    simp only [List.getElem_cons_zero] at h
    rcases h with h | h
    · exact this.1 h
    · exact h this.2
theorem lens_good {els : List (List UInt8)} (h0 : 0 < els.length) (h : ∀ j (hj : j < els.length), 0 ≤ numR els[j] ∧ numR els[j] = numR els[0]) : lensOf els = if (65536 : Int) < numR els[0] then ((0 : Int), (0 : Int), (71 : Int)) else ((1 : Int), numR els[0], (0 : Int)) := by
  cases els with
  | nil => simp at h0
  | cons x r =>
    simp only [List.getElem_cons_zero] at h ⊢
    have ha := (all_num x r).2 (fun y hy => by
      obtain ⟨j, hj, e⟩ := List.getElem_of_mem hy
      rw [← e]; exact ⟨by have := (h j hj).1; omega, (h j hj).2⟩)
    rw [lens_cons, if_pos ha]
    rw [Bool.and_eq_true] at ha
    rw [numR_is ha.1]
    by_cases h6 : 65536 < numF x
    · rw [if_pos h6, if_pos (by omega)]
    · rw [if_neg h6, if_neg (by omega)]
/-- a whole row of texts that a call made, appended -/
theorem appAllS {ops : Array Oper} {rest : List Oper} {o : Oper} {a : Act} {Q : Exit → Act → World → Prop} {wr : World} (hgd : o.guard = none) (s z : Operand)
    (ho : o.op = .call { callee := .builtin .append, args := #[s, z], argTypes := #[43, 43] }) (w0 : World) (v : Value) (ss : List (List UInt8)) (hs : a.eval s = v) (hown : OwnS w0 v ss wr)
    (w1 : World) (u : Value) (qs : List (List UInt8)) (hz : a.eval z = u) (hu : OwnS w1 u qs wr) (hlen : (ss.length + qs.length) * 16 ≤ 140737488355328)
    (h : ∀ v' w', OwnS w0 v' (ss ++ qs) w' → wpList Tryd.prog ops Q rest (a.put o.dst v') w') : wpList Tryd.prog ops Q (o :: rest) a wr := by
  obtain ⟨i0, hi, hz0, hz1, hz2⟩ := info_parts Tryd.info9
  have hsz := hown.2.size
  obtain ⟨hl, h1 | ⟨g, cap, cur, rfl, hg, hh, hr⟩⟩ := hu.1
  · obtain ⟨rfl, hn⟩ := h1
    obtain rfl : qs = [] := List.eq_nil_of_length_eq_zero hn
    refine wpList_append_own_none hgd s z 43 ho w0.heap.size 9 i0 1 Tryd.underlying43 hi v ss.length (ss.map S) hs hown.1 hz ?_
    exact h v wr (by rw [List.append_nil]; exact hown)
  · refine wpList_append_own _ hgd s z 43 ho w0.heap.size 9 i0 (.string ⟨#[]⟩) 1 16 Tryd.underlying43 hi hz0 hz1 hz2 rfl (by decide) v ss.length (ss.map S) hs hown.1 ⟨g, 0, none⟩ qs.length cap (qs.map S) hz (by simp) ?_ ?_ (by unfold maxLen; omega) (by omega) hsz ?_
    · intro j x hj
      have e : (⟨g, 0, none⟩ : Addr).add j = ⟨g, j, none⟩ := by rw [Go.WideShapes.add_plain, Nat.zero_add]
      rw [e]
      obtain ⟨hj1, hj2⟩ := List.getElem?_eq_some_iff.1 hj
      rw [List.length_map] at hj1
      rw [hu.1.cellAt j (by omega)]
      exact hj
    · intro u hu; obtain ⟨x, _, rfl⟩ := List.mem_map.1 hu; rfl
    · intro v' w' h1 h2 _
      refine h v' w' ⟨by rw [List.map_append, List.length_append]; exact h1, ?_⟩
      refine Below.grown hown.2 h2 (by omega) ?_
      intro k hk
      exact (hown.1.lt k hk).1
theorem flat_next (vs : List (List UInt8)) (k : Nat) (h : k < vs.length) : (vs.take (k + 1)).flatMap listOf = (vs.take k).flatMap listOf ++ listOf vs[k] := by
  rw [List.take_succ_eq_append_getElem h, List.flatMap_append]
  simp
theorem flat_len (vs : List (List UInt8)) (k : Nat) : ((vs.take k).flatMap listOf).length ≤ bulkT vs := by
  have h1 := toks_len (vs.take k)
  have h2 := bulkT_take vs k
  unfold toksOf at h1
  rw [List.length_map] at h1
  omega
theorem fit_of {fs : FL} (hb : bulkF fs ≤ 1048576) : Fit fs := fun f hf => by have := bulkF_mem fs f hf; omega
set_option maxRecDepth 20000 in
set_option maxHeartbeats 8000000 in
theorem ruleRef (m : Int) (v : Value) (fs : FL) (w : World) (hv : HoldsF w v fs) (hb : bulkF fs ≤ 1048576) :
    Calls Tryd.prog 26 #[.int .i64 m, v] w fun e w' => e = .returned (ansV (ruleOf m fs 0)) ∧ Below w.heap.size w w' := by
  have hfl := bulkF_len fs
  have b0 := below_alloc' w (.cells #[.int .i64 0, .int .i64 0] 28)
  have H0 := hide' (duo_lit w (.int .i64 0) (.int .i64 0) 28)
  have B0 := hide' b0
  have c1 := hide' (valuesRef v fs teb _ (holdsF_mono hv b0) (fit_of hb) (by decide) (by omega))
  have c2 := hide' (fun W (h : Below w.heap.size w W) => valuesRef v fs clb W (holdsF_mono hv h) (fit_of hb) (by decide) (by omega))
  have c3 := hide' (fun W (h : Below w.heap.size w W) => tokensRef v fs teb W (holdsF_mono hv h) hb (by decide))
  rw [vals_te] at c1 c3
  rw [vals_cl] at c2
  have l3 := hide' (toks_le fs TEb hb)
  have bv := bulk_vals fs CLb
  have r1 := hide' (rule_both (m := m) (s := 0) (fs := fs))
  have r2 := hide' (rule_cod (m := m) (s := 0) (fs := fs))
  have r3 := rule_len (m := m) (s := 0) (fs := fs)
  rw [lens_toks] at r3
  have r4 := hide' (rule_none (m := m) (s := 0) (fs := fs))
  have r3 := hide' r3
  generalize ruleOf m fs 0 = Q at r1 r2 r3 r4 ⊢
  generalize toksOf (valsOf fs TEb) = ws at c3 l3 r2
  have lv1 := vals_len fs TEb
  have lv2 := vals_len fs CLb
  generalize valsOf fs CLb = vs at c2 r1 r2 r3 r4 bv lv2
  generalize valsOf fs TEb = tv at c1 r1 r2 r3 r4 lv1
  have FN := hide' (flat_next vs)
  have FL' := hide' (flat_len vs)
  have MV := hide' (bulkT_mem vs)
  obtain ⟨ao, ca, b, o, rfl, _⟩ := holdsF_parts hv
  clear hv b0
  go_enter Tryd.func26, Tryd.ntmps26
  go_wp2_with fail
  refine c1.out.mono ?_
  rintro e w1 ⟨u1, rfl, ho1⟩
  have B1 := hide' (bt' B0.out ho1.2)
  have H1 := hide' (duo_below H0.out ho1.2)
  obtain ⟨a1, k1, g1, o1, hu1, _⟩ := holds_parts (holds_own ho1)
  subst hu1
  clear ho1 c1 H0 B0
  generalize tv.length = n1 at r1 r2 r3 r4 lv1 ⊢
  go_wp2_with fail
  refine (c2.out _ B1.out).mono ?_
  rintro e w2 ⟨u2, rfl, ho2⟩
  have B2 := hide' (bt' B1.out ho2.2)
  have H2 := hide' (duo_below H1.out ho2.2)
  obtain ⟨a2, k2, g2, o2, hu2, hc2⟩ := holds_parts (holds_own ho2)
  subst hu2
  have C2 := hide' hc2
  clear ho2 c2 H1 B1 hc2
  obtain ⟨n2, en⟩ : ∃ n2, n2 = vs.length := ⟨_, rfl⟩
  have N : Hid (vs.length = n2) := en.symm
  rw [N.out] at r1 r2 r3 r4 lv2 ⊢
  clear en
  by_cases h1 : 0 < n1
  · by_cases h2 : 0 < n2
    · have R := hide' (r1.out h1 h2)
      obtain ⟨i0, i1, f0, f1, fz⟩ := H2.out
      clear c3 r1 r2 r3 r4 l3 C2 FN FL' MV
      go_wp2_with fail
      obtain ⟨q0, q1⟩ := duo_store H2.out (.int .i64 0) (.int .i64 0)
      have qb := put2_below B2.out (Nat.le_refl _) (.int .i64 0) (.int .i64 0)
      unfold put2 at q0 q1 qb
      exact bodyPost_ret (v := ansV (0, 0, 61)) (by simp [results, Tryd.results26, go_sem, q0, q1, ansV]) rfl ⟨by rw [R.out], qb⟩
    · have R := hide' (r2.out h1 h2)
      have e2 : n2 = 0 := by omega
      subst e2
      clear h2 r1 r2 r3 r4 C2 FN FL' MV
      go_wp2_with fail
      refine (c3.out _ B2.out).mono ?_
      rintro e w3 ⟨u3, rfl, ho3⟩
      have B3 := hide' (bt' B2.out ho3.2)
      have H3 := hide' (duo_below H2.out ho3.2)
      obtain ⟨a3, k3, g3, o3, hu3, hc3⟩ := holds_parts (holds_own ho3)
      subst hu3
      have C3 := hide' hc3
      obtain ⟨i0, i1, f0, f1, fz⟩ := H3.out
      clear ho3 hc3 c3
      by_cases hm : m = 0
      · subst hm
        have R' := hide' (R.out.trans (cod_bad1 ws))
        have l3' := l3.out
        clear C3 R l3
        generalize ws.length = n3 at l3' ⊢
        go_wp2_with fail
        obtain ⟨q0, q1⟩ := duo_store H3.out (.int .i64 0) (.int .i64 0)
        have qb := put2_below B3.out (Nat.le_refl _) (.int .i64 0) (.int .i64 0)
        unfold put2 at q0 q1 qb
        exact bodyPost_ret (v := ansV (0, 0, 62)) (by simp [results, Tryd.results26, go_sem, q0, q1, ansV]) rfl ⟨by rw [R'.out], qb⟩
      · have hm1 : (m == 0) = false := by simpa using hm
        by_cases hw1 : ws.length = 1
        · obtain ⟨x, rfl⟩ := one_of hw1
          obtain ⟨rfl, hblt, hcell⟩ := C3.out (by simp)
          have cx := hcell 0 (by simp)
          simp only [List.getElem_cons_zero, Nat.add_zero, S] at cx
          have hlen : [x].length = 1 := rfl
          rw [hlen]
          clear hcell hlen hw1
          by_cases hx : x = chunkedB
          · subst hx
            have R' := hide' (R.out.trans (cod_good hm))
            unfold chunkedB at cx
            clear hm C3 l3 R
            go_wp2_with fail
            obtain ⟨q0, q1⟩ := duo_store H3.out (.int .i64 2) (.int .i64 0)
            have qb := put2_below B3.out (Nat.le_refl _) (.int .i64 2) (.int .i64 0)
            unfold put2 at q0 q1 qb
            exact bodyPost_ret (v := ansV (2, 0, 0)) (by simp [results, Tryd.results26, go_sem, q0, q1, ansV]) rfl ⟨by rw [R'.out], qb⟩
          · have R' := hide' (R.out.trans (cod_bad2 (by simpa using hx)))
            have hne := ba_eql' _ _ hx
            have hne2 : (x == chunkedB) = false := by simpa using hx
            unfold chunkedB at hne hne2
            clear hm hx C3 l3 R
            go_wp2_with fail
            obtain ⟨q0, q1⟩ := duo_store H3.out (.int .i64 0) (.int .i64 0)
            have qb := put2_below B3.out (Nat.le_refl _) (.int .i64 0) (.int .i64 0)
            unfold put2 at q0 q1 qb
            exact bodyPost_ret (v := ansV (0, 0, 62)) (by simp [results, Tryd.results26, go_sem, q0, q1, ansV]) rfl ⟨by rw [R'.out], qb⟩
        · have R' := hide' (R.out.trans (cod_bad2 (fun e => hw1 (by rw [e]; rfl))))
          have t1 : ((ws.length : Int) != 1) = true := by simp; omega
          have l3' := l3.out
          clear hm C3 l3 R
          generalize ws.length = n3 at t1 hw1 l3' ⊢
          clear hw1
          go_wp2_with fail
          obtain ⟨q0, q1⟩ := duo_store H3.out (.int .i64 0) (.int .i64 0)
          have qb := put2_below B3.out (Nat.le_refl _) (.int .i64 0) (.int .i64 0)
          unfold put2 at q0 q1 qb
          exact bodyPost_ret (v := ansV (0, 0, 62)) (by simp [results, Tryd.results26, go_sem, q0, q1, ansV]) rfl ⟨by rw [R'.out], qb⟩
  · have e1 : n1 = 0 := by omega
    by_cases h2 : 0 < n2
    · have R := hide' (r3.out h1 h2)
      have n2z : ((n2 : Int) == 0) = false := by simp; omega
      subst e1
      clear h1 c3 r1 r2 r3 r4 l3
      have O0 := hide' (ownS_empty w2)
      go_wp2_with fail
      go_loopw [9, 10] (fun v i wr => ∃ (va : Value) (k : Nat), va = v ∧ k ≤ n2 ∧ i = .int .i64 k ∧ OwnS w2 va ((vs.take k).flatMap listOf) wr) (fun _ i _ => n2 - (intOf i).toNat)
      case atStart => exact ⟨_, 0, rfl, Nat.zero_le _, rfl, O0.out⟩
      case round =>
        clear O0
        obtain ⟨va, k, rfl, hk, rfl, ho⟩ := hrel
        by_cases hlt : k < n2
        · have G : Hid (k < vs.length) := by unfold Hid; rw [N.out]; exact hlt
          obtain ⟨e2, hblt, hcell⟩ := C2.out (by have := G.out; omega)
          subst e2
          have ck : wr.cell? ⟨g2, o2 + k, none⟩ = some (.string ⟨(vs[k]'G.out).toArray⟩) := by
            rw [ho.2.cell (p := ⟨g2, o2 + k, none⟩) hblt]; exact hcell k G.out
          have hx := MV.out _ (List.getElem_mem G.out)
          have cL := hide' (fun W => listRef ⟨(vs[k]'G.out).toArray⟩ W (by rw [size_l]; omega))
          have tl2 := FL'.out (k + 1)
          have tl1 := FL'.out k
          have R2 := hide' (FN.out k G.out)
          simp only at cL
          rw [R2.out, List.length_append] at tl2
          clear hcell
          generalize vs[k]'G.out = q at ck hx cL tl2 R2
          generalize (vs.take k).flatMap listOf = acc at ho tl1 tl2 R2
          generalize listOf q = el at cL tl2 R2
          go_wp2_with fail
          refine (cL.out _).mono ?_
          rintro e w4 ⟨u4, rfl, ho4⟩
          have HO4 := ownS_mono ho ho4.2
          clear cL ck ho
          go_wp2_with (at_builtin; refine appAllS rfl (.tmp 54) (.tmp 59) rfl w2 _ acc rfl HO4 _ _ el rfl ho4 (by omega) ?_; intro v5 w5 ho5)
          go_roundw
          case rel => exact ⟨_, k + 1, rfl, by omega, by go_num, by rw [R2.out]; exact ho5⟩
          case measure => simp [intOf]; omega
        · have E2 : Hid (vs.take k = vs) := List.take_of_length_le (by rw [N.out]; omega)
          have tl1 := FL'.out k
          rw [E2.out] at ho tl1
          have EM : Hid (∀ x ∈ vs.flatMap listOf, x.length ≤ 1048576) := by
            intro x hx
            obtain ⟨z, hz, hx⟩ := List.mem_flatMap.1 hx
            have h3 := listOf_mem z x hx
            have h4 := MV.out z hz
            omega
          generalize vs.flatMap listOf = els at ho tl1 R EM
          obtain ⟨w3, ew⟩ : ∃ w3, w3 = wr := ⟨_, rfl⟩
          subst ew
          have B3 := hide' (bt' B2.out ho.2)
          have H3 := hide' (duo_below H2.out ho.2)
          obtain ⟨a3, k3, g3, o3, hu3, hc3⟩ := holds_parts (holds_own ho)
          subst hu3
          have C3 := hide' hc3
          clear ho hc3 C2 FN FL' MV E2
          by_cases hz : els.length = 0
          · obtain rfl : els = [] := List.eq_nil_of_length_eq_zero hz
            have R' := hide' (R.out.trans lens_nil)
            obtain ⟨i0, i1, f0, f1, fz⟩ := H3.out
            have hlen : ([] : List (List UInt8)).length = 0 := rfl
            rw [hlen]
            clear C3 R EM hz hlen
            go_wp2_with fail
            obtain ⟨q0, q1⟩ := duo_store H3.out (.int .i64 0) (.int .i64 0)
            have qb := put2_below B3.out (Nat.le_refl _) (.int .i64 0) (.int .i64 0)
            unfold put2 at q0 q1 qb
            exact bodyPost_ret (v := ansV (0, 0, 60)) (by simp [results, Tryd.results26, go_sem, q0, q1, ansV]) rfl ⟨by rw [R'.out], qb⟩
          · have Z : Hid (0 < els.length) := by unfold Hid; omega
            obtain ⟨e3, hblt, hcell⟩ := C3.out Z.out
            subst e3
            have CC := hide' hcell
            have c0 := hcell 0 Z.out
            unfold S at c0
            rw [Nat.add_zero] at c0
            have C0 := hide' c0
            have cZ := hide' (fun W => numRef (els[0]'Z.out) W (by have := EM.out _ (List.getElem_mem Z.out); omega))
            have cE := hide' (fun k (hk : k < els.length) => EM.out _ (List.getElem_mem hk))
            have XB := hide' (fun k (hk : k < els.length) h => R.out.trans (lens_bad hk Z.out h))
            have XG := hide' (fun h => R.out.trans (lens_good Z.out h))
            have hy0 : (els[0]'Z.out).length ≤ 140737488351232 := by have := EM.out _ (List.getElem_mem Z.out); omega
            generalize els[0]'Z.out = y0 at c0 C0 cZ XB XG hy0
            have HY0 := hide' hy0
            clear hy0
            obtain ⟨n3, en⟩ : ∃ n3, n3 = els.length := ⟨_, rfl⟩
            have N3 : Hid (els.length = n3) := en.symm
            rw [N3.out] at tl1 hz ⊢
            have n3z : ((n3 : Int) == 0) = false := by simp; omega
            clear en hcell C3 EM R c0
            go_wp2_with fail
            go_loopw [11] (fun i wr => ∃ k : Nat, k ≤ n3 ∧ i = .int .i64 k ∧ Hid (∀ j (hj : j < els.length), j < k → 0 ≤ numR els[j] ∧ numR els[j] = numR y0) ∧ Hid (Below w3.heap.size w3 wr)) (fun i _ => n3 - (intOf i).toNat)
            case atStart => exact ⟨0, Nat.zero_le _, rfl, fun j hj h => absurd h (by omega), Below.refl _ _⟩
            case round =>
              obtain ⟨k, hk, rfl, HA, HB⟩ := hrel
              by_cases hlt : k < n3
              · have G : Hid (k < els.length) := by unfold Hid; rw [N3.out]; exact hlt
                have ck : wr.cell? ⟨g3, o3 + k, none⟩ = some (.string ⟨(els[k]'G.out).toArray⟩) := by
                  rw [HB.out.cell (p := ⟨g3, o3 + k, none⟩) hblt]; exact CC.out k G.out
                have c0 : wr.cell? ⟨g3, o3, none⟩ = some (.string ⟨y0.toArray⟩) := by
                  rw [HB.out.cell (p := ⟨g3, o3, none⟩) hblt]; exact C0.out
                have hyk := cE.out k G.out
                have XK := hide' (XB.out k G.out)
                have HN : Hid (0 ≤ numR (els[k]'G.out) → numR (els[k]'G.out) = numR y0 → ∀ j (hj : j < els.length), j < k + 1 → 0 ≤ numR els[j] ∧ numR els[j] = numR y0) := by
                  intro h3 h4 j hj hjk
                  by_cases hjk2 : j = k
                  · subst hjk2; exact ⟨h3, h4⟩
                  · exact HA.out j hj (by omega)
                generalize els[k]'G.out = yk at ck hyk XK HN
                have hyk1 : yk.length ≤ 140737488351232 := by omega
                have hy0 := HY0.out
                clear hyk
                have B4 := hide' (bt' B3.out HB.out)
                have H4 := hide' (duo_below H3.out HB.out)
                have z3 : 0 < n3 := by omega
                have z4 : (0 : Int) < (n3 : Int) := by omega
                by_cases ha : numR yk < 0
                · have R' := hide' (XK.out (.inl ha))
                  clear XK HN HA
                  go_wp2_with fail
                  go_quiet ((go_at_call 40; exact Calls.quiet_of_same (numRef _ _ (by assumption))))
                  have B9 := hide' (bt' B4.out (below_drewN wr nq))
                  have H9 := hide' (duo_below H4.out (below_drewN wr nq))
                  generalize wr.drewN nq = w9 at B9 H9 ⊢
                  obtain ⟨i0, i1, f0, f1, fz⟩ := H9.out
                  go_wp2_with fail
                  obtain ⟨q0, q1⟩ := duo_store H9.out (.int .i64 0) (.int .i64 0)
                  have qb := put2_below B9.out (Nat.le_refl _) (.int .i64 0) (.int .i64 0)
                  unfold put2 at q0 q1 qb
                  exact bodyPost_ret (v := ansV (0, 0, 60)) (by simp [results, Tryd.results26, go_sem, q0, q1, ansV]) rfl ⟨by rw [R'.out], qb⟩
                · by_cases haz : numR yk = numR y0
                  · have HM := hide' (HN.out (by omega) haz)
                    have haz1 : (numR yk != numR y0) = false := by simpa using haz
                    have HAZ := hide' haz
                    clear haz
                    clear XK HN HA
                    go_wp2_with fail
                    go_quiet ((go_at_call 40; exact Calls.quiet_of_same (numRef _ _ (by assumption))))
                    have HB9 := hide' (bt' HB.out (below_drewN wr nq))
                    generalize wr.drewN nq = w9 at HB9 ⊢
                    go_wp2_with fail
                    go_roundw
                    case rel => exact ⟨k + 1, by omega, by go_num, HM, HB9⟩
                    case measure => simp [intOf]; omega
                  · have R' := hide' (XK.out (.inr haz))
                    have haz1 : (numR yk != numR y0) = true := by simpa using haz
                    clear XK HN HA haz
                    go_wp2_with fail
                    go_quiet ((go_at_call 40; exact Calls.quiet_of_same (numRef _ _ (by assumption))))
                    have B9 := hide' (bt' B4.out (below_drewN wr nq))
                    have H9 := hide' (duo_below H4.out (below_drewN wr nq))
                    generalize wr.drewN nq = w9 at B9 H9 ⊢
                    obtain ⟨i0, i1, f0, f1, fz⟩ := H9.out
                    go_wp2_with fail
                    obtain ⟨q0, q1⟩ := duo_store H9.out (.int .i64 0) (.int .i64 0)
                    have qb := put2_below B9.out (Nat.le_refl _) (.int .i64 0) (.int .i64 0)
                    unfold put2 at q0 q1 qb
                    exact bodyPost_ret (v := ansV (0, 0, 60)) (by simp [results, Tryd.results26, go_sem, q0, q1, ansV]) rfl ⟨by rw [R'.out], qb⟩
              · have RA := XG.out (fun j hj => ⟨by have h := (HA.out j hj (by have := N3.out; omega)).1; omega, (HA.out j hj (by have := N3.out; omega)).2⟩)
                have c0 : wr.cell? ⟨g3, o3, none⟩ = some (.string ⟨y0.toArray⟩) := by
                  rw [HB.out.cell (p := ⟨g3, o3, none⟩) hblt]; exact C0.out
                have B4 := hide' (bt' B3.out HB.out)
                have H4 := hide' (duo_below H3.out HB.out)
                obtain ⟨i0, i1, f0, f1, fz⟩ := H4.out
                clear XB XG HA HB
                by_cases h6 : (65536 : Int) < numR y0
                · rw [if_pos h6] at RA
                  have R' := hide' RA
                  clear RA
                  go_wp2_with fail
                  refine (cZ.out _).mono ?_
                  rintro e w' ⟨rfl, ew⟩
                  rw [ew]
                  clear ew w'
                  go_wp2_with fail
                  obtain ⟨q0, q1⟩ := duo_store H4.out (.int .i64 0) (.int .i64 0)
                  have qb := put2_below B4.out (Nat.le_refl _) (.int .i64 0) (.int .i64 0)
                  unfold put2 at q0 q1 qb
                  exact bodyPost_ret (v := ansV (0, 0, 71)) (by simp [results, Tryd.results26, go_sem, q0, q1, ansV]) rfl ⟨by rw [R'.out], qb⟩
                · rw [if_neg h6] at RA
                  have R' := hide' RA
                  clear RA
                  go_wp2_with fail
                  refine (cZ.out _).mono ?_
                  rintro e w' ⟨rfl, ew⟩
                  rw [ew]
                  clear ew w'
                  go_wp2_with fail
                  refine (cZ.out _).mono ?_
                  rintro e w' ⟨rfl, ew⟩
                  rw [ew]
                  clear ew w'
                  go_wp2_with fail
                  obtain ⟨q0, q1⟩ := duo_store H4.out (.int .i64 1) (.int .i64 (numR y0))
                  have qb := put2_below B4.out (Nat.le_refl _) (.int .i64 1) (.int .i64 (numR y0))
                  unfold put2 at q0 q1 qb
                  exact bodyPost_ret (v := ansV (1, numR y0, 0)) (by simp [results, Tryd.results26, go_sem, q0, q1, ansV]) rfl ⟨by rw [R'.out], qb⟩
    · have R := hide' (r4.out h1 h2)
      have e2 : n2 = 0 := by omega
      subst e1 e2
      obtain ⟨i0, i1, f0, f1, fz⟩ := H2.out
      clear h1 h2 c3 r1 r2 r3 r4 l3 C2 FN FL' MV
      go_wp2_with fail
      obtain ⟨q0, q1⟩ := duo_store H2.out (.int .i64 0) (.int .i64 0)
      have qb := put2_below B2.out (Nat.le_refl _) (.int .i64 0) (.int .i64 0)
      unfold put2 at q0 q1 qb
      exact bodyPost_ret (v := ansV (0, 0, 0)) (by simp [results, Tryd.results26, go_sem, q0, q1, ansV]) rfl ⟨by rw [R.out], qb⟩
end Go.Proofs.YtnjfahidcbglpaaDoor
