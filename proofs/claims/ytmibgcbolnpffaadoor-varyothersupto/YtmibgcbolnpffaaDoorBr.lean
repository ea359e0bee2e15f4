/- Copies of requests and responses; two that are alike are told as such. A whole list of bytes appended; the contracts of CopyBytes and SameBytes. The contracts of CopyEntry and SameEntry. A list of bytes that came in: what the reading says of it. An entry that came in: what the reading says of it. A field that came in by itself: what the reading says of it. -/
import Derived.Test.YtmibgcbolnpffaaDoorBm
import Derived.Test.YtmibgcbolnpffaaDoorBk
import Derived.Laws.AppendOwnNone
import Derived.WideShapes
import Derived.ChangeSlices
import Derived.Test.YtmibgcbolnpffaaDoorOpnR
namespace Go.Proofs.YtmibgcbolnpffaaDoor
open Go.RowKit
theorem sameFe (va vb : Value) (xs : FL) (w : World) (ha : HoldsF w va xs) (hb : HoldsF w vb xs) (la : xs.length ≤ 1000000000000000) :
    Calls Tryd.prog 14 #[va, vb] w fun e w' => e = .returned (.bool true) ∧ Below w.heap.size w w' := by
  refine (sameF va vb xs xs w ha hb la la).mono ?_
  rintro e w' ⟨rfl, n, rfl⟩
  exact ⟨by simp, below_drewN _ _⟩
set_option maxRecDepth 20000 in
set_option maxHeartbeats 2000000 in
theorem sameRs (s k : Int) (r : List UInt8) (fs : FL) (la lb : Value) (w : World) (ha : HoldsF w la fs) (hb : HoldsF w lb fs) (hl : fs.length ≤ 2000000) :
    Calls Tryd.prog 38 #[.agg #[.int .i64 s, .string ⟨r.toArray⟩, .int .i64 k, la], .agg #[.int .i64 s, .string ⟨r.toArray⟩, .int .i64 k, lb]] w fun e w' => e = .returned (.bool true) ∧ Below w.heap.size w w' := by
  obtain ⟨a1, c1, b1, o1, e1, _⟩ := holdsF_parts ha
  obtain ⟨a2, c2, b2, o2, e2, _⟩ := holdsF_parts hb
  subst e1 e2
  have b0 := below_alloc' w (.cells #[.int .i64 s, .string ⟨r.toArray⟩, .int .i64 k, .slice a1 fs.length c1] 35)
  have b1' := below_alloc' (w.alloc (.cells #[.int .i64 s, .string ⟨r.toArray⟩, .int .i64 k, .slice a1 fs.length c1] 35)) (.cells #[.int .i64 s, .string ⟨r.toArray⟩, .int .i64 k, .slice a2 fs.length c2] 35)
  have bb := bt' b0 b1'
  have cS := hide' (sameFe _ _ fs _ (holdsF_mono ha bb) (holdsF_mono hb bb) (by omega))
  have BB := hide' bb
  clear ha hb b0 b1' bb
  generalize fs.length = n at cS BB ⊢
  go_enter Tryd.func38, Tryd.ntmps38
  go_wp2_with fail
  refine cS.out.mono ?_
  rintro e w' ⟨rfl, b⟩
  have B' := hide' (bt' BB.out b)
  clear b
  go_wp2_with fail
  go_ret
  exact ⟨rfl, B'.out⟩
set_option maxRecDepth 20000 in
set_option maxHeartbeats 4000000 in
theorem copyRs (s k : Int) (r : List UInt8) (fs : FL) (lv : Value) (w : World) (hv : HoldsF w lv fs) (hl : fs.length ≤ 2000000) :
    Calls Tryd.prog 36 #[.agg #[.int .i64 s, .string ⟨r.toArray⟩, .int .i64 k, lv]] w fun e w' => ∃ u, e = .returned (.agg #[.int .i64 s, .string ⟨r.toArray⟩, .int .i64 k, u]) ∧ OwnF w u fs w' := by
  obtain ⟨la, lc, lb, lo, hlv, _⟩ := holdsF_parts hv
  subst hlv
  have b1 := below_alloc' w (.cells #[.int .i64 s, .string ⟨r.toArray⟩, .int .i64 k, .slice la fs.length lc] 35)
  have b2 := below_alloc' (w.alloc (.cells #[.int .i64 s, .string ⟨r.toArray⟩, .int .i64 k, .slice la fs.length lc] 35)) (.cells #[.int .i64 0, .string ⟨#[]⟩, .int .i64 0, .slice none 0 0] 35)
  have Q1 := quad_below (quad_lit w (.int .i64 s) (.string ⟨r.toArray⟩) (.int .i64 k) (.slice la fs.length lc) 35) b2
  have Q2 := quad_lit (w.alloc (.cells #[.int .i64 s, .string ⟨r.toArray⟩, .int .i64 k, .slice la fs.length lc] 35)) (.int .i64 0) (.string ⟨#[]⟩) (.int .i64 0) (.slice none 0 0) 35
  have z1 : (w.alloc (.cells #[.int .i64 s, .string ⟨r.toArray⟩, .int .i64 k, .slice la fs.length lc] 35)).heap.size = w.heap.size + 1 := by simp
  rw [z1] at Q2
  have hv2 := holdsF_mono hv (bt' b1 b2)
  have B2 := hide' (bt' b1 b2)
  obtain ⟨W2, hW2⟩ : ∃ W2, W2 = (w.alloc (.cells #[.int .i64 s, .string ⟨r.toArray⟩, .int .i64 k, .slice la fs.length lc] 35)).alloc (.cells #[.int .i64 0, .string ⟨#[]⟩, .int .i64 0, .slice none 0 0] 35) := ⟨_, rfl⟩
  have HW2 := hide' hW2
  have zs : Hid (W2.heap.size = w.heap.size + 2) := by unfold Hid; rw [hW2]; simp
  rw [← hW2] at Q1 Q2 hv2 B2
  have HQ1 := hide' Q1
  have HQ2 := hide' Q2
  have cC := hide' (copyF _ fs _ hv2 (by omega))
  obtain ⟨i0, i1, i2, i3, _⟩ := Q1
  clear hv b1 b2 Q2 hv2 hW2 z1
  go_enter Tryd.func36, Tryd.ntmps36
  go_wp2_with fail
  rw [← HW2.out]
  refine cC.out.mono ?_
  rintro e w3 ⟨u, rfl, ho⟩
  obtain ⟨ua, uc, ub, uo, hu, _⟩ := holdsF_parts (holdsF_own ho)
  subst hu
  have P3 := hide' (quad_below HQ1.out ho.2)
  have Q3 := hide' (quad_below HQ2.out ho.2)
  have B3 := hide' (bt' B2.out ho.2)
  have R3 := hide' ho.1
  clear ho i0 i1 i2 i3 cC HQ1 HQ2
  have P4 := hide' (quad_set3 P3.out (.slice ua fs.length uc))
  have Q4 := hide' (quad_other (o := 3) Q3.out (show w.heap.size + 1 ≠ w.heap.size by omega) (.slice ua fs.length uc))
  have B4 := hide' (B3.out.setCell (p := ⟨w.heap.size, 3, none⟩) (Nat.le_refl _) (.slice ua fs.length uc))
  have R4 := hide' (row_poke (o := 3) (x := .slice ua fs.length uc) R3.out (b := w.heap.size) (by rw [zs.out]; omega))
  obtain ⟨h0, h1, h2, h3, e0, e1, e2, e3, hz⟩ := P3.out
  obtain ⟨k0, k1, k2, k3, d0, d1, d2, d3, dz⟩ := P4.out
  obtain ⟨j0, j1, j2, j3, f0, f1, f2, f3, fz⟩ := Q4.out
  go_wp2_with fail
  obtain ⟨q0, q1, q2, q3⟩ := quad_store Q4.out (.int .i64 s) (.string ⟨r.toArray⟩) (.int .i64 k) (.slice ua fs.length uc)
  have qb := put4_below B4.out (Nat.le_succ _) (.int .i64 s) (.string ⟨r.toArray⟩) (.int .i64 k) (.slice ua fs.length uc)
  have qr := row_base (row_put (v0 := .int .i64 s) (v1 := .string ⟨r.toArray⟩) (v2 := .int .i64 k) (v3 := .slice ua fs.length uc) R4.out (b := w.heap.size + 1) (by rw [zs.out]; omega)) B2.out.size
  unfold put4 at q0 q1 q2 q3 qb qr
  exact bodyPost_ret (v := .agg #[.int .i64 s, .string ⟨r.toArray⟩, .int .i64 k, .slice ua fs.length uc]) (by simp [results, Tryd.results36, go_sem, q0, q1, q2, q3]) rfl ⟨.slice ua fs.length uc, rfl, qr, qb⟩
end Go.Proofs.YtmibgcbolnpffaaDoor
namespace Go.Proofs.YtmibgcbolnpffaaDoor
open Go.RowKit
/-- a whole list of bytes appended -/
theorem appAllB {ops : Array Oper} {rest : List Oper} {o : Oper} {a : Act} {Q : Exit → Act → World → Prop} {wr : World} (hgd : o.guard = none) (s z : Operand)
    (ho : o.op = .call { callee := .builtin .append, args := #[s, z], argTypes := #[36, 36] }) (w0 : World) (v : Value) (ps : List UInt8) (hs : a.eval s = v) (hown : Own w0 v ps wr)
    (u : Value) (qs : List UInt8) (hz : a.eval z = u) (hu : HoldsB wr u qs) (hlen : ps.length + qs.length ≤ 140737488355328)
    (h : ∀ v' w', Own w0 v' (ps ++ qs) w' → wpList Tryd.prog ops Q rest (a.put o.dst v') w') : wpList Tryd.prog ops Q (o :: rest) a wr := by
  obtain ⟨i0, hi, hz0, hz1, hz2⟩ := info_parts Tryd.info5
  have hsz := hown.2.size
  obtain ⟨ao, cap, rfl, h0, hcp, hc⟩ := hu
  have key : ∀ (ad : Addr), ao = some ad → (∀ j x, (qs.map B)[j]? = some x → wr.cell? (ad.add j) = some x) → wpList Tryd.prog ops Q (o :: rest) a wr := by
    intro ad e hnews
    subst e
    refine wpList_append_own _ hgd s z 36 ho w0.heap.size 5 i0 (.int .u8 0) 1 1 Tryd.underlying36 hi hz0 hz1 hz2 rfl (by decide) v ps.length (ps.map B) hs hown.1 ad qs.length cap (qs.map B) hz (by simp) hnews ?_ (by unfold maxLen; omega) (by omega) hsz ?_
    · intro u hu; obtain ⟨x, _, rfl⟩ := List.mem_map.1 hu; rfl
    · intro v' w' h1 h2 _
      refine h v' w' ⟨by rw [List.map_append, List.length_append]; exact h1, ?_⟩
      refine Below.grown hown.2 h2 (by omega) ?_
      intro k hk
      exact (hown.1.lt k hk).1
  by_cases hq : qs = []
  · subst hq
    cases ao with
    | none =>
      obtain rfl := h0 rfl
      refine wpList_append_own_none hgd s z 36 ho w0.heap.size 5 i0 1 Tryd.underlying36 hi v ps.length (ps.map B) hs hown.1 hz ?_
      exact h v wr (by rw [List.append_nil]; exact hown)
    | some ad => exact key ad rfl (fun j x hj => by simp at hj)
  · obtain ⟨b, off, rfl, hlt, hcell⟩ := hc hq
    refine key ⟨b, off, none⟩ rfl (fun j x hj => ?_)
    have e : (⟨b, off, none⟩ : Addr).add j = ⟨b, off + j, none⟩ := Go.WideShapes.add_plain _ _ _
    rw [e]
    obtain ⟨hj1, hj2⟩ := List.getElem?_eq_some_iff.1 hj
    rw [List.length_map] at hj1
    rw [hcell j hj1, ← hj2]
    simp
theorem own_mono {w0 w w' : World} {v : Value} {ps : List UInt8} (h : Own w0 v ps w) (hb : Below w.heap.size w w') : Own w0 v ps w' := by
  have hz := h.2.size
  refine ⟨?_, h.2.trans (hb.mono hz)⟩
  obtain ⟨hl, h1 | ⟨g, cap, cur, rfl, hg, hh, hr⟩⟩ := h.1
  · exact ⟨hl, .inl h1⟩
  · have hlt : g < w.heap.size := by
      rcases Nat.lt_or_ge g w.heap.size with h | h
      · exact h
      · rw [Array.getElem?_eq_none (by omega)] at hh; cases hh
    exact ⟨hl, .inr ⟨g, cap, cur, rfl, hg, by rw [hb.block g hlt]; exact hh, hr⟩⟩
theorem own_base {w w1 w2 : World} {v : Value} {ps : List UInt8} (h : Own w1 v ps w2) (hb : Below w.heap.size w w1) : Own w v ps w2 := by
  have hz := hb.size
  refine ⟨?_, hb.trans (h.2.mono hz)⟩
  obtain ⟨hl, h1 | ⟨g, cap, cur, hv, hg, hr⟩⟩ := h.1
  · exact ⟨hl, .inl h1⟩
  · exact ⟨hl, .inr ⟨g, cap, cur, hv, by omega, hr⟩⟩
set_option maxHeartbeats 400000 in
theorem copyB (v : Value) (bs : List UInt8) (w : World) (hv : HoldsB w v bs) (hl : bs.length ≤ 140737488355328) :
    Calls Tryd.prog 37 #[v] w fun e w' => ∃ u, e = .returned u ∧ Own w u bs w' := by
  have HV := hide' (holdsB_mono hv (below_alloc' w (.cells #[] 5)))
  clear hv
  go_enter Tryd.func37, Tryd.ntmps37
  go_wp2_with (at_builtin; refine appAllB rfl (.tmp 5) (.tmp 6) rfl w _ [] rfl (own_empty w) v bs rfl HV.out (by simpa using hl) ?_; intro v2 w2 hown2)
  go_ret
  exact ⟨v2, rfl, hown2⟩
set_option maxRecDepth 20000 in
set_option maxHeartbeats 1000000 in
theorem sameB (va vb : Value) (xs ys : List UInt8) (w : World) (ha : HoldsB w va xs) (hb : HoldsB w vb ys) (la : xs.length ≤ 1000000000000000) (lb : ys.length ≤ 1000000000000000) :
    Calls Tryd.prog 39 #[va, vb] w fun e w' => e = .returned (.bool (decide (xs = ys))) ∧ ∃ n, w' = w.drewN n := by
  obtain ⟨ao, ca, rfl, _, _, hca⟩ := ha
  obtain ⟨bo, cb, rfl, _, _, hcb⟩ := hb
  by_cases hl : xs.length = ys.length
  · by_cases hz : xs.length = 0
    · have e1 : xs = [] := List.eq_nil_of_length_eq_zero hz
      have e2 : ys = [] := List.eq_nil_of_length_eq_zero (by omega)
      subst e1 e2
      clear hca hcb hl hz la lb
      go_enter Tryd.func39, Tryd.ntmps39
      go_wp2
      go_rounds 1
      go_ret
      exact ⟨rfl, 0, rfl⟩
    · obtain ⟨b1, o1, rfl, hlt1, c1⟩ := hca (fun e => hz (by rw [e]; rfl))
      obtain ⟨b2, o2, rfl, hlt2, c2⟩ := hcb (fun e => hz (by rw [hl, e]; rfl))
      have C1 : Hid _ := c1
      have C2 : Hid _ := c2
      obtain ⟨n, hn⟩ : ∃ n, n = xs.length := ⟨_, rfl⟩
      have N1 : Hid (xs.length = n) := hn.symm
      have N2 : Hid (ys.length = n) := by unfold Hid; omega
      have ln : n ≤ 1000000000000000 := by omega
      rw [N1.out, N2.out]
      clear hca hcb c1 c2 hl hz la lb hn
      go_enter Tryd.func39, Tryd.ntmps39
      go_wp2
      go_loopw [5] (fun i wr => ∃ k : Nat, k ≤ n ∧ i = .int .i64 k ∧ Hid (xs.take k = ys.take k) ∧ ∃ m, Hid (wr = w.drewN m)) (fun i _ => n - (intOf i).toNat)
      case atStart => exact ⟨0, by omega, rfl, rfl, 0, rfl⟩
      case round =>
        obtain ⟨k, hk, rfl, hE, m, hw⟩ := hrel
        have hw' := hw.out
        subst hw'
        by_cases hlt : k < n
        · have x1 := C1.out k (by rw [N1.out]; exact hlt)
          have x2 := C2.out k (by rw [N2.out]; exact hlt)
          unfold B at x1 x2
          have G1 : Hid (k < xs.length) := by unfold Hid; rw [N1.out]; exact hlt
          have G2 : Hid (k < ys.length) := by unfold Hid; rw [N2.out]; exact hlt
          by_cases he : xs[k]'G1.out = ys[k]'G2.out
          · have E : Hid (xs.take (k + 1) = ys.take (k + 1)) := by
              unfold Hid; rw [List.take_succ_eq_append_getElem G1.out, List.take_succ_eq_append_getElem G2.out, hE.out, he]
            rw [he] at x1
            generalize (ys[k]'G2.out).toNat = y at x1 x2
            clear he
            go_wp2
            go_quiet (fail)
            go_wp2
            go_roundw
            case rel => exact ⟨k + 1, by omega, by go_num, E, _, rfl⟩
            case measure => simp [intOf]; omega
          · have F : Hid (decide (xs = ys) = false) := by
              unfold Hid; rw [decide_eq_false_iff_not]; intro e; subst e; exact he rfl
            have hne : (((xs[k]'G1.out).toNat : Int) != ((ys[k]'G2.out).toNat : Int)) = true := by
              simp
              intro e
              exact he (UInt8.toNat_inj.1 (by omega))
            have hne2 : ((xs[k]'G1.out).toNat != (ys[k]'G2.out).toNat) = true := by
              simp
              intro e
              exact he (UInt8.toNat_inj.1 e)
            generalize (xs[k]'G1.out).toNat = x at x1 hne hne2
            generalize (ys[k]'G2.out).toNat = y at x2 hne hne2
            clear he
            go_wp2
            go_quiet (fail)
            go_wp2
            go_ret
            rw [F.out]
            exact ⟨rfl, _, World.drewN_drewN _ _ _⟩
        · have F : Hid (decide (xs = ys) = true) := by
            unfold Hid; rw [decide_eq_true_iff]
            have := hE.out
            rwa [List.take_of_length_le (by rw [N1.out]; omega), List.take_of_length_le (by rw [N2.out]; omega)] at this
          go_wp2
          go_ret
          rw [F.out]
          exact ⟨rfl, m, rfl⟩
  · have F : Hid (decide (xs = ys) = false) := by
      unfold Hid; rw [decide_eq_false_iff_not]; intro e; subst e; exact hl rfl
    have hl' : ((xs.length : Int) != (ys.length : Int)) = true := by simp; omega
    clear hca hcb hl
    generalize xs.length = n1 at la hl' ⊢
    generalize ys.length = n2 at lb hl' ⊢
    go_enter Tryd.func39, Tryd.ntmps39
    go_wp2
    go_ret
    rw [F.out]
    exact ⟨rfl, 0, rfl⟩
theorem sameBe (va vb : Value) (xs : List UInt8) (w : World) (ha : HoldsB w va xs) (hb : HoldsB w vb xs) (la : xs.length ≤ 1000000000000000) :
    Calls Tryd.prog 39 #[va, vb] w fun e w' => e = .returned (.bool true) ∧ Below w.heap.size w w' := by
  refine (sameB va vb xs xs w ha hb la la).mono ?_
  rintro e w' ⟨rfl, n, rfl⟩
  exact ⟨by simp, below_drewN _ _⟩
end Go.Proofs.YtmibgcbolnpffaaDoor
namespace Go.Proofs.YtmibgcbolnpffaaDoor
open Go.RowKit
set_option maxRecDepth 20000 in
set_option maxHeartbeats 4000000 in
theorem copyEC (e : En) (lv bv : Value) (w : World) (hF : HoldsF w lv e.r.fs) (hB : HoldsB w bv e.body) (hl : e.r.fs.length ≤ 2000000) (hb : e.body.length ≤ 140737488355328) :
    Calls Tryd.prog 18 #[entV e lv bv] w fun x w' => ∃ lu bu, x = .returned (entV e lu bu) ∧ OwnF w lu e.r.fs w' ∧ Own w bu e.body w' := by
  obtain ⟨la, lc, _, _, e1, _⟩ := holdsF_parts hF
  obtain ⟨ba, bc, e2, _⟩ := holdsB_parts hB
  subst e1 e2
  unfold entV
  obtain ⟨key, vary, ⟨s, r, k, fs⟩, body, a0, g0⟩ := e
  dsimp only at *
  have b1 := below_alloc' w (.cells #[.string ⟨key.toArray⟩, .string ⟨vary.toArray⟩, .int .i64 s, .string ⟨r.toArray⟩, .int .i64 k, .slice la fs.length lc, .slice ba body.length bc, .int .i64 a0, .int .i64 g0] 38)
  have b2 := below_alloc' (w.alloc (.cells #[.string ⟨key.toArray⟩, .string ⟨vary.toArray⟩, .int .i64 s, .string ⟨r.toArray⟩, .int .i64 k, .slice la fs.length lc, .slice ba body.length bc, .int .i64 a0, .int .i64 g0] 38)) (.cells #[.string ⟨#[]⟩, .string ⟨#[]⟩, .int .i64 0, .string ⟨#[]⟩, .int .i64 0, .slice none 0 0, .slice none 0 0, .int .i64 0, .int .i64 0] 38)
  have q1 := cells_below (cells_lit w #[.string ⟨key.toArray⟩, .string ⟨vary.toArray⟩, .int .i64 s, .string ⟨r.toArray⟩, .int .i64 k, .slice la fs.length lc, .slice ba body.length bc, .int .i64 a0, .int .i64 g0] 38) b2
  have q2 := cells_lit (w.alloc (.cells #[.string ⟨key.toArray⟩, .string ⟨vary.toArray⟩, .int .i64 s, .string ⟨r.toArray⟩, .int .i64 k, .slice la fs.length lc, .slice ba body.length bc, .int .i64 a0, .int .i64 g0] 38)) #[.string ⟨#[]⟩, .string ⟨#[]⟩, .int .i64 0, .string ⟨#[]⟩, .int .i64 0, .slice none 0 0, .slice none 0 0, .int .i64 0, .int .i64 0] 38
  have z1 : (w.alloc (.cells #[.string ⟨key.toArray⟩, .string ⟨vary.toArray⟩, .int .i64 s, .string ⟨r.toArray⟩, .int .i64 k, .slice la fs.length lc, .slice ba body.length bc, .int .i64 a0, .int .i64 g0] 38)).heap.size = w.heap.size + 1 := by simp
  rw [z1] at q2
  obtain ⟨W2, hW2⟩ : ∃ W2, W2 = (w.alloc (.cells #[.string ⟨key.toArray⟩, .string ⟨vary.toArray⟩, .int .i64 s, .string ⟨r.toArray⟩, .int .i64 k, .slice la fs.length lc, .slice ba body.length bc, .int .i64 a0, .int .i64 g0] 38)).alloc (.cells #[.string ⟨#[]⟩, .string ⟨#[]⟩, .int .i64 0, .string ⟨#[]⟩, .int .i64 0, .slice none 0 0, .slice none 0 0, .int .i64 0, .int .i64 0] 38) := ⟨_, rfl⟩
  have HW2 := hide' hW2
  have zs : Hid (W2.heap.size = w.heap.size + 2) := by unfold Hid; rw [hW2]; simp
  rw [← hW2] at b2 q1 q2
  have B2 := hide' (bt' b1 b2)
  have Q2 : Hid (Blk w.heap.size W2 [.string ⟨key.toArray⟩, .string ⟨vary.toArray⟩, .int .i64 s, .string ⟨r.toArray⟩, .int .i64 k, .slice la fs.length lc, .slice ba body.length bc, .int .i64 a0, .int .i64 g0]) := q1
  have R2 : Hid (Blk (w.heap.size + 1) W2 [.string ⟨#[]⟩, .string ⟨#[]⟩, .int .i64 0, .string ⟨#[]⟩, .int .i64 0, .slice none 0 0, .slice none 0 0, .int .i64 0, .int .i64 0]) := q2
  have cC := hide' (copyRs s k r fs _ W2 (holdsF_mono hF B2.out) hl)
  have HB := hide' hB
  have HL := hide' hb
  obtain ⟨⟨c0, c1, c2, c3, c4, c5, c6, c7, c8⟩, -⟩ := cells_nine Q2.out
  clear b1 b2 q1 q2 z1 hW2 hF hB hl hb
  go_enter Tryd.func18, Tryd.ntmps18
  go_wp2_with fail
  rw [← HW2.out]
  refine cC.out.mono ?_
  rintro x w3 ⟨u, rfl, ho⟩
  obtain ⟨ua, uc, _, _, eu, _⟩ := holdsF_parts (holdsF_own ho)
  subst eu
  have Q3 : Hid (Blk w.heap.size w3 [.string ⟨key.toArray⟩, .string ⟨vary.toArray⟩, .int .i64 s, .string ⟨r.toArray⟩, .int .i64 k, .slice la fs.length lc, .slice ba body.length bc, .int .i64 a0, .int .i64 g0]) := cells_below Q2.out ho.2
  have R3 : Hid (Blk (w.heap.size + 1) w3 [.string ⟨#[]⟩, .string ⟨#[]⟩, .int .i64 0, .string ⟨#[]⟩, .int .i64 0, .slice none 0 0, .slice none 0 0, .int .i64 0, .int .i64 0]) := cells_below R2.out ho.2
  have B3 := hide' (bt' B2.out ho.2)
  have F3 := hide' ho.1
  clear ho cC Q2 R2 c0 c1 c2 c3 c4 c5 c6 c7 c8
  have Q4 : Hid (Blk w.heap.size (putFrom w.heap.size 2 w3 [.int .i64 s, .string ⟨r.toArray⟩, .int .i64 k, .slice ua fs.length uc]) [.string ⟨key.toArray⟩, .string ⟨vary.toArray⟩, .int .i64 s, .string ⟨r.toArray⟩, .int .i64 k, .slice ua fs.length uc, .slice ba body.length bc, .int .i64 a0, .int .i64 g0]) := cells_putFrom [.int .i64 s, .string ⟨r.toArray⟩, .int .i64 k, .slice ua fs.length uc] 2 w3 _ Q3.out (by simp)
  have B4 := hide' (put_below (w := w) (b := w.heap.size) (Nat.le_refl _) [.int .i64 s, .string ⟨r.toArray⟩, .int .i64 k, .slice ua fs.length uc] 2 _ B3.out)
  have R4 : Hid (Blk (w.heap.size + 1) (putFrom w.heap.size 2 w3 [.int .i64 s, .string ⟨r.toArray⟩, .int .i64 k, .slice ua fs.length uc]) [.string ⟨#[]⟩, .string ⟨#[]⟩, .int .i64 0, .string ⟨#[]⟩, .int .i64 0, .slice none 0 0, .slice none 0 0, .int .i64 0, .int .i64 0]) := by
    unfold Hid
    simp only [putFrom]
    exact cells_other (cells_other (cells_other (cells_other R3.out (by omega) _) (by omega) _) (by omega) _) (by omega) _
  have F4 := hide' (row_putFrom (b := w.heap.size) (by rw [zs.out]; omega) [.int .i64 s, .string ⟨r.toArray⟩, .int .i64 k, .slice ua fs.length uc] 2 _ F3.out)
  have sz4 : Hid ((putFrom w.heap.size 2 w3 [.int .i64 s, .string ⟨r.toArray⟩, .int .i64 k, .slice ua fs.length uc]).heap.size = w3.heap.size) := by unfold Hid; simp [putFrom]
  have s3 : Hid (w.heap.size + 2 ≤ w3.heap.size) := by unfold Hid; have h1 := R3.out.2; omega
  simp only [putFrom] at Q4 B4 R4 F4 sz4
  obtain ⟨⟨c0, c1, c2, c3, c4, c5, c6, c7, c8⟩, ⟨f0, f1, f2, f3, f4, f5, f6, f7, f8⟩⟩ := cells_nine Q3.out
  obtain ⟨⟨d0, d1, d2, d3, d4, d5, d6, d7, d8⟩, -⟩ := cells_nine Q4.out
  go_wp2_with fail
  clear c0 c1 c2 c3 c4 c5 c6 c7 c8 f0 f1 f2 f3 f4 f5 f6 f7 f8 d0 d1 d2 d3 d4 d5 d6 d7 d8
  generalize ((((w3.setCell ⟨w.heap.size, 2, none⟩ (.int .i64 s)).setCell ⟨w.heap.size, 3, none⟩ (.string ⟨r.toArray⟩)).setCell ⟨w.heap.size, 4, none⟩ (.int .i64 k)).setCell ⟨w.heap.size, 5, none⟩ (.slice ua fs.length uc)) = w4 at Q4 B4 R4 F4 sz4 ⊢
  refine (copyB _ body w4 (holdsB_mono HB.out B4.out) HL.out).mono ?_
  rintro x w5 ⟨v5, rfl, ho⟩
  obtain ⟨xa, xc, ev, _⟩ := holdsB_parts (holdsB_own ho)
  subst ev
  have Q5 : Hid (Blk w.heap.size w5 [.string ⟨key.toArray⟩, .string ⟨vary.toArray⟩, .int .i64 s, .string ⟨r.toArray⟩, .int .i64 k, .slice ua fs.length uc, .slice ba body.length bc, .int .i64 a0, .int .i64 g0]) := cells_below Q4.out ho.2
  have R5 : Hid (Blk (w.heap.size + 1) w5 [.string ⟨#[]⟩, .string ⟨#[]⟩, .int .i64 0, .string ⟨#[]⟩, .int .i64 0, .slice none 0 0, .slice none 0 0, .int .i64 0, .int .i64 0]) := cells_below R4.out ho.2
  have B5 := hide' (bt' B4.out ho.2)
  have F5 := hide' (row_below F4.out ho.2)
  have O5 := hide' ho.1
  have s4 : Hid (w.heap.size + 2 ≤ w4.heap.size) := by unfold Hid; rw [sz4.out]; exact s3.out
  clear ho Q4 R4 B4 F4 F3 Q3 R3 B3
  have Q6 : Hid (Blk w.heap.size (w5.setCell ⟨w.heap.size, 6, none⟩ (.slice xa body.length xc)) [.string ⟨key.toArray⟩, .string ⟨vary.toArray⟩, .int .i64 s, .string ⟨r.toArray⟩, .int .i64 k, .slice ua fs.length uc, .slice xa body.length xc, .int .i64 a0, .int .i64 g0]) := cells_set Q5.out (j := 6) (by simp) _
  have R6 := hide' (cells_other (o := 6) R5.out (show w.heap.size + 1 ≠ w.heap.size by omega) (.slice xa body.length xc))
  have B6 := hide' (B5.out.setCell (p := ⟨w.heap.size, 6, none⟩) (Nat.le_refl _) (.slice xa body.length xc))
  have F6 := hide' (row_putFrom (b := w.heap.size) (by rw [zs.out]; omega) [.slice xa body.length xc] 6 _ F5.out)
  have O6 := hide' (row_putFrom (b := w.heap.size) (by have := s4.out; omega) [.slice xa body.length xc] 6 _ O5.out)
  simp only [putFrom] at F6 O6
  obtain ⟨⟨c0, c1, c2, c3, c4, c5, c6, c7, c8⟩, ⟨f0, f1, f2, f3, f4, f5, f6, f7, f8⟩⟩ := cells_nine Q5.out
  obtain ⟨⟨d0, d1, d2, d3, d4, d5, d6, d7, d8⟩, -⟩ := cells_nine Q6.out
  obtain ⟨⟨h0, h1, h2, h3, h4, h5, h6, h7, h8⟩, ⟨i0, i1, i2, i3, i4, i5, i6, i7, i8⟩⟩ := cells_nine R6.out
  have zq := cells_put R6.out [.string ⟨key.toArray⟩, .string ⟨vary.toArray⟩, .int .i64 s, .string ⟨r.toArray⟩, .int .i64 k, .slice ua fs.length uc, .slice xa body.length xc, .int .i64 a0, .int .i64 g0] rfl
  have zb := put_below (w := w) (b := w.heap.size + 1) (Nat.le_succ _) [.string ⟨key.toArray⟩, .string ⟨vary.toArray⟩, .int .i64 s, .string ⟨r.toArray⟩, .int .i64 k, .slice ua fs.length uc, .slice xa body.length xc, .int .i64 a0, .int .i64 g0] 0 _ B6.out
  have rF := row_base (row_putFrom (b := w.heap.size + 1) (by rw [zs.out]; omega) [.string ⟨key.toArray⟩, .string ⟨vary.toArray⟩, .int .i64 s, .string ⟨r.toArray⟩, .int .i64 k, .slice ua fs.length uc, .slice xa body.length xc, .int .i64 a0, .int .i64 g0] 0 _ F6.out) B2.out.size
  have rO := row_base (row_putFrom (b := w.heap.size + 1) (by have := s4.out; omega) [.string ⟨key.toArray⟩, .string ⟨vary.toArray⟩, .int .i64 s, .string ⟨r.toArray⟩, .int .i64 k, .slice ua fs.length uc, .slice xa body.length xc, .int .i64 a0, .int .i64 g0] 0 _ O6.out) (show w.heap.size ≤ w4.heap.size by have := s4.out; omega)
  rw [put_nine] at zq zb rF rO
  have ZQ := hide' zq
  have FIN : Hid (∃ lu bu, Ending.returned (.agg #[.string ⟨key.toArray⟩, .string ⟨vary.toArray⟩, .int .i64 s, .string ⟨r.toArray⟩, .int .i64 k, .slice ua fs.length uc, .slice xa body.length xc, .int .i64 a0, .int .i64 g0]) = .returned (.agg #[.string ⟨key.toArray⟩, .string ⟨vary.toArray⟩, .int .i64 s, .string ⟨r.toArray⟩, .int .i64 k, lu, bu, .int .i64 a0, .int .i64 g0]) ∧ OwnF w lu fs _ ∧ Own w bu body _) := ⟨.slice ua fs.length uc, .slice xa body.length xc, rfl, ⟨rF, zb⟩, ⟨rO, zb⟩⟩
  clear zq zb rF rO
  go_wp2_with fail
  obtain ⟨⟨x0, x1, x2, x3, x4, x5, x6, x7, x8⟩, -⟩ := cells_nine ZQ.out
  exact bodyPost_ret (v := .agg #[.string ⟨key.toArray⟩, .string ⟨vary.toArray⟩, .int .i64 s, .string ⟨r.toArray⟩, .int .i64 k, .slice ua fs.length uc, .slice xa body.length xc, .int .i64 a0, .int .i64 g0]) (by simp [results, Tryd.results18, go_sem, x0, x1, x2, x3, x4, x5, x6, x7, x8]) rfl FIN.out
set_option maxRecDepth 20000 in
set_option maxHeartbeats 4000000 in
theorem sameEC (e : En) (lva lvb bva bvb : Value) (w : World) (hFa : HoldsF w lva e.r.fs) (hFb : HoldsF w lvb e.r.fs) (hBa : HoldsB w bva e.body) (hBb : HoldsB w bvb e.body) (hl : e.r.fs.length ≤ 2000000) (hb : e.body.length ≤ 1000000000000000) :
    Calls Tryd.prog 21 #[entV e lva bva, entV e lvb bvb] w fun x w' => x = .returned (.bool true) ∧ Below w.heap.size w w' := by
  have c1 := hide' (fun W (h : Below w.heap.size w W) => sameRs e.r.s e.r.k e.r.r e.r.fs lva lvb W (holdsF_mono hFa h) (holdsF_mono hFb h) hl)
  have c2 := hide' (fun W (h : Below w.heap.size w W) => sameBe bva bvb e.body W (holdsB_mono hBa h) (holdsB_mono hBb h) hb)
  obtain ⟨la, lc, _, _, e1, _⟩ := holdsF_parts hFa
  obtain ⟨lb, ld, _, _, e2, _⟩ := holdsF_parts hFb
  obtain ⟨ba, bc, e3, _⟩ := holdsB_parts hBa
  obtain ⟨bb, bd, e4, _⟩ := holdsB_parts hBb
  subst e1 e2 e3 e4
  unfold entV
  obtain ⟨key, vary, ⟨s, r, k, fs⟩, body, a0, g0⟩ := e
  dsimp only at *
  have b1 := below_alloc' w (.cells #[.string ⟨key.toArray⟩, .string ⟨vary.toArray⟩, .int .i64 s, .string ⟨r.toArray⟩, .int .i64 k, .slice la fs.length lc, .slice ba body.length bc, .int .i64 a0, .int .i64 g0] 38)
  have b2 := below_alloc' (w.alloc (.cells #[.string ⟨key.toArray⟩, .string ⟨vary.toArray⟩, .int .i64 s, .string ⟨r.toArray⟩, .int .i64 k, .slice la fs.length lc, .slice ba body.length bc, .int .i64 a0, .int .i64 g0] 38)) (.cells #[.string ⟨key.toArray⟩, .string ⟨vary.toArray⟩, .int .i64 s, .string ⟨r.toArray⟩, .int .i64 k, .slice lb fs.length ld, .slice bb body.length bd, .int .i64 a0, .int .i64 g0] 38)
  have q1 := cells_below (cells_lit w #[.string ⟨key.toArray⟩, .string ⟨vary.toArray⟩, .int .i64 s, .string ⟨r.toArray⟩, .int .i64 k, .slice la fs.length lc, .slice ba body.length bc, .int .i64 a0, .int .i64 g0] 38) b2
  have q2 := cells_lit (w.alloc (.cells #[.string ⟨key.toArray⟩, .string ⟨vary.toArray⟩, .int .i64 s, .string ⟨r.toArray⟩, .int .i64 k, .slice la fs.length lc, .slice ba body.length bc, .int .i64 a0, .int .i64 g0] 38)) #[.string ⟨key.toArray⟩, .string ⟨vary.toArray⟩, .int .i64 s, .string ⟨r.toArray⟩, .int .i64 k, .slice lb fs.length ld, .slice bb body.length bd, .int .i64 a0, .int .i64 g0] 38
  have z1 : (w.alloc (.cells #[.string ⟨key.toArray⟩, .string ⟨vary.toArray⟩, .int .i64 s, .string ⟨r.toArray⟩, .int .i64 k, .slice la fs.length lc, .slice ba body.length bc, .int .i64 a0, .int .i64 g0] 38)).heap.size = w.heap.size + 1 := by simp
  rw [z1] at q2
  have B2 := hide' (bt' b1 b2)
  have Q2 := hide' q1
  have R2 := hide' q2
  clear b1 b2 q1 q2 z1 hFa hFb hBa hBb hl hb
  go_enter Tryd.func21, Tryd.ntmps21
  go_wp2_with fail
  refine (c1.out _ B2.out).mono ?_
  rintro x w3 ⟨rfl, b3⟩
  have B3 := hide' (bt' B2.out b3)
  have Q3 : Hid (Blk w.heap.size w3 [.string ⟨key.toArray⟩, .string ⟨vary.toArray⟩, .int .i64 s, .string ⟨r.toArray⟩, .int .i64 k, .slice la fs.length lc, .slice ba body.length bc, .int .i64 a0, .int .i64 g0]) := cells_below Q2.out b3
  have R3 : Hid (Blk (w.heap.size + 1) w3 [.string ⟨key.toArray⟩, .string ⟨vary.toArray⟩, .int .i64 s, .string ⟨r.toArray⟩, .int .i64 k, .slice lb fs.length ld, .slice bb body.length bd, .int .i64 a0, .int .i64 g0]) := cells_below R2.out b3
  clear b3 Q2 R2
  obtain ⟨⟨c0, c1', c2', c3, c4, c5, c6, c7, c8⟩, -⟩ := cells_nine Q3.out
  obtain ⟨⟨d0, d1, d2, d3, d4, d5, d6, d7, d8⟩, -⟩ := cells_nine R3.out
  go_wp2_with fail
  clear c0 c1' c2' c3 c4 c5 c6 c7 c8 d0 d1 d2 d3 d4 d5 d6 d7 d8
  refine (c2.out _ B3.out).mono ?_
  rintro x w4 ⟨rfl, b4⟩
  have B4 := hide' (bt' B3.out b4)
  obtain ⟨⟨c0, c1', c2', c3, c4, c5, c6, c7, c8⟩, -⟩ := cells_nine (show Blk w.heap.size w4 [.string ⟨key.toArray⟩, .string ⟨vary.toArray⟩, .int .i64 s, .string ⟨r.toArray⟩, .int .i64 k, .slice la fs.length lc, .slice ba body.length bc, .int .i64 a0, .int .i64 g0] from cells_below Q3.out b4)
  obtain ⟨⟨d0, d1, d2, d3, d4, d5, d6, d7, d8⟩, -⟩ := cells_nine (show Blk (w.heap.size + 1) w4 [.string ⟨key.toArray⟩, .string ⟨vary.toArray⟩, .int .i64 s, .string ⟨r.toArray⟩, .int .i64 k, .slice lb fs.length ld, .slice bb body.length bd, .int .i64 a0, .int .i64 g0] from cells_below R3.out b4)
  clear b4 Q3 R3
  go_wp2_with fail
  go_ret
  exact ⟨rfl, B4.out⟩
end Go.Proofs.YtmibgcbolnpffaaDoor
namespace Go.Proofs.YtmibgcbolnpffaaDoor
open Go.ChangeShapes Go.WideShapes Go.ChangeAt Go.RowKit
set_option maxRecDepth 100000 in
theorem open_bytes {H : Type} {enc : TypeId × Value → H} {W : World} {base : Nat} {v : Value} {d : DataW H} {p : List MemPlace} (hok : Value.okWide Tryd.prog W .any base 36 v) (h : DataW.Trod enc Tryd.prog W 0 (fun _ => true) true 36 v d p) :
    ∃ bs : List UInt8, HoldsB W v bs ∧ bs.length + 1 ≤ Rows.uptoBulk d ∧ ((∀ n ∈ d.weights Tryd.prog 36, n ≤ reachBytes) → bs.length ≤ reachBytes) := by
  obtain ⟨a0, len0, cap0, rfl⟩ := okWide_slice Tryd.underlying36 hok
  obtain ⟨fuel, hf⟩ := h
  rcases open_ints Tryd.underlying36 Tryd.underlying5 (by kernel_rfl) hf with ⟨hcs, hx⟩ | ⟨x, l, c, zs, hcs, _, hl, hm, hz, hx, hcell, hws⟩
  · simp [Value.cells] at hcs
    obtain ⟨rfl, rfl, rfl⟩ := hcs
    simp only [Prod.mk.injEq] at hx
    obtain ⟨rfl, _⟩ := hx
    exact ⟨[], ⟨none, 0, rfl, fun _ => rfl, Nat.le_refl _, fun h => absurd rfl h⟩, by simp [Rows.uptoBulk], fun _ => by simp⟩
  · simp [Value.cells] at hcs
    obtain ⟨rfl, rfl, rfl⟩ := hcs
    simp only [Prod.mk.injEq] at hx
    obtain ⟨hd, _⟩ := hx
    have hz' : zs.length = cap0 := by simpa using hz
    have hlen : ((zs.take len0).map (fun z : Int => UInt8.ofNat z.toNat)).length = len0 := by rw [List.length_map, List.length_take, Nat.min_eq_left (by omega)]
    refine ⟨(zs.take len0).map (fun z : Int => UInt8.ofNat z.toNat), ⟨some x, cap0, by rw [hlen], (fun e => by cases e), by omega, ?_⟩, ?_, ?_⟩
    · intro hne
      have hpos : 0 < len0 := by
        rcases Nat.eq_zero_or_pos len0 with h | h
        · subst h; simp at hne
        · exact h
      obtain ⟨b, off, rfl, hblt⟩ := addr_at (hcell 0 (by omega))
      refine ⟨b, off, rfl, hblt, fun j hj => ?_⟩
      rw [hlen] at hj
      have hc := hcell j (by omega)
      rw [Go.WideShapes.add_plain] at hc
      rw [hc]
      have hjz : j < zs.length := by omega
      simp only [List.getElem_map, List.getElem_take]
      rw [List.getD_eq_getElem?_getD, List.getElem?_eq_getElem hjz]
      have hw := hws _ (List.getElem_mem hjz)
      have hb : 0 ≤ zs[j] ∧ zs[j] < 256 := byte_wf hw
      show some (Value.int .u8 zs[j]) = some (B _)
      unfold B
      simp only [Option.some.injEq, Value.int.injEq, true_and]
      rw [UInt8.toNat_ofNat']
      omega
    · rw [hd, hlen]
      simp only [Rows.uptoBulk]
      rw [bulk_lits, List.length_take, Nat.min_eq_left (by omega)]
      omega
    · intro hw
      have hub : Tryd.prog.bytesOf 5 = 1 := by kernel_rfl
      rw [hd] at hw
      simp only [DataW.weights, Tryd.underlying36, List.mem_cons, List.mem_append, forall_eq_or_imp, hub] at hw
      obtain ⟨hw1, hw2⟩ := hw
      rw [hlen]
      have e : (lits (H := H) .u8 (zs.take len0)).length = len0 := by unfold lits; rw [List.length_map, List.length_take, Nat.min_eq_left (by omega)]
      rw [e] at hw1
      omega
end Go.Proofs.YtmibgcbolnpffaaDoor
namespace Go.Proofs.YtmibgcbolnpffaaDoor
open Go.ChangeShapes Go.WideShapes Go.ChangeAt Go.RowKit
theorem array9 {α : Type} {cs : Array α} (h : cs.size = 9) : ∃ c0 c1 c2 c3 c4 c5 c6 c7 c8, cs = #[c0, c1, c2, c3, c4, c5, c6, c7, c8] := by
  obtain ⟨l⟩ := cs
  match l, h with
  | [c0, c1, c2, c3, c4, c5, c6, c7, c8], _ => exact ⟨c0, c1, c2, c3, c4, c5, c6, c7, c8, rfl⟩
theorem list6 {α : Type} {xs : List α} (h : xs.length = 6) : ∃ c0 c1 c2 c3 c4 c5, xs = [c0, c1, c2, c3, c4, c5] := by
  match xs, h with
  | [c0, c1, c2, c3, c4, c5], _ => exact ⟨c0, c1, c2, c3, c4, c5, rfl⟩
/-- bytes in a slice whose form is known -/
theorem open_bytesS {H : Type} {enc : TypeId × Value → H} {W : World} {v : Value} {d : DataW H} {p : List MemPlace} (hform : ∃ a l c, v = .slice a l c) (h : DataW.Trod enc Tryd.prog W 0 (fun _ => true) true 36 v d p) :
    ∃ bs : List UInt8, HoldsB W v bs ∧ bs.length + 1 ≤ Rows.uptoBulk d := by
  obtain ⟨a0, len0, cap0, rfl⟩ := hform
  obtain ⟨fuel, hf⟩ := h
  rcases open_ints Tryd.underlying36 Tryd.underlying5 (by kernel_rfl) hf with ⟨hcs, hx⟩ | ⟨x, l, c, zs, hcs, _, hl, hm, hz, hx, hcell, hws⟩
  · simp [Value.cells] at hcs
    obtain ⟨rfl, rfl, rfl⟩ := hcs
    simp only [Prod.mk.injEq] at hx
    obtain ⟨rfl, _⟩ := hx
    exact ⟨[], ⟨none, 0, rfl, fun _ => rfl, Nat.le_refl _, fun h => absurd rfl h⟩, by simp [Rows.uptoBulk]⟩
  · simp [Value.cells] at hcs
    obtain ⟨rfl, rfl, rfl⟩ := hcs
    simp only [Prod.mk.injEq] at hx
    obtain ⟨hd, _⟩ := hx
    have hz' : zs.length = cap0 := by simpa using hz
    have hlen : ((zs.take len0).map (fun z : Int => UInt8.ofNat z.toNat)).length = len0 := by rw [List.length_map, List.length_take, Nat.min_eq_left (by omega)]
    refine ⟨(zs.take len0).map (fun z : Int => UInt8.ofNat z.toNat), ⟨some x, cap0, by rw [hlen], (fun e => by cases e), by omega, ?_⟩, ?_⟩
    · intro hne
      have hpos : 0 < len0 := by
        rcases Nat.eq_zero_or_pos len0 with h | h
        · subst h; simp at hne
        · exact h
      obtain ⟨b, off, rfl, hblt⟩ := addr_at (hcell 0 (by omega))
      refine ⟨b, off, rfl, hblt, fun j hj => ?_⟩
      rw [hlen] at hj
      have hc := hcell j (by omega)
      rw [Go.WideShapes.add_plain] at hc
      rw [hc]
      have hjz : j < zs.length := by omega
      simp only [List.getElem_map, List.getElem_take]
      rw [List.getD_eq_getElem?_getD, List.getElem?_eq_getElem hjz]
      have hw := hws _ (List.getElem_mem hjz)
      have hb : 0 ≤ zs[j] ∧ zs[j] < 256 := byte_wf hw
      show some (Value.int .u8 zs[j]) = some (B _)
      unfold B
      simp only [Option.some.injEq, Value.int.injEq, true_and]
      rw [UInt8.toNat_ofNat']
      omega
    · rw [hd, hlen]
      simp only [Rows.uptoBulk]
      rw [bulk_lits, List.length_take, Nat.min_eq_left (by omega)]
      omega
set_option maxRecDepth 100000 in
theorem open_entry {H : Type} {enc : TypeId × Value → H} {W : World} {base : Nat} {v : Value} {d : DataW H} {p : List MemPlace} (hok : Value.okWide Tryd.prog W .any base 38 v) (h : DataW.Trod enc Tryd.prog W 0 (fun _ => true) true 38 v d p) :
    ∃ (e : En) (lv bv : Value), v = entV e lv bv ∧ HoldsF W lv e.r.fs ∧ HoldsB W bv e.body ∧ e.key.length + e.vary.length + e.r.r.length + bulkF e.r.fs + e.body.length + 5 ≤ Rows.uptoBulk d := by
  obtain ⟨cs, rfl, hsz⟩ := okWide_struct Tryd.underlying38 hok
  have hC : Tryd.prog.cellsOf 38 = 9 := by kernel_rfl
  have k1 : Tryd.prog.cellsOf 9 = 1 := by kernel_rfl
  have k2 : Tryd.prog.cellsOf 35 = 4 := by kernel_rfl
  have k3 : Tryd.prog.cellsOf 36 = 1 := by kernel_rfl
  have k4 : Tryd.prog.cellsOf 3 = 1 := by kernel_rfl
  have k5 : Tryd.prog.cellsOf 22 = 1 := by kernel_rfl
  obtain ⟨c0, c1, c2, c3, c4, c5, c6, c7, c8, rfl⟩ := array9 (hsz.trans hC)
  obtain ⟨fuel, hf⟩ := h
  obtain ⟨xs, n, _, hx, _, hlen, hfl⟩ := DataW.trod_struct Tryd.underlying38 hf
  obtain ⟨y0, y1, y2, y3, y4, y5, rfl⟩ := list6 hlen
  have h0 := hfl 0 _ rfl
  have h1 := hfl 1 _ rfl
  have h2 := hfl 2 _ rfl
  have h3 := hfl 3 _ rfl
  have h4 := hfl 4 _ rfl
  have h5 := hfl 5 _ rfl
  simp [Value.cells, k1, k2, k3, k4] at h0 h1 h2 h3 h4 h5
  simp only [Prod.mk.injEq] at hx
  obtain ⟨rfl, _⟩ := hx
  obtain ⟨s0, e0, x0, _⟩ := DataW.trod_string Tryd.underlying9 h0
  obtain ⟨s1, e1, x1, _⟩ := DataW.trod_string Tryd.underlying9 h1
  obtain ⟨z0, z1, z2, z3, n2, hr, _, g0, g1, g2, g3⟩ := Joins.trod_struct4 Tryd.underlying35 h2
  simp [k1, k4, k5] at g0 g1 g2 g3
  obtain ⟨st, e2, x2, _⟩ := DataW.trod_int Tryd.underlying3 g0
  obtain ⟨s3, e3, x3, _⟩ := DataW.trod_string Tryd.underlying9 g1
  obtain ⟨mi, e4, x4, _⟩ := DataW.trod_int Tryd.underlying3 g2
  obtain ⟨fa, fl, fc, e5⟩ := Joins.slice_form Tryd.underlying22 g3
  obtain ⟨ba, bl, bc, e6⟩ := Joins.slice_form Tryd.underlying36 h3
  obtain ⟨as1, e7, x7, _⟩ := DataW.trod_int Tryd.underlying3 h4
  obtain ⟨gt, e8, x8, _⟩ := DataW.trod_int Tryd.underlying3 h5
  simp only [List.cons.injEq, and_true] at e0 e1 e2 e3 e4 e5 e6 e7 e8
  subst e0 e1 e2 e3 e4 e5 e6 e7 e8 x0 x1 x2 x3 x4 x7 x8
  obtain ⟨fs, hF, hb, _⟩ := open_fieldsS ⟨fa, fl, fc, rfl⟩ (⟨n2, g3⟩ : DataW.Trod enc Tryd.prog W 0 (fun _ => true) true 22 (.slice fa fl fc) z3.1 z3.2)
  obtain ⟨bs, hB, hb2⟩ := open_bytesS ⟨ba, bl, bc, rfl⟩ (⟨n, h3⟩ : DataW.Trod enc Tryd.prog W 0 (fun _ => true) true 36 (.slice ba bl bc) y3.1 y3.2)
  refine ⟨⟨s0.data.toList, s1.data.toList, ⟨st, s3.data.toList, mi, fs⟩, bs, as1, gt⟩, .slice fa fl fc, .slice ba bl bc, by unfold entV; rw [← ba_list, ← ba_list, ← ba_list], hF, hB, ?_⟩
  subst hr
  simp only [Rows.uptoBulk, Rows.uptoBulkAll, List.map_cons, List.map_nil]
  omega
end Go.Proofs.YtmibgcbolnpffaaDoor
namespace Go.Proofs.YtmibgcbolnpffaaDoor
open Go.ChangeShapes Go.WideShapes Go.ChangeAt Go.RowKit
set_option maxRecDepth 100000 in
theorem open_fd {H : Type} {enc : TypeId × Value → H} {W : World} {base : Nat} {v : Value} {d : DataW H} {p : List MemPlace} (hok : Value.okWide Tryd.prog W .any base 43 v) (h : DataW.Trod enc Tryd.prog W 0 (fun _ => true) true 43 v d p) :
    ∃ (x y : List UInt8), v = .agg #[.string ⟨x.toArray⟩, .string ⟨y.toArray⟩] ∧ x.length + y.length + 3 ≤ Rows.uptoBulk d := by
  obtain ⟨v0, v1, y0, y1, n, rfl, rfl, _, h0, h1⟩ := Joins.open_agg2 Tryd.underlying43 (by kernel_rfl) (by kernel_rfl) hok h
  obtain ⟨s0, e0, x0, _⟩ := DataW.trod_string Tryd.underlying9 h0
  obtain ⟨s1, e1, x1, _⟩ := DataW.trod_string Tryd.underlying9 h1
  simp only [List.cons.injEq, and_true] at e0 e1
  subst e0 e1 x0 x1
  refine ⟨s0.data.toList, s1.data.toList, by rw [← ba_list, ← ba_list], ?_⟩
  simp only [Rows.uptoBulk, Rows.uptoBulkAll]
  omega
end Go.Proofs.YtmibgcbolnpffaaDoor
