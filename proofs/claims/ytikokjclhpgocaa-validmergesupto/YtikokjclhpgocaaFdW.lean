/- The contracts of clone and Without. -/
import Derived.Test.YtikokjclhpgocaaGen
import Derived.Test.YtikokjclhpgocaaFdS
import Derived.Test.YtikokjclhpgocaaCln
import Derived.Maps.Own
import Derived.Maps.OwnSet
import Derived.Maps.OwnOps
namespace Go.Proofs.Ytikokjclhpgocaa
open Go.RowKit Go.Maps
/-- the two cells of a variable of the call's own -/
def Two (w0 w : World) : Prop := (∃ x, w.cell? ⟨w0.heap.size, 0, none⟩ = some (.string x)) ∧ (∃ x, w.cell? ⟨w0.heap.size, 1, none⟩ = some (.string x)) ∧ w.frozen? ⟨w0.heap.size, 0, none⟩ = false ∧ w.frozen? ⟨w0.heap.size, 1, none⟩ = false ∧ w0.heap.size < w.heap.size ∧ Below w0.heap.size w0 w
theorem two_start (w : World) : Two w (w.alloc (.cells #[.string ⟨#[]⟩, .string ⟨#[]⟩] 32)) :=
  ⟨⟨⟨#[]⟩, by simp⟩, ⟨⟨#[]⟩, by simp⟩, by simp, by simp, by simp, (Below.refl _ _).alloc (Nat.le_refl _) _⟩
theorem two_below {w0 w w' : World} (h : Two w0 w) (hb : Below w.heap.size w w') : Two w0 w' := by
  obtain ⟨⟨x, h1⟩, ⟨y, h2⟩, h3, h4, h5, h6⟩ := h
  obtain ⟨c, f⟩ := bcell hb
  have := hb.size
  exact ⟨⟨x, by rw [c _ _ h5]; exact h1⟩, ⟨y, by rw [c _ _ h5]; exact h2⟩, by rw [f _ _ h5]; exact h3, by rw [f _ _ h5]; exact h4, by omega, h6.trans (hb.mono h6.size)⟩
theorem two_drawn {w0 w : World} (h : Two w0 w) (n : Nat) : Two w0 (w.drewN n) := two_below h (below_drewN w n)
theorem two_store {w0 w : World} (h : Two w0 w) (a b : Value) : ((w.setCell ⟨w0.heap.size, 0, none⟩ a).setCell ⟨w0.heap.size, 1, none⟩ b).cell? ⟨w0.heap.size, 0, none⟩ = some a ∧ ((w.setCell ⟨w0.heap.size, 0, none⟩ a).setCell ⟨w0.heap.size, 1, none⟩ b).cell? ⟨w0.heap.size, 1, none⟩ = some b ∧ Below w0.heap.size w0 ((w.setCell ⟨w0.heap.size, 0, none⟩ a).setCell ⟨w0.heap.size, 1, none⟩ b) := by
  obtain ⟨⟨x, h1⟩, ⟨y, h2⟩, h3, h4, h5, h6⟩ := h
  refine ⟨?_, ?_, (h6.setCell (Nat.le_refl _) _).setCell (Nat.le_refl _) _⟩
  · rw [World.cell?_setCell_other _ _ _ _ (by simp)]
    exact World.cell?_setCell_same _ _ _ h1
  · refine World.cell?_setCell_same (u := .string y) _ _ _ ?_
    rw [World.cell?_setCell_other _ _ _ _ (by simp)]
    exact h2
set_option maxHeartbeats 400000 in
theorem cloneF (x y : ByteArray) (w : World) (hx : x.size ≤ 140737488351232) (hy : y.size ≤ 140737488351232) :
    Calls Try.prog 24 #[.string x, .string y] w fun e w' => e = .returned (.agg #[.string x, .string y]) ∧ Below w.heap.size w w' := by
  go_enter Try.func24, Try.ntmps24
  go_wp2_with fail
  refine (clone x _ hx).mono ?_
  rintro e w1 ⟨rfl, h1⟩
  have T1 : Hid (Two w w1) := two_below (two_start w) h1
  clear h1
  go_wp2_with fail
  refine (clone y _ hy).mono ?_
  rintro e w2 ⟨rfl, h2⟩
  have T2 : Hid (Two w w2) := two_below T1.out h2
  clear h2 T1
  obtain ⟨⟨x1, c1⟩, ⟨x2, c2⟩, f1, f2, z, bel⟩ := T2.out
  go_wp2_with fail
  obtain ⟨q1, q2, q3⟩ := two_store T2.out (.string x) (.string y)
  exact bodyPost_ret (v := .agg #[.string x, .string y]) (by simp [results, Try.results24, go_sem, q1, q2]) rfl ⟨rfl, q3⟩
theorem ownsMap_below {H : Type} {P : Program} {k : TypeId} {R : Value → Option (DataW H × List MemPlace)} {b n : Nat} {D : DataW H} {w w' : World} (h : w.ownsMap P k R b n D) (hb : Below w.heap.size w w') : w'.ownsMap P k R b n D := by
  have hlt := h.lt
  obtain ⟨es, clock, hbk, F, hs, hD⟩ := h
  exact ⟨es, clock, by rw [hb.block b hlt]; exact hbk, F, hs, hD⟩
def keysOf (ns : List (List UInt8)) : List Lit := ns.map (fun n => Lit.string (lows n))
def setN (ns : List (List UInt8)) : DataW Unit := setOf (.agg []) (keysOf ns)
theorem setN_step (ns : List (List UInt8)) (k : Nat) (h : k < ns.length) : setN (ns.take (k + 1)) = (setN (ns.take k)).put (.string (lows ns[k])) (.agg []) := by
  unfold setN keysOf
  rw [List.take_succ_eq_append_getElem h, List.map_append, List.map_cons, List.map_nil, setOf_snoc]
theorem has_setN (ns : List (List UInt8)) (x : List UInt8) : Maps.has (setN ns) (.string x) = decide (x ∈ ns.map lows) := by
  unfold setN
  rw [has_setOf _ _ _ (by intro y hy; obtain ⟨n, _, rfl⟩ := List.mem_map.1 hy; exact trivial), Bool.eq_iff_iff, List.any_eq_true, decide_eq_true_iff]
  constructor
  · rintro ⟨y, hy, hs⟩
    obtain ⟨n, hn, rfl⟩ := List.mem_map.1 hy
    have := WideAt.sameKey_eq hs
    injection this with e
    exact List.mem_map.2 ⟨n, hn, e⟩
  · intro h
    obtain ⟨n, hn, rfl⟩ := List.mem_map.1 h
    exact ⟨_, List.mem_map.2 ⟨n, hn, rfl⟩, WideAt.sameKey_self trivial⟩
theorem keyLaw : Keyed Try.prog 9 := string_keyed Try.underlying9
theorem zeroUF (w : World) : (zeroValue 42).run Try.prog w = .ok (.agg #[]) w := by kernel_rfl
theorem mk_map (w : World) (n : Int) : (Instr.makeMap 41 (some (.int .i64 n))).run Try.prog w = .ok (.map (some w.heap.size)) (w.alloc (.map #[] 0)) := by
  simp [Instr.makeMap, run_underlying Try.underlying41, asInt, asIntOf, Result.andThen]
theorem holds_parts {w : World} {v : Value} {ss : List (List UInt8)} (h : Holds w v ss) : ∃ ao cap b off, v = .slice ao ss.length cap ∧ (0 < ss.length → ao = some ⟨b, off, none⟩ ∧ b < w.heap.size ∧ ∀ j (h : j < ss.length), w.cell? ⟨b, off + j, none⟩ = some (S ss[j])) := by
  obtain ⟨ao, cap, rfl, hc⟩ := h
  by_cases he : ss = []
  · subst he; exact ⟨ao, cap, 0, 0, rfl, fun h => absurd h (by simp)⟩
  · obtain ⟨b, off, h1, h2, h3⟩ := hc he
    exact ⟨ao, cap, b, off, rfl, fun _ => ⟨h1, h2, h3⟩⟩
theorem holdsF_parts {w : World} {v : Value} {ps : FL} (h : HoldsF w v ps) : ∃ ao cap b off, v = .slice ao ps.length cap ∧ (0 < ps.length → ao = some ⟨b, off, none⟩ ∧ b < w.heap.size ∧ ∀ j (h : j < ps.length), w.cell? ⟨b, off + j * 2, none⟩ = some (S ps[j].1) ∧ w.cell? ⟨b, off + j * 2 + 1, none⟩ = some (S ps[j].2)) := by
  obtain ⟨ao, cap, rfl, _, _, hc⟩ := h
  by_cases he : ps = []
  · subst he; exact ⟨ao, cap, 0, 0, rfl, fun h => absurd h (by simp)⟩
  · obtain ⟨b, off, h1, h2, h3⟩ := hc he
    exact ⟨ao, cap, b, off, rfl, fun _ => ⟨h1, h2, h3⟩⟩
set_option maxHeartbeats 2000000 in
theorem withoutTok (v vn : Value) (fs : FL) (ns : List (List UInt8)) (w : World) (hv : HoldsF w v fs) (hn : Holds w vn ns) (hfit : Fit fs) (hfn : ∀ n ∈ ns, n.length ≤ 140737488351232)
    (hl : fs.length * 32 ≤ 140737488355328) (hln : ns.length ≤ 8796093022208) :
    Calls Try.prog 18 #[v, vn] w fun e w' => ∃ u, e = .returned u ∧ OwnF w u (withoutOf fs ns) w' := by
  obtain ⟨ao, ca, b1, o1, rfl, hca⟩ := holdsF_parts hv
  obtain ⟨bo, cb, b2, o2, rfl, hcb⟩ := holds_parts hn
  have CA : Hid _ := hca
  have CB : Hid _ := hcb
  have FT : Hid _ := hfit
  have FN : Hid _ := hfn
  clear hca hcb hv hn hfit hfn
  obtain ⟨n, en⟩ : ∃ n, n = fs.length := ⟨_, rfl⟩
  obtain ⟨m, em⟩ : ∃ m, m = ns.length := ⟨_, rfl⟩
  have N : Hid (fs.length = n) := en.symm
  have M : Hid (ns.length = m) := em.symm
  rw [N.out] at hl ⊢
  rw [M.out] at hln ⊢
  clear en em
  have hmm := mk_map w m
  go_enter Try.func18, Try.ntmps18
  go_wp2_with fail
  clear hmm
  go_loopw [18] (fun i wr => ∃ k : Nat, k ≤ m ∧ i = .int .i64 k ∧ wr.ownsMap Try.prog 9 (unitElem (H := Unit)) w.heap.size k (setN (ns.take k)) ∧ Below w.heap.size w wr) (fun i _ => m - (intOf i).toNat)
  case atStart => exact ⟨0, Nat.zero_le _, rfl, World.ownsMap_made _ _ _ _, (Below.refl _ _).alloc (Nat.le_refl _) _⟩
  case round =>
    obtain ⟨k, hk, rfl, hown, hnx⟩ := hrel
    by_cases hlt : k < m
    · have G : Hid (k < ns.length) := by unfold Hid; rw [M.out]; exact hlt
      obtain ⟨hbo, hblt, hcell⟩ := CB.out (by have := G.out; omega)
      subst hbo
      have ck : wr.cell? ⟨b2, o2 + k, none⟩ = some (.string ⟨(ns[k]'G.out).toArray⟩) := by
        rw [hnx.cell (p := ⟨b2, o2 + k, none⟩) hblt]; exact hcell k G.out
      have R : Hid (setN (ns.take (k + 1)) = (setN (ns.take k)).put (.string (lows (ns[k]'G.out))) (.agg [])) := setN_step ns k G.out
      have hsz := FN.out _ (List.getElem_mem G.out)
      have cF := fun W => foldTok ⟨(ns[k]'G.out).toArray⟩ W (by rw [size_l]; exact hsz)
      have hlk : (lows (ns[k]'G.out)).length ≤ 140737488351232 := by rw [lows_len]; exact hsz
      have HK : Hid (keyOf Try.prog 9 (.string ⟨(lows (ns[k]'G.out)).toArray⟩) = some (.string (lows (ns[k]'G.out)))) := WideMaps.keyOf_string_mk Try.underlying9 (by rw [size_l]; unfold maxLen; omega)
      clear hcell
      simp only at cF
      generalize ns[k]'G.out = q at ck cF hsz R hlk HK
      have CF := hide' cF
      clear cF
      go_wp2_with (first
        | (go_at_call 23; refine (CF.out _).mono ?_; rintro e w2 ⟨rfl, hb2⟩; have hown2 := ownsMap_below hown hb2; have hnx2 : Below w.heap.size w w2 := hnx.trans (hb2.mono hnx.size); clear hown hnx)
        | (at_mapUpdate; refine wpList_mapUpdate_own _ rfl _ _ _ 41 rfl 9 42 keyLaw Try.underlying41 (unitElem (H := Unit)) w.heap.size k _ rfl hown2 (by unfold maxLen; omega) _ _ _ rfl rfl HK.out _ [] unitElem_mk ?_; intro w3 hown3 hgrow3))
      go_roundw
      case rel => exact ⟨k + 1, by omega, by go_num, by rw [R.out]; exact hown3, hnx2.grown hgrow3 hnx2.size (fun j hj => by cases hj; exact Nat.le_refl _)⟩
      case measure => simp [intOf]; omega
    · have E : Hid (ns.take k = ns) := List.take_of_length_le (by rw [M.out]; omega)
      rw [E.out] at hown
      clear E CB FN M
      obtain ⟨w1, ew⟩ : ∃ w1, w1 = wr := ⟨_, rfl⟩
      subst ew
      have LK : Hid (∀ W, Below w1.heap.size w1 W → W.ownsMap Try.prog 9 (unitElem (H := Unit)) w.heap.size k (setN ns)) := fun W hb => ownsMap_below hown hb
      have B1 := hide' hnx
      clear hown hnx
      go_wp2_with fail
      clear hlt hln hk
      go_loopw [8, 29] (fun v i wr => ∃ j : Nat, j ≤ n ∧ i = .int .i64 j ∧ OwnF w1 v (withoutOf (fs.take j) ns) wr) (fun _ i _ => n - (intOf i).toNat)
      case atStart => exact ⟨0, Nat.zero_le _, rfl, ownF_nil _ _ (Below.refl _ _)⟩
      case round =>
        obtain ⟨j, hj, rfl, ho⟩ := hrel
        have hac : (withoutOf (fs.take j) ns).length ≤ j := Nat.le_trans (without_len _ _) (List.length_take_le _ _)
        by_cases hlt : j < n
        · have G : Hid (j < fs.length) := by unfold Hid; rw [N.out]; exact hlt
          obtain ⟨hao, hblt, hcell⟩ := CA.out (by have := G.out; omega)
          subst hao
          obtain ⟨h1, h2⟩ := hcell j G.out
          have hblt1 : b1 < w1.heap.size := Nat.lt_of_lt_of_le hblt B1.out.size
          have c1 : wr.cell? ⟨b1, o1 + j * 2, none⟩ = some (.string ⟨(fs[j]'G.out).1.toArray⟩) := by
            rw [ho.2.cell (p := ⟨b1, o1 + j * 2, none⟩) hblt1, B1.out.cell (p := ⟨b1, o1 + j * 2, none⟩) hblt]; exact h1
          have c2 : wr.cell? ⟨b1, o1 + j * 2 + 1, none⟩ = some (.string ⟨(fs[j]'G.out).2.toArray⟩) := by
            rw [ho.2.cell (p := ⟨b1, o1 + j * 2 + 1, none⟩) hblt1, B1.out.cell (p := ⟨b1, o1 + j * 2 + 1, none⟩) hblt]; exact h2
          obtain ⟨hs1, hs2⟩ := fit_at FT.out j G.out
          have cF := fun W => foldTok ⟨(fs[j]'G.out).1.toArray⟩ W (by rw [size_l]; exact hs1)
          have cC := fun W => cloneF ⟨(fs[j]'G.out).1.toArray⟩ ⟨(fs[j]'G.out).2.toArray⟩ W (by rw [size_l]; exact hs1) (by rw [size_l]; exact hs2)
          have hlk : (lows (fs[j]'G.out).1).length ≤ 140737488351232 := by rw [lows_len]; exact hs1
          have HK : Hid (keyOf Try.prog 9 (.string ⟨(lows (fs[j]'G.out).1).toArray⟩) = some (.string (lows (fs[j]'G.out).1))) := WideMaps.keyOf_string_mk Try.underlying9 (by rw [size_l]; unfold maxLen; omega)
          have hh := has_setN ns (lows (fs[j]'G.out).1)
          clear hcell h1 h2
          simp only at cF
          have CF := hide' cF
          have CC := hide' cC
          clear cF cC
          by_cases hin : lows (fs[j]'G.out).1 ∈ ns.map lows
          · have R : Hid (withoutOf (fs.take (j + 1)) ns = withoutOf (fs.take j) ns) := without_hit fs ns j G.out hin
            rw [decide_eq_true hin] at hh
            clear hin
            generalize (fs[j]'G.out).1 = q1 at c1 CF CC hs1 hlk HK hh
            generalize (fs[j]'G.out).2 = q2 at c2 CC hs2
            go_wp2_with (first
            | (go_at_call 23; refine (CF.out _).mono ?_; rintro e w2 ⟨rfl, hb2⟩; have hz2 : wr.heap.size < w2.heap.size := (by have := hb2.size; simp at this; omega); have d1 : w2.cell? ⟨wr.heap.size, 0, none⟩ = some (.string ⟨q1.toArray⟩) := (by rw [hb2.cell (p := ⟨wr.heap.size, 0, none⟩) (by simp)]; simp); have d2 : w2.cell? ⟨wr.heap.size, 1, none⟩ = some (.string ⟨q2.toArray⟩) := (by rw [hb2.cell (p := ⟨wr.heap.size, 1, none⟩) (by simp)]; simp); have ho2 := ownF_mono (ownF_mono ho (below_alloc' wr (.cells #[.string ⟨q1.toArray⟩, .string ⟨q2.toArray⟩] 32))) hb2; have hm2 := LK.out w2 ho2.2; clear ho hb2 c1 c2)
            | (at_lookup; refine wpList_lookup_own_unit _ rfl _ _ 41 rfl 9 42 keyLaw Try.underlying41 (zeroUF _) w.heap.size k _ rfl hm2 _ _ rfl HK.out ?_))
            go_roundw
            case rel => exact ⟨j + 1, by omega, by go_num, by rw [R.out]; exact ownF_mono ho2 (below_alloc' _ _)⟩
            case measure => simp [intOf]; omega
          · have R : Hid (withoutOf (fs.take (j + 1)) ns = withoutOf (fs.take j) ns ++ [((fs[j]'G.out).1, (fs[j]'G.out).2)]) := without_miss fs ns j G.out hin
            rw [decide_eq_false hin] at hh
            clear hin
            generalize (fs[j]'G.out).1 = q1 at c1 CF CC hs1 hlk HK hh R
            generalize (fs[j]'G.out).2 = q2 at c2 CC hs2 R
            go_wp2_with (first
            | (go_at_call 23; refine (CF.out _).mono ?_; rintro e w2 ⟨rfl, hb2⟩; have hz2 : wr.heap.size < w2.heap.size := (by have := hb2.size; simp at this; omega); have d1 : w2.cell? ⟨wr.heap.size, 0, none⟩ = some (.string ⟨q1.toArray⟩) := (by rw [hb2.cell (p := ⟨wr.heap.size, 0, none⟩) (by simp)]; simp); have d2 : w2.cell? ⟨wr.heap.size, 1, none⟩ = some (.string ⟨q2.toArray⟩) := (by rw [hb2.cell (p := ⟨wr.heap.size, 1, none⟩) (by simp)]; simp); have ho2 := ownF_mono (ownF_mono ho (below_alloc' wr (.cells #[.string ⟨q1.toArray⟩, .string ⟨q2.toArray⟩] 32))) hb2; have hm2 := LK.out w2 ho2.2; clear ho hb2 c1 c2)
            | (at_lookup; refine wpList_lookup_own_unit _ rfl _ _ 41 rfl 9 42 keyLaw Try.underlying41 (zeroUF _) w.heap.size k _ rfl hm2 _ _ rfl HK.out ?_)
            | (go_at_call 24; refine (CC.out _).mono ?_; rintro e w4 ⟨rfl, hb4⟩; have ho4 := ownF_mono (ownF_mono ho2 (below_alloc' w2 (.cells #[] 42))) hb4; clear ho2 hb4 hm2 d1 d2)
            | (at_builtin; refine appF rfl (.tmp 43) (.tmp 49) rfl w1 _ _ rfl ho4 (q1, q2) rfl rfl rfl rfl (by omega) ?_; intro v5 w5 ho5))
            go_roundw
            case rel => exact ⟨j + 1, by omega, by go_num, by rw [R.out]; exact ho5⟩
            case measure => simp [intOf]; omega
        · have E : Hid (fs.take j = fs) := List.take_of_length_le (by rw [N.out]; omega)
          rw [E.out] at ho
          go_wp2_with fail
          go_ret
          exact ⟨_, rfl, ownF_base ho B1.out⟩
end Go.Proofs.Ytikokjclhpgocaa
