/- The contracts of Values and of the document's Values. The contracts of Tokens and of the document's Tokens. -/
import Derived.Test.YtmibgcbolnpffaaDoorBm
import Derived.Test.YtmibgcbolnpffaaDoorBl
import Derived.Maps.AppendAt
namespace Go.Proofs.YtmibgcbolnpffaaDoor
open Go.RowKit
theorem ba_eql' (a b : List UInt8) (h : ¬ a = b) : ((⟨a.toArray⟩ : ByteArray).toList == (⟨b.toArray⟩ : ByteArray).toList) = false := by
  rw [Lib.toList_data, Lib.toList_data]; simpa using h
set_option maxHeartbeats 2000000 in
theorem valuesTok (v : Value) (fs : FL) (nm : List UInt8) (w : World) (hv : HoldsF w v fs) (hfit : Fit fs) (hn : nm.length ≤ 140737488351232) (hl : fs.length * 16 ≤ 140737488355328) :
    Calls Tryd.prog 40 #[v, .string ⟨nm.toArray⟩] w fun e w' => ∃ u, e = .returned u ∧ OwnS w u (valsOf fs nm) w' := by
  obtain ⟨ao, ca, b1, o1, rfl, hca⟩ := holdsF_parts hv
  have CA : Hid _ := hca
  have FT : Hid _ := hfit
  have cN := hide' (foldTok ⟨nm.toArray⟩ w (by rw [size_l]; exact hn))
  clear hca hv hfit
  obtain ⟨n, en⟩ : ∃ n, n = fs.length := ⟨_, rfl⟩
  have N : Hid (fs.length = n) := en.symm
  rw [N.out] at hl ⊢
  clear en
  go_enter Tryd.func40, Tryd.ntmps40
  go_wp2_with fail
  refine cN.out.mono ?_
  rintro e w1 ⟨rfl, b1'⟩
  have B1 := hide' b1'
  clear b1' cN
  go_wp2_with fail
  go_loopw [6, 13] (fun v i wr => ∃ j : Nat, j ≤ n ∧ i = .int .i64 j ∧ OwnS w1 v (valsOf (fs.take j) nm) wr) (fun _ i _ => n - (intOf i).toNat)
  case atStart => exact ⟨0, Nat.zero_le _, rfl, ownS_nil _ _ (Below.refl _ _)⟩
  case round =>
    obtain ⟨j, hj, rfl, ho⟩ := hrel
    have hac : (valsOf (fs.take j) nm).length ≤ j := Nat.le_trans (vals_len _ _) (List.length_take_le _ _)
    by_cases hlt : j < n
    · have G : Hid (j < fs.length) := by unfold Hid; rw [N.out]; exact hlt
      obtain ⟨hao, hblt, hcell⟩ := CA.out (by have := G.out; omega)
      subst hao
      obtain ⟨h1, h2⟩ := hcell j G.out
      have hblt1 : b1 < w1.heap.size := Nat.lt_of_lt_of_le hblt B1.out.size
      have c1 : wr.cell? ⟨b1, o1 + j * 2, none⟩ = some (.string ⟨(fs[j]'G.out).1.toArray⟩) := by
        rw [ho.2.cell (p := ⟨b1, o1 + j * 2, none⟩) hblt1, B1.out.cell (p := ⟨b1, o1 + j * 2, none⟩) hblt]; exact h1
      have c2 : wr.cell? ⟨b1, o1 + j * 2 + 1, none⟩ = some (.string ⟨(fs[j]'G.out).2.toArray⟩) := by
        rw [ho.2.cell (p := ⟨b1, o1 + j * 2 + 1, none⟩) hblt1, B1.out.cell (p := ⟨b1, o1 + j * 2 + 1, none⟩) hblt]; exact h2
      obtain ⟨hs1, hs2⟩ := fit_at FT.out j G.out
      have cF := fun W => foldTok ⟨(fs[j]'G.out).1.toArray⟩ W (by rw [size_l]; exact hs1)
      have CC := hide' (fun W => clone ⟨(fs[j]'G.out).2.toArray⟩ W (by rw [size_l]; exact hs2))
      simp only at cF
      have CF := hide' cF
      clear cF hcell h1 h2
      by_cases he : lows (fs[j]'G.out).1 = lows nm
      · have R : Hid (valsOf (fs.take (j + 1)) nm = valsOf (fs.take j) nm ++ [(fs[j]'G.out).2]) := vals_hit fs nm j G.out he
        rw [he] at CF
        clear he
        generalize (fs[j]'G.out).1 = q1 at c1 CF hs1
        generalize (fs[j]'G.out).2 = q2 at c2 CC hs2 R
        go_wp2_with (first
          | (go_at_call 29; refine (CF.out _).mono ?_; rintro e w2 ⟨rfl, hb2⟩; have hz2 : wr.heap.size < w2.heap.size := (by have := hb2.size; simp at this; omega); have d1 : w2.cell? ⟨wr.heap.size, 0, none⟩ = some (.string ⟨q1.toArray⟩) := (by rw [hb2.cell (p := ⟨wr.heap.size, 0, none⟩) (by simp)]; simp); have d2 : w2.cell? ⟨wr.heap.size, 1, none⟩ = some (.string ⟨q2.toArray⟩) := (by rw [hb2.cell (p := ⟨wr.heap.size, 1, none⟩) (by simp)]; simp); have ho2 := ownS_mono (ownS_mono ho (below_alloc' wr (.cells #[.string ⟨q1.toArray⟩, .string ⟨q2.toArray⟩] 43))) hb2; clear ho hb2 c1 c2)
          | (go_at_call 49; refine (CC.out _).mono ?_; rintro e w4 ⟨rfl, hb4⟩; have ho4 := ownS_mono ho2 hb4; clear ho2 hb4 d1 d2)
          | (at_builtin; refine appS rfl (.tmp 22) (.tmp 26) rfl w1 _ _ rfl ho4 q2 rfl rfl (by omega) ?_; intro v5 w5 ho5))
        go_roundw
        case rel => exact ⟨j + 1, by omega, by go_num, by rw [R.out]; exact ho5⟩
        case measure => simp [intOf]; omega
      · have R : Hid (valsOf (fs.take (j + 1)) nm = valsOf (fs.take j) nm) := vals_miss fs nm j G.out he
        have hne := ba_eql' _ _ he
        have hne2 : (lows (fs[j]'G.out).1 == lows nm) = false := by simpa using he
        clear he
        generalize (fs[j]'G.out).2 = q2 at c2 CC hs2
        generalize (fs[j]'G.out).1 = q1 at c1 CF hs1 hne hne2
        generalize lows q1 = l1 at CF hne hne2
        go_wp2_with (go_at_call 29; refine (CF.out _).mono ?_; rintro e w2 ⟨rfl, hb2⟩; have ho2 := ownS_mono (ownS_mono ho (below_alloc' wr (.cells #[.string ⟨q1.toArray⟩, .string ⟨q2.toArray⟩] 43))) hb2; clear ho hb2 c1 c2)
        go_roundw
        case rel => exact ⟨j + 1, by omega, by go_num, by rw [R.out]; exact ho2⟩
        case measure => simp [intOf]; omega
    · have E : Hid (fs.take j = fs) := List.take_of_length_le (by rw [N.out]; omega)
      rw [E.out] at ho
      go_wp2_with fail
      go_ret
      exact ⟨_, rfl, ownS_base ho B1.out⟩
set_option maxHeartbeats 2000000 in
theorem valuesRef (v : Value) (fs : FL) (nm : List UInt8) (w : World) (hv : HoldsF w v fs) (hfit : Fit fs) (hn : nm.length ≤ 140737488351232) (hl : fs.length * 16 ≤ 140737488355328) :
    Calls Tryd.prog 34 #[v, .string ⟨nm.toArray⟩] w fun e w' => ∃ u, e = .returned u ∧ OwnS w u (valsOf fs nm) w' := by
  obtain ⟨ao, ca, b1, o1, rfl, hca⟩ := holdsF_parts hv
  have CA : Hid _ := hca
  have FT : Hid _ := hfit
  have cN := fun W => lowerRef ⟨nm.toArray⟩ W (by rw [size_l]; exact hn)
  simp only at cN
  have CN := hide' cN
  clear hca hv hfit cN
  obtain ⟨n, en⟩ : ∃ n, n = fs.length := ⟨_, rfl⟩
  have N : Hid (fs.length = n) := en.symm
  rw [N.out] at hl ⊢
  clear en
  go_enter Tryd.func34, Tryd.ntmps34
  go_wp2_with fail
  go_loopw [5, 6] (fun v i wr => ∃ j : Nat, j ≤ n ∧ i = .int .i64 j ∧ OwnS w v (valsOf (fs.take j) nm) wr) (fun _ i _ => n - (intOf i).toNat)
  case atStart => exact ⟨0, Nat.zero_le _, rfl, ownS_empty w⟩
  case round =>
    obtain ⟨j, hj, rfl, ho⟩ := hrel
    have hac : (valsOf (fs.take j) nm).length ≤ j := Nat.le_trans (vals_len _ _) (List.length_take_le _ _)
    by_cases hlt : j < n
    · have G : Hid (j < fs.length) := by unfold Hid; rw [N.out]; exact hlt
      obtain ⟨hao, hblt, hcell⟩ := CA.out (by have := G.out; omega)
      subst hao
      obtain ⟨h1, h2⟩ := hcell j G.out
      have c1 : wr.cell? ⟨b1, o1 + j * 2, none⟩ = some (.string ⟨(fs[j]'G.out).1.toArray⟩) := by
        rw [ho.2.cell (p := ⟨b1, o1 + j * 2, none⟩) hblt]; exact h1
      have h2' := hide' h2
      obtain ⟨hs1, hs2⟩ := fit_at FT.out j G.out
      have cF := fun W => lowerRef ⟨(fs[j]'G.out).1.toArray⟩ W (by rw [size_l]; exact hs1)
      simp only at cF
      have CF := hide' cF
      clear cF hcell h1 h2
      by_cases he : lows (fs[j]'G.out).1 = lows nm
      · have R : Hid (valsOf (fs.take (j + 1)) nm = valsOf (fs.take j) nm ++ [(fs[j]'G.out).2]) := vals_hit fs nm j G.out he
        rw [he] at CF
        clear he
        generalize (fs[j]'G.out).1 = q1 at c1 CF hs1
        generalize (fs[j]'G.out).2 = q2 at h2' hs2 R
        go_wp2_with fail
        refine (CF.out _).mono ?_
        rintro e w2 ⟨rfl, hb2⟩
        have O2 := hide' (ownS_mono ho hb2)
        clear hb2 ho c1
        go_wp2_with fail
        refine (CN.out _).mono ?_
        rintro e w3 ⟨rfl, hb3⟩
        have ho3 := ownS_mono O2.out hb3
        have c2 : w3.cell? ⟨b1, o1 + j * 2 + 1, none⟩ = some (.string ⟨q2.toArray⟩) := by
          rw [ho3.2.cell (p := ⟨b1, o1 + j * 2 + 1, none⟩) hblt]; exact h2'.out
        clear hb3 O2
        go_wp2_with (at_builtin; refine appS rfl (.tmp 23) (.tmp 29) rfl w _ _ rfl ho3 q2 rfl rfl (by omega) ?_; intro v5 w5 ho5)
        go_roundw
        case rel => exact ⟨j + 1, by omega, by go_num, by rw [R.out]; exact ho5⟩
        case measure => simp [intOf]; omega
      · have R : Hid (valsOf (fs.take (j + 1)) nm = valsOf (fs.take j) nm) := vals_miss fs nm j G.out he
        have hne := ba_eql' _ _ he
        have hne2 : (lows (fs[j]'G.out).1 == lows nm) = false := by simpa using he
        clear he
        generalize (fs[j]'G.out).2 = q2 at h2' hs2
        generalize (fs[j]'G.out).1 = q1 at c1 CF hs1 hne hne2
        generalize lows q1 = l1 at CF hne hne2
        go_wp2_with fail
        refine (CF.out _).mono ?_
        rintro e w2 ⟨rfl, hb2⟩
        have O2 := hide' (ownS_mono ho hb2)
        clear hb2 ho c1
        go_wp2_with fail
        refine (CN.out _).mono ?_
        rintro e w3 ⟨rfl, hb3⟩
        have ho3 := ownS_mono O2.out hb3
        clear hb3 O2
        go_wp2_with fail
        go_roundw
        case rel => exact ⟨j + 1, by omega, by go_num, by rw [R.out]; exact ho3⟩
        case measure => simp [intOf]; omega
    · have E : Hid (fs.take j = fs) := List.take_of_length_le (by rw [N.out]; omega)
      rw [E.out] at ho
      go_wp2_with fail
      go_ret
      exact ⟨_, rfl, ho⟩
end Go.Proofs.YtmibgcbolnpffaaDoor
namespace Go.Proofs.YtmibgcbolnpffaaDoor
open Go.RowKit
/-- one text more, and what lies in other blocks stays -/
theorem appSx {ops : Array Oper} {rest : List Oper} {o : Oper} {a : Act} {Q : Exit → Act → World → Prop} {wr : World} {t : ByteArray} (hgd : o.guard = none) (s x : Operand)
    (ho : o.op = .call { callee := .builtin .append, args := #[s, x], argTypes := #[25, 25] }) (w0 : World) (v : Value) (ss : List (List UInt8)) (hs : a.eval s = v) (hown : OwnS w0 v ss wr)
    (l : List UInt8) (ht : t = ⟨l.toArray⟩) (hx : a.eval x = .slice (some ⟨wr.heap.size, 0, none⟩) 1 1) (hlen : (ss.length + 1) * 16 ≤ 140737488355328)
    (h : ∀ v' w', OwnS w0 v' (ss ++ [l]) w' → (∀ g, g < wr.heap.size → v.ownBlock ≠ some g → v'.ownBlock ≠ some g ∧ g < w'.heap.size ∧ ∀ o, w'.cell? ⟨g, o, none⟩ = wr.cell? ⟨g, o, none⟩) → wpList Tryd.prog ops Q rest (a.put o.dst v') w') : wpList Tryd.prog ops Q (o :: rest) a (wr.alloc (.cells #[.string t] 9)) := by
  subst ht
  obtain ⟨i0, hi, hz0, hz1, hz2⟩ := info_parts Tryd.info9
  have hsz := hown.2.size
  refine wpList_append_own_at _ hgd s x 25 ho w0.heap.size 9 i0 (.string ⟨#[]⟩) 1 16 Tryd.underlying25 hi hz0 hz1 hz2 rfl (by decide) v ss.length (ss.map S) hs (hown.1.alloc _) ⟨wr.heap.size, 0, none⟩ 1 1 [S l] hx rfl ?_ ?_ ?_ ?_ ?_ ?_
  · intro j u hj
    match j, hj with
    | 0, hj => simp at hj; subst hj; simp [Addr.add, S]
  · intro u hu; simp at hu; subst hu; rfl
  · unfold maxLen; omega
  · omega
  · simp; omega
  · intro v' w' h1 h2 _ h4
    refine h v' w' ⟨by simpa using h1, ?_⟩ ?_
    · refine Below.grown (hown.2.alloc (by omega) _) h2 (by simp; omega) ?_
      intro k hk
      exact (hown.1.lt k hk).1
    · intro g hg hne
      have hs2 := h2.size
      refine ⟨?_, ?_, fun o => ?_⟩
      · rcases h4 with h4 | h4
        · rw [h4]; exact hne
        · rw [h4]; intro e; simp at e; omega
      · simp at hs2; omega
      · have hb : w'.heap[g]? = (wr.alloc (.cells #[.string ⟨l.toArray⟩] 9)).heap[g]? := h2.block g (by simp; omega) (fun e => hne e.symm)
        have : w'.cell? ⟨g, o, none⟩ = (wr.alloc (.cells #[.string ⟨l.toArray⟩] 9)).cell? ⟨g, o, none⟩ := by unfold World.cell?; rw [hb]
        rw [this, (below_alloc' wr _).cell (p := ⟨g, o, none⟩) hg]
/-- what the inner loop keeps of the elements' list -/
def Els (el : List (List UInt8)) (b o : Nat) (v : Value) (w : World) : Prop := 0 < el.length → v.ownBlock ≠ some b ∧ b < w.heap.size ∧ ∀ j (h : j < el.length), w.cell? ⟨b, o + j, none⟩ = some (S el[j])
theorem els_below {el : List (List UInt8)} {b o : Nat} {v : Value} {w w' : World} (h : Els el b o v w) (hb : Below w.heap.size w w') : Els el b o v w' := by
  intro hp
  obtain ⟨h1, h2, h3⟩ := h hp
  have := hb.size
  exact ⟨h1, by omega, fun j hj => by rw [hb.cell (p := ⟨b, o + j, none⟩) h2]; exact h3 j hj⟩
theorem els_app {el : List (List UInt8)} {b o : Nat} {v v' : Value} {w w' : World} (h : Els el b o v w) (hx : ∀ g, g < w.heap.size → v.ownBlock ≠ some g → v'.ownBlock ≠ some g ∧ g < w'.heap.size ∧ ∀ o, w'.cell? ⟨g, o, none⟩ = w.cell? ⟨g, o, none⟩) : Els el b o v' w' := by
  intro hp
  obtain ⟨h1, h2, h3⟩ := h hp
  obtain ⟨k1, k2, k3⟩ := hx b h2 h1
  exact ⟨k1, k2, fun j hj => by rw [k3]; exact h3 j hj⟩
theorem els_start {w0 w w' : World} {vo u : Value} {acc el : List (List UInt8)} (hacc : OwnS w0 vo acc w) (hel : OwnS w u el w') : ∃ ao ca b o, u = .slice ao el.length ca ∧ (0 < el.length → ao = some ⟨b, o, none⟩) ∧ Els el b o vo w' := by
  obtain ⟨hl, h1 | ⟨g, cap, cur, rfl, hg, hh, hr⟩⟩ := hel.1
  · obtain ⟨rfl, hn⟩ := h1
    exact ⟨none, 0, 0, 0, by rw [hn], fun h => absurd h (by omega), fun h => absurd h (by omega)⟩
  · refine ⟨_, cap, g, 0, rfl, fun _ => rfl, fun hp => ⟨?_, (hel.1.lt g rfl).2, fun j hj => ?_⟩⟩
    · intro e
      have := (hacc.1.lt g e).2
      omega
    · rw [Nat.zero_add, hel.1.cellAt j (by omega)]
      simp [hj]
/-- the values' list stays while texts are appended -/
abbrev Cells (_w1 : World) (vs : List (List UInt8)) (b o : Nat) (v : Value) (w : World) : Prop := Els vs b o v w
set_option maxHeartbeats 4000000 in
theorem tokensTokB (v : Value) (fs : FL) (nm : List UInt8) (w : World) (hv : HoldsF w v fs) (hb : bulkF fs ≤ 2000000) (hn : nm.length ≤ 2000000) :
    Calls Tryd.prog 23 #[v, .string ⟨nm.toArray⟩] w fun e w' => ∃ u, e = .returned u ∧ OwnS w u (toksOf (valsOf fs nm)) w' := by
  have hfl := bulkF_len fs
  have cV := hide' (fun W (hb : Below w.heap.size w W) => valuesTok v fs nm W (holdsF_mono hv hb) (fun f hf => by have := bulkF_mem fs f hf; omega) (by omega) (by omega))
  have hbv := bulk_vals fs nm
  clear hv
  generalize valsOf fs nm = vs at cV hbv ⊢
  have hlv := bulkT_len vs
  have MM : Hid _ := bulkT_mem vs
  have TL : Hid (∀ k, (toksOf (vs.take k)).length ≤ 2000000) := fun k => by
    have h1 := toks_len (vs.take k)
    have h2 := bulkT_take vs k
    omega
  go_enter Tryd.func23, Tryd.ntmps23
  go_wp2_with fail
  refine (cV.out _ (Below.refl _ _)).mono ?_
  rintro e w1 ⟨u, rfl, ho⟩
  have O1 := hide' (ownS_nil w1 w1 (Below.refl _ _))
  obtain ⟨ao, ca, b, o, hu, hc⟩ := holds_parts (holds_own ho)
  have B1 := hide' (bt' (Below.refl _ _) ho.2)
  have C := hide' hc
  rw [hu]
  clear ho cV hu hc
  obtain ⟨n, en⟩ : ∃ n, n = vs.length := ⟨_, rfl⟩
  have N : Hid (vs.length = n) := en.symm
  rw [N.out] at hlv ⊢
  clear en
  go_wp2_with fail
  go_loopw [5, 14] (fun v i wr => ∃ (vo : Value) (k : Nat), vo = v ∧ k ≤ n ∧ i = .int .i64 k ∧ OwnS w1 vo (toksOf (vs.take k)) wr ∧ Hid (Cells w1 vs b o vo wr)) (fun _ i _ => n - (intOf i).toNat)
  case atStart => exact ⟨_, 0, rfl, Nat.zero_le _, rfl, O1.out, fun hp => ⟨by simp [Value.ownBlock], (C.out hp).2⟩⟩
  case round =>
    obtain ⟨vo, k, rfl, hk, rfl, ho, HC⟩ := hrel
    obtain ⟨w2, ew⟩ : ∃ w2, w2 = wr := ⟨_, rfl⟩
    subst ew
    have tl := TL.out k
    by_cases hlt : k < n
    · have G : Hid (k < vs.length) := by unfold Hid; rw [N.out]; exact hlt
      have hao := (C.out (by have := G.out; omega)).1
      subst hao
      have ck := (HC.out (by have := G.out; omega)).2.2 k G.out
      unfold S at ck
      have hx := MM.out _ (List.getElem_mem G.out)
      have cL := hide' (fun W => listTok ⟨(vs[k]'G.out).toArray⟩ W (by rw [size_l]; omega))
      have tl2 := TL.out (k + 1)
      have R := hide' (toks_next vs k G.out)
      have LM := hide' (fun p hp => listOf_mem (vs[k]'G.out) p hp)
      simp only at cL
      rw [R.out, List.length_append, List.length_map] at tl2
      generalize vs[k]'G.out = q at ck hx cL tl2 R LM
      generalize toksOf (vs.take k) = acc at ho tl tl2 R
      generalize listOf q = el at cL tl2 R LM
      go_wp2_with fail
      refine (cL.out _).mono ?_
      rintro e w3 ⟨u3, rfl, ho3⟩
      obtain ⟨a3, c3, b3, o3, hu3, ha3, HE⟩ := els_start ho ho3
      have E3 := hide' HE
      have A3 := hide' ha3
      have O3 := hide' (ownS_mono ho ho3.2)
      have C3 := hide' (els_below HC.out ho3.2)
      rw [hu3]
      clear ho3 ho hu3 ha3 HE cL ck HC
      obtain ⟨m, em⟩ : ∃ m, m = el.length := ⟨_, rfl⟩
      have M : Hid (el.length = m) := em.symm
      rw [M.out] at tl2 ⊢
      clear em
      go_wp2_with fail
      go_loopw [5, 21] (fun v i wr => ∃ (vi : Value) (j : Nat), vi = v ∧ j ≤ m ∧ i = .int .i64 j ∧ OwnS w1 vi (acc ++ (el.take j).map lows) wr ∧ Hid (Els el b3 o3 vi wr) ∧ Hid (Cells w1 vs b o vi wr)) (fun _ i _ => m - (intOf i).toNat)
      case atStart => exact ⟨_, 0, rfl, Nat.zero_le _, rfl, by simpa using O3.out, E3, C3⟩
      case round =>
        clear E3 O3 C3
        obtain ⟨vi, j, rfl, hj, rfl, ho, E3, C3⟩ := hrel
        by_cases hjt : j < m
        · have G2 : Hid (j < el.length) := by unfold Hid; rw [M.out]; exact hjt
          have ha := A3.out (by have := G2.out; omega)
          subst ha
          have cj := (E3.out (by have := G2.out; omega)).2.2 j G2.out
          unfold S at cj
          have hy := LM.out _ (List.getElem_mem G2.out)
          have cF := fun W => foldTok ⟨(el[j]'G2.out).toArray⟩ W (by rw [size_l]; omega)
          simp only at cF
          have CF := hide' cF
          have R2 : Hid (acc ++ (el.take (j + 1)).map lows = (acc ++ (el.take j).map lows) ++ [lows (el[j]'G2.out)]) := by
            unfold Hid; rw [List.take_succ_eq_append_getElem G2.out, List.map_append, List.append_assoc]; rfl
          have al : (acc ++ (el.take j).map lows).length ≤ 2000000 := by
            rw [List.length_append, List.length_map, List.length_take]; have := M.out; omega
          clear cF
          generalize el[j]'G2.out = p at cj CF hy R2
          generalize acc ++ (el.take j).map lows = acc2 at ho al R2
          go_wp2_with (first
            | (go_at_call 29; refine (CF.out _).mono ?_; rintro e w5 ⟨rfl, hb5⟩; have ho5 := ownS_mono ho hb5; have E5 := hide' (els_below E3.out hb5); have C5 := hide' (els_below C3.out hb5); clear ho hb5 cj)
            | (at_builtin; refine appSx rfl (.tmp 25) (.tmp 28) rfl w1 _ _ rfl ho5 (lows p) rfl rfl (by omega) ?_; intro v6 w6 ho6 hx6))
          have E6 := hide' (els_app E5.out hx6)
          have C6 := hide' (els_app C5.out hx6)
          clear hx6 E5 C5
          go_roundw
          case rel => exact ⟨_, j + 1, rfl, by omega, by go_num, by rw [R2.out]; exact ho6, E6, C6⟩
          case measure => simp [intOf]; omega
        · have E : Hid (el.take j = el) := List.take_of_length_le (by rw [M.out]; omega)
          rw [E.out] at ho
          go_wp2_with fail
          go_roundw
          case rel => exact ⟨_, k + 1, rfl, by omega, by go_num, by rw [R.out]; exact ho, C3⟩
          case measure => simp [intOf]; omega
    · have E2 : Hid (vs.take k = vs) := List.take_of_length_le (by rw [N.out]; omega)
      rw [E2.out] at ho
      go_wp2_with fail
      go_ret
      exact ⟨_, rfl, ownS_base ho B1.out⟩
theorem tokensTok (v : Value) (fs : FL) (nm : List UInt8) (w : World) (hv : HoldsF w v fs) (hb : bulkF fs ≤ 1048576) (hn : nm.length ≤ 1048576) :
    Calls Tryd.prog 23 #[v, .string ⟨nm.toArray⟩] w fun e w' => ∃ u, e = .returned u ∧ OwnS w u (toksOf (valsOf fs nm)) w' :=
  tokensTokB v fs nm w hv (Nat.le_trans hb (by decide)) (Nat.le_trans hn (by decide))
set_option maxHeartbeats 4000000 in
theorem tokensRef (v : Value) (fs : FL) (nm : List UInt8) (w : World) (hv : HoldsF w v fs) (hb : bulkF fs ≤ 1048576) (hn : nm.length ≤ 1048576) :
    Calls Tryd.prog 27 #[v, .string ⟨nm.toArray⟩] w fun e w' => ∃ u, e = .returned u ∧ OwnS w u (toksOf (valsOf fs nm)) w' := by
  have hfl := bulkF_len fs
  have cV := hide' (fun W (hb : Below w.heap.size w W) => valuesRef v fs nm W (holdsF_mono hv hb) (fun f hf => by have := bulkF_mem fs f hf; omega) (by omega) (by omega))
  have hbv := bulk_vals fs nm
  clear hv
  generalize valsOf fs nm = vs at cV hbv ⊢
  have hlv := bulkT_len vs
  have MM : Hid _ := bulkT_mem vs
  have TL : Hid (∀ k, (toksOf (vs.take k)).length ≤ 1048576) := fun k => by
    have h1 := toks_len (vs.take k)
    have h2 := bulkT_take vs k
    omega
  go_enter Tryd.func27, Tryd.ntmps27
  go_wp2_with fail
  refine (cV.out _ (below_alloc' w (.cells #[] 9))).mono ?_
  rintro e w1 ⟨u, rfl, ho⟩
  have O1 := hide' (ownS_mono (ownS_empty w) ho.2)
  obtain ⟨ao, ca, b, o, hu, hao0, HE0⟩ := els_start (ownS_empty w) ho
  have hc := hao0
  have B1 := hide' (bt' (below_alloc' w (.cells #[] 9)) ho.2)
  have C := hide' hc
  have HE1 := hide' HE0
  clear HE0 hao0
  rw [hu]
  clear ho cV hu hc
  obtain ⟨n, en⟩ : ∃ n, n = vs.length := ⟨_, rfl⟩
  have N : Hid (vs.length = n) := en.symm
  rw [N.out] at hlv ⊢
  clear en
  go_wp2_with fail
  go_loopw [5, 7] (fun v i wr => ∃ (vo : Value) (k : Nat), vo = v ∧ k ≤ n ∧ i = .int .i64 k ∧ OwnS w vo (toksOf (vs.take k)) wr ∧ Hid (Cells w1 vs b o vo wr)) (fun _ i _ => n - (intOf i).toNat)
  case atStart => exact ⟨_, 0, rfl, Nat.zero_le _, rfl, O1.out, HE1⟩
  case round =>
    obtain ⟨vo, k, rfl, hk, rfl, ho, HC⟩ := hrel
    obtain ⟨w2, ew⟩ : ∃ w2, w2 = wr := ⟨_, rfl⟩
    subst ew
    have tl := TL.out k
    by_cases hlt : k < n
    · have G : Hid (k < vs.length) := by unfold Hid; rw [N.out]; exact hlt
      have hao := C.out (by have := G.out; omega)
      subst hao
      have ck := (HC.out (by have := G.out; omega)).2.2 k G.out
      unfold S at ck
      have hx := MM.out _ (List.getElem_mem G.out)
      have cL := hide' (fun W => listRef ⟨(vs[k]'G.out).toArray⟩ W (by rw [size_l]; omega))
      have tl2 := TL.out (k + 1)
      have R := hide' (toks_next vs k G.out)
      have LM := hide' (fun p hp => listOf_mem (vs[k]'G.out) p hp)
      simp only at cL
      rw [R.out, List.length_append, List.length_map] at tl2
      generalize vs[k]'G.out = q at ck hx cL tl2 R LM
      generalize toksOf (vs.take k) = acc at ho tl tl2 R
      generalize listOf q = el at cL tl2 R LM
      go_wp2_with fail
      refine (cL.out _).mono ?_
      rintro e w3 ⟨u3, rfl, ho3⟩
      obtain ⟨a3, c3, b3, o3, hu3, ha3, HE⟩ := els_start ho ho3
      have E3 := hide' HE
      have A3 := hide' ha3
      have O3 := hide' (ownS_mono ho ho3.2)
      have C3 := hide' (els_below HC.out ho3.2)
      rw [hu3]
      clear ho3 ho hu3 ha3 HE cL ck HC
      obtain ⟨m, em⟩ : ∃ m, m = el.length := ⟨_, rfl⟩
      have M : Hid (el.length = m) := em.symm
      rw [M.out] at tl2 ⊢
      clear em
      go_wp2_with fail
      go_loopw [5, 9] (fun v i wr => ∃ (vi : Value) (j : Nat), vi = v ∧ j ≤ m ∧ i = .int .i64 j ∧ OwnS w vi (acc ++ (el.take j).map lows) wr ∧ Hid (Els el b3 o3 vi wr) ∧ Hid (Cells w1 vs b o vi wr)) (fun _ i _ => m - (intOf i).toNat)
      case atStart => exact ⟨_, 0, rfl, Nat.zero_le _, rfl, by simpa using O3.out, E3, C3⟩
      case round =>
        clear E3 O3 C3
        obtain ⟨vi, j, rfl, hj, rfl, ho, E3, C3⟩ := hrel
        by_cases hjt : j < m
        · have G2 : Hid (j < el.length) := by unfold Hid; rw [M.out]; exact hjt
          have ha := A3.out (by have := G2.out; omega)
          subst ha
          have cj := (E3.out (by have := G2.out; omega)).2.2 j G2.out
          unfold S at cj
          have hy := LM.out _ (List.getElem_mem G2.out)
          have cF := fun W => lowerRef ⟨(el[j]'G2.out).toArray⟩ W (by rw [size_l]; omega)
          simp only at cF
          have CF := hide' cF
          have R2 : Hid (acc ++ (el.take (j + 1)).map lows = (acc ++ (el.take j).map lows) ++ [lows (el[j]'G2.out)]) := by
            unfold Hid; rw [List.take_succ_eq_append_getElem G2.out, List.map_append, List.append_assoc]; rfl
          have al : (acc ++ (el.take j).map lows).length ≤ 1048576 := by
            rw [List.length_append, List.length_map, List.length_take]; have := M.out; omega
          clear cF
          generalize el[j]'G2.out = p at cj CF hy R2
          generalize acc ++ (el.take j).map lows = acc2 at ho al R2
          go_wp2_with (first
            | (go_at_call 22; refine (CF.out _).mono ?_; rintro e w5 ⟨rfl, hb5⟩; have ho5 := ownS_mono ho hb5; have E5 := hide' (els_below E3.out hb5); have C5 := hide' (els_below C3.out hb5); clear ho hb5 cj)
            | (at_builtin; refine appSx rfl (.tmp 31) (.tmp 37) rfl w _ _ rfl ho5 (lows p) rfl rfl (by omega) ?_; intro v6 w6 ho6 hx6))
          have E6 := hide' (els_app E5.out hx6)
          have C6 := hide' (els_app C5.out hx6)
          clear hx6 E5 C5
          go_roundw
          case rel => exact ⟨_, j + 1, rfl, by omega, by go_num, by rw [R2.out]; exact ho6, E6, C6⟩
          case measure => simp [intOf]; omega
        · have E : Hid (el.take j = el) := List.take_of_length_le (by rw [M.out]; omega)
          rw [E.out] at ho
          go_wp2_with fail
          go_roundw
          case rel => exact ⟨_, k + 1, rfl, by omega, by go_num, by rw [R.out]; exact ho, C3⟩
          case measure => simp [intOf]; omega
    · have E2 : Hid (vs.take k = vs) := List.take_of_length_le (by rw [N.out]; omega)
      rw [E2.out] at ho
      go_wp2_with fail
      go_ret
      exact ⟨_, rfl, ho⟩
end Go.Proofs.YtmibgcbolnpffaaDoor
