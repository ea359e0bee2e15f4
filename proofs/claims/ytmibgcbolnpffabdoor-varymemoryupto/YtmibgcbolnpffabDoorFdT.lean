/- The contracts of Tokens and of the document's Tokens. -/
import Derived.Test.YtmibgcbolnpffabDoorFdV
import Derived.Test.YtmibgcbolnpffabDoorOpnF
import Derived.Test.YtmibgcbolnpffabDoorTks
import Derived.Test.YtmibgcbolnpffabDoorList
import Derived.Maps.AppendAt
namespace Go.Proofs.YtmibgcbolnpffabDoor
open Go.RowKit
/-- one text more, and what lies in other blocks stays -/
theorem appSx {ops : Array Oper} {rest : List Oper} {o : Oper} {a : Act} {Q : Exit → Act → World → Prop} {wr : World} {t : ByteArray} (hgd : o.guard = none) (s x : Operand)
    (ho : o.op = .call { callee := .builtin .append, args := #[s, x], argTypes := #[24, 24] }) (w0 : World) (v : Value) (ss : List (List UInt8)) (hs : a.eval s = v) (hown : OwnS w0 v ss wr)
    (l : List UInt8) (ht : t = ⟨l.toArray⟩) (hx : a.eval x = .slice (some ⟨wr.heap.size, 0, none⟩) 1 1) (hlen : (ss.length + 1) * 16 ≤ 140737488355328)
    (h : ∀ v' w', OwnS w0 v' (ss ++ [l]) w' → (∀ g, g < wr.heap.size → v.ownBlock ≠ some g → v'.ownBlock ≠ some g ∧ g < w'.heap.size ∧ ∀ o, w'.cell? ⟨g, o, none⟩ = wr.cell? ⟨g, o, none⟩) → wpList Tryd.prog ops Q rest (a.put o.dst v') w') : wpList Tryd.prog ops Q (o :: rest) a (wr.alloc (.cells #[.string t] 9)) := by
  subst ht
  obtain ⟨i0, hi, hz0, hz1, hz2⟩ := info_parts Tryd.info9
  have hsz := hown.2.size
  refine wpList_append_own_at _ hgd s x 24 ho w0.heap.size 9 i0 (.string ⟨#[]⟩) 1 16 Tryd.underlying24 hi hz0 hz1 hz2 rfl (by decide) v ss.length (ss.map S) hs (hown.1.alloc _) ⟨wr.heap.size, 0, none⟩ 1 1 [S l] hx rfl ?_ ?_ ?_ ?_ ?_ ?_
  · intro j u hj
    match j, hj with
    | 0, hj => simp at hj; subst hj; simp [Addr.add, S]
  · intro u hu; simp at hu; subst hu; rfl
  · unfold maxLen; omega
  · omega
  · simp; omega
  · intro v' w' h1 h2 _ h4
    refine h v' w' ⟨by simpa using h1, ?_⟩ ?_
    · refine Below.grown (hown.2.alloc (by omega) _) h2 (by simp; omega) ?_
      intro k hk
      exact (hown.1.lt k hk).1
    · intro g hg hne
      have hs2 := h2.size
      refine ⟨?_, ?_, fun o => ?_⟩
      · rcases h4 with h4 | h4
        · rw [h4]; exact hne
        · rw [h4]; intro e; simp at e; omega
      · simp at hs2; omega
      · have hb : w'.heap[g]? = (wr.alloc (.cells #[.string ⟨l.toArray⟩] 9)).heap[g]? := h2.block g (by simp; omega) (fun e => hne e.symm)
        have : w'.cell? ⟨g, o, none⟩ = (wr.alloc (.cells #[.string ⟨l.toArray⟩] 9)).cell? ⟨g, o, none⟩ := by unfold World.cell?; rw [hb]
        rw [this, (below_alloc' wr _).cell (p := ⟨g, o, none⟩) hg]
/-- what the inner loop keeps of the elements' list -/
def Els (el : List (List UInt8)) (b o : Nat) (v : Value) (w : World) : Prop := 0 < el.length → v.ownBlock ≠ some b ∧ b < w.heap.size ∧ ∀ j (h : j < el.length), w.cell? ⟨b, o + j, none⟩ = some (S el[j])
theorem els_below {el : List (List UInt8)} {b o : Nat} {v : Value} {w w' : World} (h : Els el b o v w) (hb : Below w.heap.size w w') : Els el b o v w' := by
  intro hp
  obtain ⟨h1, h2, h3⟩ := h hp
  have := hb.size
  exact ⟨h1, by omega, fun j hj => by rw [hb.cell (p := ⟨b, o + j, none⟩) h2]; exact h3 j hj⟩
theorem els_app {el : List (List UInt8)} {b o : Nat} {v v' : Value} {w w' : World} (h : Els el b o v w) (hx : ∀ g, g < w.heap.size → v.ownBlock ≠ some g → v'.ownBlock ≠ some g ∧ g < w'.heap.size ∧ ∀ o, w'.cell? ⟨g, o, none⟩ = w.cell? ⟨g, o, none⟩) : Els el b o v' w' := by
  intro hp
  obtain ⟨h1, h2, h3⟩ := h hp
  obtain ⟨k1, k2, k3⟩ := hx b h2 h1
  exact ⟨k1, k2, fun j hj => by rw [k3]; exact h3 j hj⟩
theorem els_start {w0 w w' : World} {vo u : Value} {acc el : List (List UInt8)} (hacc : OwnS w0 vo acc w) (hel : OwnS w u el w') : ∃ ao ca b o, u = .slice ao el.length ca ∧ (0 < el.length → ao = some ⟨b, o, none⟩) ∧ Els el b o vo w' := by
  obtain ⟨hl, h1 | ⟨g, cap, cur, rfl, hg, hh, hr⟩⟩ := hel.1
  · obtain ⟨rfl, hn⟩ := h1
    exact ⟨none, 0, 0, 0, by rw [hn], fun h => absurd h (by omega), fun h => absurd h (by omega)⟩
  · refine ⟨_, cap, g, 0, rfl, fun _ => rfl, fun hp => ⟨?_, (hel.1.lt g rfl).2, fun j hj => ?_⟩⟩
    · intro e
      have := (hacc.1.lt g e).2
      omega
    · rw [Nat.zero_add, hel.1.cellAt j (by omega)]
      simp [hj]
/-- the values' list stays while texts are appended -/
abbrev Cells (_w1 : World) (vs : List (List UInt8)) (b o : Nat) (v : Value) (w : World) : Prop := Els vs b o v w
set_option maxHeartbeats 4000000 in
theorem tokensTok (v : Value) (fs : FL) (nm : List UInt8) (w : World) (hv : HoldsF w v fs) (hb : bulkF fs ≤ 1048576) (hn : nm.length ≤ 1048576) :
    Calls Tryd.prog 9 #[v, .string ⟨nm.toArray⟩] w fun e w' => ∃ u, e = .returned u ∧ OwnS w u (toksOf (valsOf fs nm)) w' := by
  have hfl := bulkF_len fs
  have cV := hide' (fun W (hb : Below w.heap.size w W) => valuesTok v fs nm W (holdsF_mono hv hb) (fun f hf => by have := bulkF_mem fs f hf; omega) (by omega) (by omega))
  have hbv := bulk_vals fs nm
  clear hv
  generalize valsOf fs nm = vs at cV hbv ⊢
  have hlv := bulkT_len vs
  have MM : Hid _ := bulkT_mem vs
  have TL : Hid (∀ k, (toksOf (vs.take k)).length ≤ 1048576) := fun k => by
    have h1 := toks_len (vs.take k)
    have h2 := bulkT_take vs k
    omega
  go_enter Tryd.func9, Tryd.ntmps9
  go_wp2_with fail
  refine (cV.out _ (Below.refl _ _)).mono ?_
  rintro e w1 ⟨u, rfl, ho⟩
  have O1 := hide' (ownS_nil w1 w1 (Below.refl _ _))
  obtain ⟨ao, ca, b, o, hu, hc⟩ := holds_parts (holds_own ho)
  have B1 := hide' (bt' (Below.refl _ _) ho.2)
  have C := hide' hc
  rw [hu]
  clear ho cV hu hc
  obtain ⟨n, en⟩ : ∃ n, n = vs.length := ⟨_, rfl⟩
  have N : Hid (vs.length = n) := en.symm
  rw [N.out] at hlv ⊢
  clear en
  go_wp2_with fail
  go_loopw [5, 14] (fun v i wr => ∃ (vo : Value) (k : Nat), vo = v ∧ k ≤ n ∧ i = .int .i64 k ∧ OwnS w1 vo (toksOf (vs.take k)) wr ∧ Hid (Cells w1 vs b o vo wr)) (fun _ i _ => n - (intOf i).toNat)
  case atStart => exact ⟨_, 0, rfl, Nat.zero_le _, rfl, O1.out, fun hp => ⟨by simp [Value.ownBlock], (C.out hp).2⟩⟩
  case round =>
    obtain ⟨vo, k, rfl, hk, rfl, ho, HC⟩ := hrel
    obtain ⟨w2, ew⟩ : ∃ w2, w2 = wr := ⟨_, rfl⟩
    subst ew
    have tl := TL.out k
    by_cases hlt : k < n
    · have G : Hid (k < vs.length) := by unfold Hid; rw [N.out]; exact hlt
      have hao := (C.out (by have := G.out; omega)).1
      subst hao
      have ck := (HC.out (by have := G.out; omega)).2.2 k G.out
      unfold S at ck
      have hx := MM.out _ (List.getElem_mem G.out)
      have cL := hide' (fun W => listTok ⟨(vs[k]'G.out).toArray⟩ W (by rw [size_l]; omega))
      have tl2 := TL.out (k + 1)
      have R := hide' (toks_next vs k G.out)
      have LM := hide' (fun p hp => listOf_mem (vs[k]'G.out) p hp)
      simp only at cL
      rw [R.out, List.length_append, List.length_map] at tl2
      generalize vs[k]'G.out = q at ck hx cL tl2 R LM
      generalize toksOf (vs.take k) = acc at ho tl tl2 R
      generalize listOf q = el at cL tl2 R LM
      go_wp2_with fail
      refine (cL.out _).mono ?_
      rintro e w3 ⟨u3, rfl, ho3⟩
      obtain ⟨a3, c3, b3, o3, hu3, ha3, HE⟩ := els_start ho ho3
      have E3 := hide' HE
      have A3 := hide' ha3
      have O3 := hide' (ownS_mono ho ho3.2)
      have C3 := hide' (els_below HC.out ho3.2)
      rw [hu3]
      clear ho3 ho hu3 ha3 HE cL ck HC
      obtain ⟨m, em⟩ : ∃ m, m = el.length := ⟨_, rfl⟩
      have M : Hid (el.length = m) := em.symm
      rw [M.out] at tl2 ⊢
      clear em
      go_wp2_with fail
      go_loopw [5, 21] (fun v i wr => ∃ (vi : Value) (j : Nat), vi = v ∧ j ≤ m ∧ i = .int .i64 j ∧ OwnS w1 vi (acc ++ (el.take j).map lows) wr ∧ Hid (Els el b3 o3 vi wr) ∧ Hid (Cells w1 vs b o vi wr)) (fun _ i _ => m - (intOf i).toNat)
      case atStart => exact ⟨_, 0, rfl, Nat.zero_le _, rfl, by simpa using O3.out, E3, C3⟩
      case round =>
        clear E3 O3 C3
        obtain ⟨vi, j, rfl, hj, rfl, ho, E3, C3⟩ := hrel
        by_cases hjt : j < m
        · have G2 : Hid (j < el.length) := by unfold Hid; rw [M.out]; exact hjt
          have ha := A3.out (by have := G2.out; omega)
          subst ha
          have cj := (E3.out (by have := G2.out; omega)).2.2 j G2.out
          unfold S at cj
          have hy := LM.out _ (List.getElem_mem G2.out)
          have cF := fun W => foldTok ⟨(el[j]'G2.out).toArray⟩ W (by rw [size_l]; omega)
          simp only at cF
          have CF := hide' cF
          have R2 : Hid (acc ++ (el.take (j + 1)).map lows = (acc ++ (el.take j).map lows) ++ [lows (el[j]'G2.out)]) := by
            unfold Hid; rw [List.take_succ_eq_append_getElem G2.out, List.map_append, List.append_assoc]; rfl
          have al : (acc ++ (el.take j).map lows).length ≤ 1048576 := by
            rw [List.length_append, List.length_map, List.length_take]; have := M.out; omega
          clear cF
          generalize el[j]'G2.out = p at cj CF hy R2
          generalize acc ++ (el.take j).map lows = acc2 at ho al R2
          go_wp2_with (first
            | (go_at_call 15; refine (CF.out _).mono ?_; rintro e w5 ⟨rfl, hb5⟩; have ho5 := ownS_mono ho hb5; have E5 := hide' (els_below E3.out hb5); have C5 := hide' (els_below C3.out hb5); clear ho hb5 cj)
            | (at_builtin; refine appSx rfl (.tmp 25) (.tmp 28) rfl w1 _ _ rfl ho5 (lows p) rfl rfl (by omega) ?_; intro v6 w6 ho6 hx6))
          have E6 := hide' (els_app E5.out hx6)
          have C6 := hide' (els_app C5.out hx6)
          clear hx6 E5 C5
          go_roundw
          case rel => exact ⟨_, j + 1, rfl, by omega, by go_num, by rw [R2.out]; exact ho6, E6, C6⟩
          case measure => simp [intOf]; omega
        · have E : Hid (el.take j = el) := List.take_of_length_le (by rw [M.out]; omega)
          rw [E.out] at ho
          go_wp2_with fail
          go_roundw
          case rel => exact ⟨_, k + 1, rfl, by omega, by go_num, by rw [R.out]; exact ho, C3⟩
          case measure => simp [intOf]; omega
    · have E2 : Hid (vs.take k = vs) := List.take_of_length_le (by rw [N.out]; omega)
      rw [E2.out] at ho
      go_wp2_with fail
      go_ret
      exact ⟨_, rfl, ownS_base ho B1.out⟩
set_option maxHeartbeats 4000000 in
theorem tokensRef (v : Value) (fs : FL) (nm : List UInt8) (w : World) (hv : HoldsF w v fs) (hb : bulkF fs ≤ 1048576) (hn : nm.length ≤ 1048576) :
    Calls Tryd.prog 13 #[v, .string ⟨nm.toArray⟩] w fun e w' => ∃ u, e = .returned u ∧ OwnS w u (toksOf (valsOf fs nm)) w' := by
  have hfl := bulkF_len fs
  have cV := hide' (fun W (hb : Below w.heap.size w W) => valuesRef v fs nm W (holdsF_mono hv hb) (fun f hf => by have := bulkF_mem fs f hf; omega) (by omega) (by omega))
  have hbv := bulk_vals fs nm
  clear hv
  generalize valsOf fs nm = vs at cV hbv ⊢
  have hlv := bulkT_len vs
  have MM : Hid _ := bulkT_mem vs
  have TL : Hid (∀ k, (toksOf (vs.take k)).length ≤ 1048576) := fun k => by
    have h1 := toks_len (vs.take k)
    have h2 := bulkT_take vs k
    omega
  go_enter Tryd.func13, Tryd.ntmps13
  go_wp2_with fail
  refine (cV.out _ (below_alloc' w (.cells #[] 9))).mono ?_
  rintro e w1 ⟨u, rfl, ho⟩
  have O1 := hide' (ownS_mono (ownS_empty w) ho.2)
  obtain ⟨ao, ca, b, o, hu, hao0, HE0⟩ := els_start (ownS_empty w) ho
  have hc := hao0
  have B1 := hide' (bt' (below_alloc' w (.cells #[] 9)) ho.2)
  have C := hide' hc
  have HE1 := hide' HE0
  clear HE0 hao0
  rw [hu]
  clear ho cV hu hc
  obtain ⟨n, en⟩ : ∃ n, n = vs.length := ⟨_, rfl⟩
  have N : Hid (vs.length = n) := en.symm
  rw [N.out] at hlv ⊢
  clear en
  go_wp2_with fail
  go_loopw [5, 7] (fun v i wr => ∃ (vo : Value) (k : Nat), vo = v ∧ k ≤ n ∧ i = .int .i64 k ∧ OwnS w vo (toksOf (vs.take k)) wr ∧ Hid (Cells w1 vs b o vo wr)) (fun _ i _ => n - (intOf i).toNat)
  case atStart => exact ⟨_, 0, rfl, Nat.zero_le _, rfl, O1.out, HE1⟩
  case round =>
    obtain ⟨vo, k, rfl, hk, rfl, ho, HC⟩ := hrel
    obtain ⟨w2, ew⟩ : ∃ w2, w2 = wr := ⟨_, rfl⟩
    subst ew
    have tl := TL.out k
    by_cases hlt : k < n
    · have G : Hid (k < vs.length) := by unfold Hid; rw [N.out]; exact hlt
      have hao := C.out (by have := G.out; omega)
      subst hao
      have ck := (HC.out (by have := G.out; omega)).2.2 k G.out
      unfold S at ck
      have hx := MM.out _ (List.getElem_mem G.out)
      have cL := hide' (fun W => listRef ⟨(vs[k]'G.out).toArray⟩ W (by rw [size_l]; omega))
      have tl2 := TL.out (k + 1)
      have R := hide' (toks_next vs k G.out)
      have LM := hide' (fun p hp => listOf_mem (vs[k]'G.out) p hp)
      simp only at cL
      rw [R.out, List.length_append, List.length_map] at tl2
      generalize vs[k]'G.out = q at ck hx cL tl2 R LM
      generalize toksOf (vs.take k) = acc at ho tl tl2 R
      generalize listOf q = el at cL tl2 R LM
      go_wp2_with fail
      refine (cL.out _).mono ?_
      rintro e w3 ⟨u3, rfl, ho3⟩
      obtain ⟨a3, c3, b3, o3, hu3, ha3, HE⟩ := els_start ho ho3
      have E3 := hide' HE
      have A3 := hide' ha3
      have O3 := hide' (ownS_mono ho ho3.2)
      have C3 := hide' (els_below HC.out ho3.2)
      rw [hu3]
      clear ho3 ho hu3 ha3 HE cL ck HC
      obtain ⟨m, em⟩ : ∃ m, m = el.length := ⟨_, rfl⟩
      have M : Hid (el.length = m) := em.symm
      rw [M.out] at tl2 ⊢
      clear em
      go_wp2_with fail
      go_loopw [5, 9] (fun v i wr => ∃ (vi : Value) (j : Nat), vi = v ∧ j ≤ m ∧ i = .int .i64 j ∧ OwnS w vi (acc ++ (el.take j).map lows) wr ∧ Hid (Els el b3 o3 vi wr) ∧ Hid (Cells w1 vs b o vi wr)) (fun _ i _ => m - (intOf i).toNat)
      case atStart => exact ⟨_, 0, rfl, Nat.zero_le _, rfl, by simpa using O3.out, E3, C3⟩
      case round =>
        clear E3 O3 C3
        obtain ⟨vi, j, rfl, hj, rfl, ho, E3, C3⟩ := hrel
        by_cases hjt : j < m
        · have G2 : Hid (j < el.length) := by unfold Hid; rw [M.out]; exact hjt
          have ha := A3.out (by have := G2.out; omega)
          subst ha
          have cj := (E3.out (by have := G2.out; omega)).2.2 j G2.out
          unfold S at cj
          have hy := LM.out _ (List.getElem_mem G2.out)
          have cF := fun W => lowerRef ⟨(el[j]'G2.out).toArray⟩ W (by rw [size_l]; omega)
          simp only at cF
          have CF := hide' cF
          have R2 : Hid (acc ++ (el.take (j + 1)).map lows = (acc ++ (el.take j).map lows) ++ [lows (el[j]'G2.out)]) := by
            unfold Hid; rw [List.take_succ_eq_append_getElem G2.out, List.map_append, List.append_assoc]; rfl
          have al : (acc ++ (el.take j).map lows).length ≤ 1048576 := by
            rw [List.length_append, List.length_map, List.length_take]; have := M.out; omega
          clear cF
          generalize el[j]'G2.out = p at cj CF hy R2
          generalize acc ++ (el.take j).map lows = acc2 at ho al R2
          go_wp2_with (first
            | (go_at_call 27; refine (CF.out _).mono ?_; rintro e w5 ⟨rfl, hb5⟩; have ho5 := ownS_mono ho hb5; have E5 := hide' (els_below E3.out hb5); have C5 := hide' (els_below C3.out hb5); clear ho hb5 cj)
            | (at_builtin; refine appSx rfl (.tmp 31) (.tmp 37) rfl w _ _ rfl ho5 (lows p) rfl rfl (by omega) ?_; intro v6 w6 ho6 hx6))
          have E6 := hide' (els_app E5.out hx6)
          have C6 := hide' (els_app C5.out hx6)
          clear hx6 E5 C5
          go_roundw
          case rel => exact ⟨_, j + 1, rfl, by omega, by go_num, by rw [R2.out]; exact ho6, E6, C6⟩
          case measure => simp [intOf]; omega
        · have E : Hid (el.take j = el) := List.take_of_length_le (by rw [M.out]; omega)
          rw [E.out] at ho
          go_wp2_with fail
          go_roundw
          case rel => exact ⟨_, k + 1, rfl, by omega, by go_num, by rw [R.out]; exact ho, C3⟩
          case measure => simp [intOf]; omega
    · have E2 : Hid (vs.take k = vs) := List.take_of_length_le (by rw [N.out]; omega)
      rw [E2.out] at ho
      go_wp2_with fail
      go_ret
      exact ⟨_, rfl, ho⟩
end Go.Proofs.YtmibgcbolnpffabDoor
