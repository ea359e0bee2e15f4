/- The contract of directives. -/
import Derived.Test.YtemmghmacbofaaaDoorKnE
namespace Go.Proofs.YtemmghmacbofaaaDoor
open Go.RowKit
theorem dirs_len (vs : List (List UInt8)) : (dirsOf vs).length ≤ bulkT vs := by
  have h := toks_len vs
  unfold toksOf at h
  rw [List.length_map] at h
  unfold dirsOf
  rw [List.length_map]
  exact h
theorem dirs_take (vs : List (List UInt8)) (k : Nat) : (dirsOf (vs.take k)).length ≤ bulkT vs := Nat.le_trans (dirs_len _) (bulkT_take vs k)
set_option maxHeartbeats 4000000 in
theorem directivesC (v : Value) (vs : List (List UInt8)) (w : World) (hv : Holds w v vs) (hb : bulkT vs ≤ 4194000) :
    Calls Tryd.prog 16 #[v] w fun e w' => ∃ u, e = .returned u ∧ OwnDC w u (dirsOf vs) w' := by
  obtain ⟨ao, ca, b, o, rfl, hc⟩ := holds_parts hv
  have C := hide' hc
  have hlv := bulkT_len vs
  have MM : Hid _ := bulkT_mem vs
  have TL : Hid (∀ k, (dirsOf (vs.take k)).length ≤ 4194000) := fun k => Nat.le_trans (dirs_take vs k) hb
  clear hv hc
  obtain ⟨n, en⟩ : ∃ n, n = vs.length := ⟨_, rfl⟩
  have N : Hid (vs.length = n) := en.symm
  rw [N.out] at hlv ⊢
  clear en
  go_enter Tryd.func16, Tryd.ntmps16
  go_wp2_with fail
  go_loopw [3, 10] (fun v i wr => ∃ (vo : Value) (k : Nat), vo = v ∧ k ≤ n ∧ i = .int .i64 k ∧ OwnDC w vo (dirsOf (vs.take k)) wr) (fun _ i _ => n - (intOf i).toNat)
  case atStart => exact ⟨_, 0, rfl, Nat.zero_le _, rfl, ownDC_nil w w (Below.refl _ _)⟩
  case round =>
    obtain ⟨vo, k, rfl, hk, rfl, ho⟩ := hrel
    obtain ⟨w2, ew⟩ : ∃ w2, w2 = wr := ⟨_, rfl⟩
    subst ew
    have tl := TL.out k
    by_cases hlt : k < n
    · have G : Hid (k < vs.length) := by unfold Hid; rw [N.out]; exact hlt
      obtain ⟨hao, hblt, hcell⟩ := C.out (by have := G.out; omega)
      subst hao
      have ck : w2.cell? ⟨b, o + k, none⟩ = some (.string ⟨(vs[k]'G.out).toArray⟩) := by rw [ho.2.cell (p := ⟨b, o + k, none⟩) hblt]; exact hcell k G.out
      have hx := MM.out _ (List.getElem_mem G.out)
      have cL := hide' (fun W => listTok ⟨(vs[k]'G.out).toArray⟩ W (by rw [size_l]; omega))
      have tl2 := TL.out (k + 1)
      have R := hide' (dirs_next vs k G.out)
      have LM := hide' (fun p hp => listOf_mem (vs[k]'G.out) p hp)
      simp only at cL
      rw [R.out, List.length_append, List.length_map] at tl2
      generalize vs[k]'G.out = q at ck hx cL tl2 R LM
      generalize dirsOf (vs.take k) = acc at ho tl tl2 R
      generalize listOf q = el at cL tl2 R LM
      go_wp2_with fail
      refine (cL.out _).mono ?_
      rintro e w3 ⟨u3, rfl, ho3⟩
      obtain ⟨a3, c3, b3, o3, hu3, ha3, HE⟩ := els_startC ho ho3
      have E3 := hide' HE
      have A3 := hide' ha3
      have O3 := hide' (ownDC_mono ho ho3.2)
      rw [hu3]
      clear ho3 ho hu3 ha3 HE cL ck hcell
      obtain ⟨m, em⟩ : ∃ m, m = el.length := ⟨_, rfl⟩
      have M : Hid (el.length = m) := em.symm
      rw [M.out] at tl2 ⊢
      clear em
      go_wp2_with fail
      go_loopw [3, 17] (fun v i wr => ∃ (vi : Value) (j : Nat), vi = v ∧ j ≤ m ∧ i = .int .i64 j ∧ OwnDC w vi (acc ++ (el.take j).map dirOf) wr ∧ Hid (Els el b3 o3 vi wr)) (fun _ i _ => m - (intOf i).toNat)
      case atStart => exact ⟨_, 0, rfl, Nat.zero_le _, rfl, by simpa using O3.out, E3⟩
      case round =>
        clear E3 O3
        obtain ⟨vi, j, rfl, hj, rfl, ho, E3⟩ := hrel
        by_cases hjt : j < m
        · have G2 : Hid (j < el.length) := by unfold Hid; rw [M.out]; exact hjt
          have ha := A3.out (by have := G2.out; omega)
          subst ha
          have cj := (E3.out (by have := G2.out; omega)).2.2 j G2.out
          unfold S at cj
          have hy := LM.out _ (List.getElem_mem G2.out)
          have CF := hide' (fun W => readKC (el[j]'G2.out) W (by omega))
          have R2 : Hid (acc ++ (el.take (j + 1)).map dirOf = (acc ++ (el.take j).map dirOf) ++ [dirOf (el[j]'G2.out)]) := by
            unfold Hid; rw [List.take_succ_eq_append_getElem G2.out, List.map_append, List.append_assoc]; rfl
          have al : (acc ++ (el.take j).map dirOf).length ≤ 4194000 := by
            rw [List.length_append, List.length_map, List.length_take]; have := M.out; omega
          generalize dirOf (el[j]'G2.out) = d at CF R2
          generalize el[j]'G2.out = p at cj CF hy
          generalize acc ++ (el.take j).map dirOf = acc2 at ho al R2
          unfold dirV at CF
          go_wp2_with (first
            | (go_at_call 30; refine (CF.out _).mono ?_; rintro e w5 ⟨rfl, hb5⟩; have ho5 := ownDC_mono ho hb5; have E5 := hide' (els_below E3.out hb5); clear ho hb5 cj)
            | (at_builtin; refine appDC rfl (.tmp 21) (.tmp 24) rfl w _ _ rfl ho5 d rfl rfl rfl rfl (by omega) ?_; intro v6 w6 ho6 hx6))
          have E6 := hide' (els_app E5.out hx6)
          clear hx6 E5
          go_roundw
          case rel => exact ⟨_, j + 1, rfl, by omega, by go_num, by rw [R2.out]; exact ho6, E6⟩
          case measure => simp [intOf]; omega
        · have E : Hid (el.take j = el) := List.take_of_length_le (by rw [M.out]; omega)
          rw [E.out] at ho
          go_wp2_with fail
          go_roundw
          case rel => exact ⟨_, k + 1, rfl, by omega, by go_num, by rw [R.out]; exact ho⟩
          case measure => simp [intOf]; omega
    · have E2 : Hid (vs.take k = vs) := List.take_of_length_le (by rw [N.out]; omega)
      rw [E2.out] at ho
      go_wp2_with fail
      go_ret
      exact ⟨_, rfl, ho⟩
end Go.Proofs.YtemmghmacbofaaaDoor
