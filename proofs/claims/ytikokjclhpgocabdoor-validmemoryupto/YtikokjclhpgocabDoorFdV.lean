/- The contracts of Values and of the document's Values. -/
import Derived.Test.YtikokjclhpgocabDoorBm
namespace Go.Proofs.YtikokjclhpgocabDoor
open Go.RowKit
theorem ba_eql' (a b : List UInt8) (h : ¬ a = b) : ((⟨a.toArray⟩ : ByteArray).toList == (⟨b.toArray⟩ : ByteArray).toList) = false := by
  rw [Lib.toList_data, Lib.toList_data]; simpa using h
set_option maxHeartbeats 2000000 in
theorem valuesTok (v : Value) (fs : FL) (nm : List UInt8) (w : World) (hv : HoldsF w v fs) (hfit : Fit fs) (hn : nm.length ≤ 140737488351232) (hl : fs.length * 16 ≤ 140737488355328) :
    Calls Tryd.prog 27 #[v, .string ⟨nm.toArray⟩] w fun e w' => ∃ u, e = .returned u ∧ OwnS w u (valsOf fs nm) w' := by
  obtain ⟨ao, ca, b1, o1, rfl, hca⟩ := holdsF_parts hv
  have CA : Hid _ := hca
  have FT : Hid _ := hfit
  have cN := hide' (foldTok ⟨nm.toArray⟩ w (by rw [size_l]; exact hn))
  clear hca hv hfit
  obtain ⟨n, en⟩ : ∃ n, n = fs.length := ⟨_, rfl⟩
  have N : Hid (fs.length = n) := en.symm
  rw [N.out] at hl ⊢
  clear en
  go_enter Tryd.func27, Tryd.ntmps27
  go_wp2_with fail
  refine cN.out.mono ?_
  rintro e w1 ⟨rfl, b1'⟩
  have B1 := hide' b1'
  clear b1' cN
  go_wp2_with fail
  go_loopw [6, 13] (fun v i wr => ∃ j : Nat, j ≤ n ∧ i = .int .i64 j ∧ OwnS w1 v (valsOf (fs.take j) nm) wr) (fun _ i _ => n - (intOf i).toNat)
  case atStart => exact ⟨0, Nat.zero_le _, rfl, ownS_nil _ _ (Below.refl _ _)⟩
  case round =>
    obtain ⟨j, hj, rfl, ho⟩ := hrel
    have hac : (valsOf (fs.take j) nm).length ≤ j := Nat.le_trans (vals_len _ _) (List.length_take_le _ _)
    by_cases hlt : j < n
    · have G : Hid (j < fs.length) := by unfold Hid; rw [N.out]; exact hlt
      obtain ⟨hao, hblt, hcell⟩ := CA.out (by have := G.out; omega)
      subst hao
      obtain ⟨h1, h2⟩ := hcell j G.out
      have hblt1 : b1 < w1.heap.size := Nat.lt_of_lt_of_le hblt B1.out.size
      have c1 : wr.cell? ⟨b1, o1 + j * 2, none⟩ = some (.string ⟨(fs[j]'G.out).1.toArray⟩) := by
        rw [ho.2.cell (p := ⟨b1, o1 + j * 2, none⟩) hblt1, B1.out.cell (p := ⟨b1, o1 + j * 2, none⟩) hblt]; exact h1
      have c2 : wr.cell? ⟨b1, o1 + j * 2 + 1, none⟩ = some (.string ⟨(fs[j]'G.out).2.toArray⟩) := by
        rw [ho.2.cell (p := ⟨b1, o1 + j * 2 + 1, none⟩) hblt1, B1.out.cell (p := ⟨b1, o1 + j * 2 + 1, none⟩) hblt]; exact h2
      obtain ⟨hs1, hs2⟩ := fit_at FT.out j G.out
      have cF := fun W => foldTok ⟨(fs[j]'G.out).1.toArray⟩ W (by rw [size_l]; exact hs1)
      have CC := hide' (fun W => clone ⟨(fs[j]'G.out).2.toArray⟩ W (by rw [size_l]; exact hs2))
      simp only at cF
      have CF := hide' cF
      clear cF hcell h1 h2
      by_cases he : lows (fs[j]'G.out).1 = lows nm
      · have R : Hid (valsOf (fs.take (j + 1)) nm = valsOf (fs.take j) nm ++ [(fs[j]'G.out).2]) := vals_hit fs nm j G.out he
        rw [he] at CF
        clear he
        generalize (fs[j]'G.out).1 = q1 at c1 CF hs1
        generalize (fs[j]'G.out).2 = q2 at c2 CC hs2 R
        go_wp2_with (first
          | (go_at_call 25; refine (CF.out _).mono ?_; rintro e w2 ⟨rfl, hb2⟩; have hz2 : wr.heap.size < w2.heap.size := (by have := hb2.size; simp at this; omega); have d1 : w2.cell? ⟨wr.heap.size, 0, none⟩ = some (.string ⟨q1.toArray⟩) := (by rw [hb2.cell (p := ⟨wr.heap.size, 0, none⟩) (by simp)]; simp); have d2 : w2.cell? ⟨wr.heap.size, 1, none⟩ = some (.string ⟨q2.toArray⟩) := (by rw [hb2.cell (p := ⟨wr.heap.size, 1, none⟩) (by simp)]; simp); have ho2 := ownS_mono (ownS_mono ho (below_alloc' wr (.cells #[.string ⟨q1.toArray⟩, .string ⟨q2.toArray⟩] 35))) hb2; clear ho hb2 c1 c2)
          | (go_at_call 24; refine (CC.out _).mono ?_; rintro e w4 ⟨rfl, hb4⟩; have ho4 := ownS_mono ho2 hb4; clear ho2 hb4 d1 d2)
          | (at_builtin; refine appS rfl (.tmp 22) (.tmp 26) rfl w1 _ _ rfl ho4 q2 rfl rfl (by omega) ?_; intro v5 w5 ho5))
        go_roundw
        case rel => exact ⟨j + 1, by omega, by go_num, by rw [R.out]; exact ho5⟩
        case measure => simp [intOf]; omega
      · have R : Hid (valsOf (fs.take (j + 1)) nm = valsOf (fs.take j) nm) := vals_miss fs nm j G.out he
        have hne := ba_eql' _ _ he
        have hne2 : (lows (fs[j]'G.out).1 == lows nm) = false := by simpa using he
        clear he
        generalize (fs[j]'G.out).2 = q2 at c2 CC hs2
        generalize (fs[j]'G.out).1 = q1 at c1 CF hs1 hne hne2
        generalize lows q1 = l1 at CF hne hne2
        go_wp2_with (go_at_call 25; refine (CF.out _).mono ?_; rintro e w2 ⟨rfl, hb2⟩; have ho2 := ownS_mono (ownS_mono ho (below_alloc' wr (.cells #[.string ⟨q1.toArray⟩, .string ⟨q2.toArray⟩] 35))) hb2; clear ho hb2 c1 c2)
        go_roundw
        case rel => exact ⟨j + 1, by omega, by go_num, by rw [R.out]; exact ho2⟩
        case measure => simp [intOf]; omega
    · have E : Hid (fs.take j = fs) := List.take_of_length_le (by rw [N.out]; omega)
      rw [E.out] at ho
      go_wp2_with fail
      go_ret
      exact ⟨_, rfl, ownS_base ho B1.out⟩
set_option maxHeartbeats 2000000 in
theorem valuesRef (v : Value) (fs : FL) (nm : List UInt8) (w : World) (hv : HoldsF w v fs) (hfit : Fit fs) (hn : nm.length ≤ 140737488351232) (hl : fs.length * 16 ≤ 140737488355328) :
    Calls Tryd.prog 35 #[v, .string ⟨nm.toArray⟩] w fun e w' => ∃ u, e = .returned u ∧ OwnS w u (valsOf fs nm) w' := by
  obtain ⟨ao, ca, b1, o1, rfl, hca⟩ := holdsF_parts hv
  have CA : Hid _ := hca
  have FT : Hid _ := hfit
  have cN := fun W => lowerRef ⟨nm.toArray⟩ W (by rw [size_l]; exact hn)
  simp only at cN
  have CN := hide' cN
  clear hca hv hfit cN
  obtain ⟨n, en⟩ : ∃ n, n = fs.length := ⟨_, rfl⟩
  have N : Hid (fs.length = n) := en.symm
  rw [N.out] at hl ⊢
  clear en
  go_enter Tryd.func35, Tryd.ntmps35
  go_wp2_with fail
  go_loopw [5, 6] (fun v i wr => ∃ j : Nat, j ≤ n ∧ i = .int .i64 j ∧ OwnS w v (valsOf (fs.take j) nm) wr) (fun _ i _ => n - (intOf i).toNat)
  case atStart => exact ⟨0, Nat.zero_le _, rfl, ownS_empty w⟩
  case round =>
    obtain ⟨j, hj, rfl, ho⟩ := hrel
    have hac : (valsOf (fs.take j) nm).length ≤ j := Nat.le_trans (vals_len _ _) (List.length_take_le _ _)
    by_cases hlt : j < n
    · have G : Hid (j < fs.length) := by unfold Hid; rw [N.out]; exact hlt
      obtain ⟨hao, hblt, hcell⟩ := CA.out (by have := G.out; omega)
      subst hao
      obtain ⟨h1, h2⟩ := hcell j G.out
      have c1 : wr.cell? ⟨b1, o1 + j * 2, none⟩ = some (.string ⟨(fs[j]'G.out).1.toArray⟩) := by
        rw [ho.2.cell (p := ⟨b1, o1 + j * 2, none⟩) hblt]; exact h1
      have h2' := hide' h2
      obtain ⟨hs1, hs2⟩ := fit_at FT.out j G.out
      have cF := fun W => lowerRef ⟨(fs[j]'G.out).1.toArray⟩ W (by rw [size_l]; exact hs1)
      simp only at cF
      have CF := hide' cF
      clear cF hcell h1 h2
      by_cases he : lows (fs[j]'G.out).1 = lows nm
      · have R : Hid (valsOf (fs.take (j + 1)) nm = valsOf (fs.take j) nm ++ [(fs[j]'G.out).2]) := vals_hit fs nm j G.out he
        rw [he] at CF
        clear he
        generalize (fs[j]'G.out).1 = q1 at c1 CF hs1
        generalize (fs[j]'G.out).2 = q2 at h2' hs2 R
        go_wp2_with fail
        refine (CF.out _).mono ?_
        rintro e w2 ⟨rfl, hb2⟩
        have O2 := hide' (ownS_mono ho hb2)
        clear hb2 ho c1
        go_wp2_with fail
        refine (CN.out _).mono ?_
        rintro e w3 ⟨rfl, hb3⟩
        have ho3 := ownS_mono O2.out hb3
        have c2 : w3.cell? ⟨b1, o1 + j * 2 + 1, none⟩ = some (.string ⟨q2.toArray⟩) := by
          rw [ho3.2.cell (p := ⟨b1, o1 + j * 2 + 1, none⟩) hblt]; exact h2'.out
        clear hb3 O2
        go_wp2_with (at_builtin; refine appS rfl (.tmp 23) (.tmp 29) rfl w _ _ rfl ho3 q2 rfl rfl (by omega) ?_; intro v5 w5 ho5)
        go_roundw
        case rel => exact ⟨j + 1, by omega, by go_num, by rw [R.out]; exact ho5⟩
        case measure => simp [intOf]; omega
      · have R : Hid (valsOf (fs.take (j + 1)) nm = valsOf (fs.take j) nm) := vals_miss fs nm j G.out he
        have hne := ba_eql' _ _ he
        have hne2 : (lows (fs[j]'G.out).1 == lows nm) = false := by simpa using he
        clear he
        generalize (fs[j]'G.out).2 = q2 at h2' hs2
        generalize (fs[j]'G.out).1 = q1 at c1 CF hs1 hne hne2
        generalize lows q1 = l1 at CF hne hne2
        go_wp2_with fail
        refine (CF.out _).mono ?_
        rintro e w2 ⟨rfl, hb2⟩
        have O2 := hide' (ownS_mono ho hb2)
        clear hb2 ho c1
        go_wp2_with fail
        refine (CN.out _).mono ?_
        rintro e w3 ⟨rfl, hb3⟩
        have ho3 := ownS_mono O2.out hb3
        clear hb3 O2
        go_wp2_with fail
        go_roundw
        case rel => exact ⟨j + 1, by omega, by go_num, by rw [R.out]; exact ho3⟩
        case measure => simp [intOf]; omega
    · have E : Hid (fs.take j = fs) := List.take_of_length_le (by rw [N.out]; omega)
      rw [E.out] at ho
      go_wp2_with fail
      go_ret
      exact ⟨_, rfl, ho⟩
end Go.Proofs.YtikokjclhpgocabDoor
