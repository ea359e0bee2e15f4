/- The contract of Key. -/
import Derived.Test.YtmibgcbolnpffaaDoorVrT
import Derived.Test.YtmibgcbolnpffaaDoorVrN
import Derived.Test.YtmibgcbolnpffaaDoorVrW
import Derived.Test.YtmibgcbolnpffaaDoorVrL
namespace Go.Proofs.YtmibgcbolnpffaaDoor
open Go.RowKit Go.Maps Go.WideMaps
theorem tellF (fs : FL) (n x : Nm) (h : x = lows n) : tellOf fs n = x ++ ((if isF fs x = true then 58 :: commas (elsF fs x) else []) ++ [10]) := by
  subst h
  unfold tellOf isF elsF elsOf
  rw [valsF_of]
  congr 2
  by_cases e : valsOf fs n = []
  · simp [e]
  · simp [e]
theorem bulk_elsF (fs : FL) (n x : Nm) (h : x = lows n) : bulkT (elsF fs x) ≤ bulkF fs := by subst h; exact bulk_els fs n
set_option maxHeartbeats 4000000 in
set_option maxRecDepth 20000 in
theorem keyC (nv av : Value) (ns : List Nm) (fs : FL) (w : World) (hn : Holds w nv ns) (ha : HoldsF w av fs) (hb : bulkF fs ≤ 1048576) (hnb : bulkT ns ≤ 1048576) :
    Calls Tryd.prog 16 #[nv, av] w fun e w' => e = .returned (.string ⟨(keyV ns fs).toArray⟩) ∧ Below w.heap.size w w' := by
  have CT := hide' (tellC av fs w ha hb)
  obtain ⟨ao, ca, b1, o1, rfl, hc⟩ := holds_parts hn
  have C := hide' hc
  have KM := hide' (keys_max hb hnb)
  have MM := hide' (bulkT_mem ns)
  have BE := hide' (bulk_elsF fs)
  have hlv := bulkT_len ns
  obtain ⟨aa, ac, ab, aof, rfl, _⟩ := holdsF_parts ha
  clear hn ha hc
  obtain ⟨m, em⟩ : ∃ m, m = w.heap.size := ⟨_, rfl⟩
  have EM : Hid (w.heap.size = m) := em.symm
  rw [EM.out] at CT
  clear em
  obtain ⟨n, en⟩ : ∃ n, n = ns.length := ⟨_, rfl⟩
  have N : Hid (ns.length = n) := en.symm
  rw [N.out] at hlv ⊢
  clear en
  go_enter Tryd.func16, Tryd.ntmps16
  go_wp2_with fail
  refine CT.out.mono ?_
  rintro e w1 ⟨rfl, val, hm, hr⟩
  have HM := hide' hm
  have HR := hide' hr
  have B1 := hide' (hr.row []).2
  clear hm hr CT
  go_wp2_with fail
  have D0 := hide' (blD_new w1)
  have W0 := hide' (below_alloc' w1 (.cells #[.pointer none, .slice none 0 0] 54))
  obtain ⟨z, ez⟩ : ∃ z, z = w1.heap.size := ⟨_, rfl⟩
  have EZ : Hid (w1.heap.size = z) := ez.symm
  rw [EZ.out] at D0 W0 ⊢
  clear ez
  go_loopw [16] (fun i wr => ∃ (k : Nat), k ≤ n ∧ i = .int .i64 k ∧ Hid (BlD z z (keyV (ns.take k) fs) wr) ∧ Hid (Below z w1 wr)) (fun i _ => n - (intOf i).toNat)
  case atStart => exact ⟨0, Nat.zero_le _, rfl, D0, W0⟩
  case round =>
    obtain ⟨k, hk, rfl, HD, HW⟩ := hrel
    obtain ⟨wq, eq⟩ : ∃ wq, wq = wr := ⟨_, rfl⟩
    subst eq
    by_cases hlt : k < n
    · have G : Hid (k < ns.length) := by unfold Hid; rw [N.out]; exact hlt
      obtain ⟨hao, hblt, hcell⟩ := C.out (by have := G.out; omega)
      subst hao
      have c1 : wq.cell? ⟨b1, o1 + k, none⟩ = some (.string ⟨(ns[k]'G.out).toArray⟩) := by
        rw [(B1.out.trans (HW.out.mono (by rw [← EZ.out]; exact B1.out.size))).cell (p := ⟨b1, o1 + k, none⟩) hblt]; exact hcell k G.out
      have KN := hide' (key_snoc ns k fs G.out)
      have km := KM.out k
      have km2 := KM.out (k + 1)
      have ls := MM.out _ (List.getElem_mem G.out)
      have CF := hide' (fun W => foldTok ⟨(ns[k]'G.out).toArray⟩ W (by rw [size_l]; omega))
      simp only at CF
      have TE := hide' (tellF fs (ns[k]'G.out) _ rfl)
      have be := BE.out (ns[k]'G.out) _ rfl
      have lx : (lows (ns[k]'G.out)).length ≤ 1048576 := by rw [lows_len]; omega
      rw [KN.out, TE.out] at km2
      clear hcell
      obtain ⟨x, ex⟩ : ∃ x, x = lows (ns[k]'G.out) := ⟨_, rfl⟩
      rw [← ex] at CF TE be lx km2
      clear ex
      rw [TE.out] at KN
      clear TE
      generalize ns[k]'G.out = q at c1 ls CF
      generalize keyV (ns.take k) fs = acc at HD KN km km2
      have le : (commas (elsF fs x)).length ≤ 2 * bulkT (elsF fs x) := commas_len _
      by_cases hi : isF fs x = true
      · rw [if_pos hi] at KN km2
        have HI := hide' hi
        clear hi
        go_wp2_with fail
        refine (CF.out _).mono ?_
        rintro e w2 ⟨rfl, hb2⟩
        have D2 := hide' (blD_below HD.out hb2)
        have W2 := hide' (HW.out.trans (hb2.mono HD.out.2))
        clear CF c1 hb2 HD HW
        have CS := hide' (wrU D2.out ⟨x.toArray⟩ x rfl (by omega))
        go_wp2_with fail
        refine CS.out.mono ?_
        rintro e w3 ⟨r1, r2, rfl, h3, g3⟩
        have U3 := hide' h3
        have W3 := hide' (W2.out.trans g3)
        clear CS D2 W2 h3 g3
        have hM3 := mapV_below HM.out (by rw [EZ.out]; exact W3.out)
        have hR3 := rowsV_below HR.out (by rw [EZ.out]; exact W3.out)
        have hsl : ∃ va vn vc, val x = .slice va vn vc := by
          rcases isSl_own (hR3.row x) with ⟨nn, cc, e⟩ | ⟨bb, oo, nn, cc, e⟩
          · exact ⟨_, _, _, e⟩
          · exact ⟨_, _, _, e⟩
        obtain ⟨va, vn, vc, ev⟩ := hsl
        have L3 := mapV_look_ok hM3 hR3 (s := ⟨x.toArray⟩) (by rw [size_l]; omega) x rfl
        rw [ev, HI.out] at L3
        have R1 := HR.out.row x
        rw [ev] at R1
        have CJ := hide' (fun W (hW : Below z w1 W) => joinV w W (elsF fs x) (.slice va vn vc) (ownS_mono R1 (by rw [EZ.out]; exact hW)) (by omega))
        clear hM3 hR3 ev R1
        have U4 := hide' (blU_below U3.out (below_alloc' w3 (.cells #[.slice va vn vc] 60)))
        have W4 := hide' (W3.out.trans ((below_alloc' w3 (.cells #[.slice va vn vc] 60)).mono U3.out.2))
        have zl : z < w3.heap.size := by
          obtain ⟨⟨_, v0, h0, _⟩, _⟩ := U3.out
          rcases Nat.lt_or_ge z w3.heap.size with h | h
          · exact h
          · rw [Array.getElem?_eq_none h] at h0; cases h0
        have H4 := hide' (heap_alloc_new w3 (.cells #[.slice va vn vc] 60))
        have CW := hide' (wrV U4.out 58 58 rfl (by rw [List.length_append]; omega))
        go_wp2_with fail
        refine CW.out.mono ?_
        rintro e w5 ⟨r3, rfl, h5, g5, o5⟩
        have d5 : w5.cell? ⟨w3.heap.size, 0, none⟩ = some (.slice va vn vc) := by
          have := o5 w3.heap.size _ _ (by omega) (by decide) H4.out
          simp [World.cell?, this]
        have U5 := hide' h5
        have W5 := hide' (W4.out.trans g5)
        have CJ5 := hide' (CJ.out w5 W5.out)
        clear CW U4 W4 U3 W3 h5 g5 o5 CJ H4 L3
        go_wp2_with fail
        refine CJ5.out.mono ?_
        rintro e w6 ⟨rfl, b6⟩
        have D6 := hide' (blD_below (blU_D U5.out) b6)
        have W6 := hide' (W5.out.trans (b6.mono U5.out.2))
        have CS6 := hide' (wrU D6.out ⟨(commas (elsF fs x)).toArray⟩ (commas (elsF fs x)) rfl (by simp only [List.length_append, List.length_cons, List.length_nil]; omega))
        clear CJ5 U5 W5 b6 d5
        go_wp2_with fail
        refine CS6.out.mono ?_
        rintro e w7 ⟨r4, r5, rfl, h7, g7⟩
        have U7 := hide' h7
        have W7 := hide' (W6.out.trans g7)
        have CW7 := hide' (wrB (blU_D U7.out) 10 10 rfl (by simp only [List.length_append, List.length_cons, List.length_nil]; omega))
        clear CS6 D6 W6 h7 g7
        go_wp2_with fail
        refine CW7.out.mono ?_
        rintro e w8 ⟨r6, rfl, h8, g8⟩
        have U8 := hide' h8
        have W8 := hide' (W7.out.trans g8)
        clear CW7 U7 W7 h8 g8
        go_wp2_with fail
        go_roundw
        case rel => exact ⟨k + 1, by omega, by go_num, by rw [KN.out]; simpa using U8, W8⟩
        case measure => simp [intOf]; omega
      · have HI : Hid (isF fs x = false) := by unfold Hid; simpa using hi
        rw [if_neg hi] at KN km2
        clear hi
        go_wp2_with fail
        refine (CF.out _).mono ?_
        rintro e w2 ⟨rfl, hb2⟩
        have D2 := hide' (blD_below HD.out hb2)
        have W2 := hide' (HW.out.trans (hb2.mono HD.out.2))
        clear CF c1 hb2 HD HW
        have CS := hide' (wrU D2.out ⟨x.toArray⟩ x rfl (by omega))
        go_wp2_with fail
        refine CS.out.mono ?_
        rintro e w3 ⟨r1, r2, rfl, h3, g3⟩
        have U3 := hide' h3
        have W3 := hide' (W2.out.trans g3)
        clear CS D2 W2 h3 g3
        have hM3 := mapV_below HM.out (by rw [EZ.out]; exact W3.out)
        have hR3 := rowsV_below HR.out (by rw [EZ.out]; exact W3.out)
        have ev : val x = .slice none 0 0 := HM.out.no x HI.out
        have L3 := mapV_look_ok hM3 hR3 (s := ⟨x.toArray⟩) (by rw [size_l]; omega) x rfl
        rw [ev, HI.out] at L3
        clear hM3 hR3 ev
        have U4 := hide' (blU_below U3.out (below_alloc' w3 (.cells #[.slice none 0 0] 60)))
        have W4 := hide' (W3.out.trans ((below_alloc' w3 (.cells #[.slice none 0 0] 60)).mono U3.out.2))
        have CW := hide' (wrB (blU_D U4.out) 10 10 rfl (by rw [List.length_append]; omega))
        go_wp2_with fail
        refine CW.out.mono ?_
        rintro e w8 ⟨r6, rfl, h8, g8⟩
        have U8 := hide' h8
        have W8 := hide' (W4.out.trans g8)
        clear CW U4 W4 U3 W3 h8 g8 L3
        go_wp2_with fail
        go_roundw
        case rel => exact ⟨k + 1, by omega, by go_num, by rw [KN.out]; simpa using U8, W8⟩
        case measure => simp [intOf]; omega
    · have E : Hid (ns.take k = ns) := List.take_of_length_le (by rw [N.out]; omega)
      rw [E.out] at HD
      have CE := hide' (blS HD.out)
      go_wp2_with fail
      refine CE.out.mono ?_
      rintro e w9 ⟨rfl, g9⟩
      have W9 := hide' (B1.out.trans ((HW.out.trans g9).mono (by rw [← EZ.out]; exact B1.out.size)))
      clear CE g9
      go_wp2_with fail
      go_ret
      exact ⟨rfl, W9.out⟩
end Go.Proofs.YtmibgcbolnpffaaDoor
