/- The contract of the document's Key. -/
import Derived.Test.YtmibgcbolnpffaaDoorVrN
import Derived.Test.YtmibgcbolnpffaaDoorVrL
namespace Go.Proofs.YtmibgcbolnpffaaDoor
open Go.RowKit
def colN : Nat → List UInt8
  | 0 => []
  | _ + 1 => [58]
theorem colN_len (j : Nat) : (colN j).length ≤ 1 := by cases j <;> simp [colN]
theorem colN_pos {j : Nat} (h : 0 < j) : colN j = [58] := by cases j with | zero => omega | succ j => rfl
theorem bsz {s : ByteArray} {l : List UInt8} (h : s.data.toList = l) : s.size = l.length := by rw [← h]; simp
theorem bapp {s : ByteArray} {l : List UInt8} (h : s.data.toList = l) (q : List UInt8) : (s ++ (⟨q.toArray⟩ : ByteArray)).data.toList = l ++ q := by rw [← h]; simp [ByteArray.data_append]
theorem commas_nil : commas [] = [] := by simp [commas, Lib.join_nil]
theorem commas_first (p : Nm) : commas ([] ++ [p]) = p := by simp [commas, Lib.join_one]
theorem commas_next (F : List Nm) (p : Nm) (h : 0 < F.length) : commas (F ++ [p]) = commas F ++ [44] ++ p := by
  cases F with
  | nil => simp at h
  | cons x r =>
    unfold commas
    rw [List.cons_append, Lib.join_cons, Lib.join_cons]
    have := Lib.joinTail_take_succ [44] (r ++ [p]) r.length p (by simp)
    rw [List.take_of_length_le (by simp), List.take_left'] at this
    · rw [this]; simp
    · rfl
theorem tell_is (fs : FL) (n : Nm) : tellOf fs n = lows n ++ colN (valsOf fs n).length ++ commas ((valsOf fs n).flatMap listOf) ++ [10] := by
  unfold tellOf elsOf
  cases h : valsOf fs n with
  | nil => simp [colN, commas_nil]
  | cons a r => simp [colN]
theorem flat_next (vs : List Nm) (j : Nat) (h : j < vs.length) : (vs.take (j + 1)).flatMap listOf = (vs.take j).flatMap listOf ++ listOf vs[j] := by
  rw [List.take_succ_eq_append_getElem h, List.flatMap_append]; simp
theorem bulkT_app (a b : List Nm) : bulkT (a ++ b) = bulkT a + bulkT b := by
  induction a with
  | nil => simp [bulkT]
  | cons x a ih => simp only [List.cons_append, bulkT, ih]; omega
set_option maxHeartbeats 8000000 in
set_option maxRecDepth 20000 in
theorem keyRC (nv av : Value) (ns : List Nm) (fs : FL) (w : World) (hn : Holds w nv ns) (ha : HoldsF w av fs) (hb : bulkF fs ≤ 1048576) (hnb : bulkT ns ≤ 1048576) :
    Calls Tryd.prog 17 #[nv, av] w fun e w' => e = .returned (.string ⟨(keyV ns fs).toArray⟩) ∧ Below w.heap.size w w' := by
  obtain ⟨ao, ca, b1, o1, rfl, hc⟩ := holds_parts hn
  have C := hide' hc
  have KM := hide' (keys_max hb hnb)
  have MM := hide' (bulkT_mem ns)
  have BV := hide' (bulk_vals fs)
  have hlv := bulkT_len ns
  have hfl := bulkF_len fs
  have cV := hide' (fun (nm : Nm) (hnm : nm.length ≤ 1048576) W (h : Below w.heap.size w W) => valuesRef av fs nm W (holdsF_mono ha h) (fun f hf => by have := bulkF_mem fs f hf; omega) (by omega) (by omega))
  obtain ⟨aa, ac, ab, aof, rfl, _⟩ := holdsF_parts ha
  clear hn ha hc
  generalize fs.length = fn at cV hfl ⊢
  obtain ⟨n, en⟩ : ∃ n, n = ns.length := ⟨_, rfl⟩
  have N : Hid (ns.length = n) := en.symm
  rw [N.out] at hlv ⊢
  clear en
  obtain ⟨RES, er⟩ : ∃ r, r = (⟨(keyV ns fs).toArray⟩ : ByteArray) := ⟨_, rfl⟩
  have HR := hide' er
  rw [← er]
  clear er
  go_enter Tryd.func17, Tryd.ntmps17
  go_wp2_with fail
  go_loopw [5, 6] (fun v i wr => ∃ (s : ByteArray) (k : Nat), v = .string s ∧ k ≤ n ∧ i = .int .i64 k ∧ Hid (s.data.toList = keyV (ns.take k) fs) ∧ Hid (Below w.heap.size w wr)) (fun _ i _ => n - (intOf i).toNat)
  case atStart => exact ⟨⟨#[]⟩, 0, rfl, Nat.zero_le _, rfl, rfl, Below.refl _ _⟩
  case round =>
    obtain ⟨s, k, rfl, hk, rfl, ES, HW⟩ := hrel
    obtain ⟨w2, ew⟩ : ∃ w2, w2 = wr := ⟨_, rfl⟩
    subst ew
    by_cases hlt : k < n
    · have G : Hid (k < ns.length) := by unfold Hid; rw [N.out]; exact hlt
      obtain ⟨hao, hblt, hcell⟩ := C.out (by have := G.out; omega)
      subst hao
      have HC : Hid (∀ W, Below w.heap.size w W → W.cell? ⟨b1, o1 + k, none⟩ = some (.string ⟨(ns[k]'G.out).toArray⟩)) := by
        intro W hW
        rw [hW.cell (p := ⟨b1, o1 + k, none⟩) hblt]; exact hcell k G.out
      have KN := hide' ((key_snoc ns k fs G.out).trans (congrArg _ (tell_is fs (ns[k]'G.out))))
      have km2 := KM.out (k + 1)
      have ls := MM.out _ (List.getElem_mem G.out)
      have CF := hide' (fun W => lowerRef ⟨(ns[k]'G.out).toArray⟩ W (by rw [size_l]; omega))
      simp only at CF
      have lx : (lows (ns[k]'G.out)).length ≤ 1048576 := by rw [lows_len]; omega
      have cV2 := hide' (cV.out (ns[k]'G.out) (by omega))
      have bv := BV.out (ns[k]'G.out)
      rw [KN.out] at km2
      clear hcell
      generalize valsOf fs (ns[k]'G.out) = vs at cV2 bv KN km2
      generalize lows (ns[k]'G.out) = x at CF lx KN km2
      have ck := HC.out w2 HW.out
      generalize ns[k]'G.out = q at ck HC CF cV2 ls
      generalize keyV (ns.take k) fs = acc at ES KN km2
      have LT : Hid (acc.length + (x.length + (colN vs.length).length + (commas (vs.flatMap listOf)).length + 1) ≤ 3000000000000) := by
        simp only [List.length_append, List.length_cons, List.length_nil] at km2; unfold Hid; omega
      have hs1 := bsz ES.out
      have lacc : acc.length ≤ 3000000000000 := by have := LT.out; omega
      go_wp2_with fail
      refine (CF.out _).mono ?_
      rintro e w3 ⟨rfl, hb3⟩
      have W3 := hide' (bt' HW.out hb3)
      have E1 := hide' (bapp ES.out x)
      have z1 : (s ++ (⟨x.toArray⟩ : ByteArray)).size = acc.length + x.length := by rw [bsz E1.out, List.length_append]
      have ck3 := HC.out w3 W3.out
      have C3 := hide' (cV2.out w3 W3.out)
      clear CF hb3 ck HW cV2
      go_wp2_with fail
      refine C3.out.mono ?_
      rintro e w4 ⟨u, rfl, ho⟩
      have W4 := hide' (bt' W3.out ho.2)
      obtain ⟨a2, c2, b2, o2, hu, hc2⟩ := holds_parts (holds_own ho)
      have D := hide' hc2
      rw [hu]
      generalize s ++ (⟨x.toArray⟩ : ByteArray) = s1 at E1 z1 ⊢
      clear C3 ho hu hc2 ck3 hs1
      obtain ⟨m, em⟩ : ∃ m, m = vs.length := ⟨_, rfl⟩
      have M : Hid (vs.length = m) := em.symm
      have mle : m ≤ 1048576 := by have := bulkT_len vs; omega
      rw [M.out] at LT KN ⊢
      clear em
      go_wp2_with fail
      go_loop [5, 8] (fun ov iv => ∃ (j : Nat) (t : ByteArray), j ≤ m ∧ iv = .int .i64 j ∧ ov = .string t ∧ Hid (t.data.toList = (acc ++ x) ++ colN j)) (fun _ iv => m - (intOf iv).toNat)
      case atStart => exact ⟨0, s1, Nat.zero_le _, rfl, rfl, by unfold Hid; rw [E1.out]; simp [colN]⟩
      case round =>
        obtain ⟨j, t, hj, rfl, rfl, ET⟩ := hrel
        by_cases hjt : j < m
        · by_cases hj0 : j = 0
          · subst hj0
            have z2 : (t ++ (⟨#[58]⟩ : ByteArray)).size ≤ 4000000000000 := by
              rw [bsz (bapp ET.out [58])]
              simp only [List.length_append, List.length_cons, List.length_nil, colN]; omega
            have zt : t.size ≤ 4000000000000 := by rw [bsz ET.out]; simp only [List.length_append, colN, List.length_nil]; omega
            go_wp2_with fail
            go_round
            case rel => exact ⟨1, _, by omega, by go_num, rfl, by unfold Hid; rw [bapp ET.out [58]]; simp [colN]⟩
            case measure => simp [intOf]; omega
          · have hj1 : decide ((j : Int) = 0) = false := by simp; omega
            have hj2 : ((j : Int) == 0) = false := by simp; omega
            go_wp2_with fail
            go_round
            case rel => exact ⟨j + 1, t, by omega, by go_num, rfl, by unfold Hid; rw [ET.out, colN_pos (by omega), colN_pos (by omega)]⟩
            case measure => simp [intOf]; omega
        · have ej : j = m := by omega
          rw [ej] at ET
          clear E1 z1
          have LT2 : Hid ((acc ++ x ++ colN m).length + (commas (vs.flatMap listOf)).length + 1 ≤ 3000000000000) := by have := LT.out; unfold Hid; simp only [List.length_append]; omega
          have KN2 : Hid (keyV (ns.take (k + 1)) fs = (acc ++ x ++ colN m) ++ commas (vs.flatMap listOf) ++ [10]) := by unfold Hid; rw [KN.out]; simp
          generalize acc ++ x ++ colN m = base at ET LT2 KN2
          clear KN LT
          have MV := hide' (bulkT_mem vs)
          have FB := hide' (fun j => (show bulkT ((vs.take j).flatMap listOf) ≤ 1048576 from by have h1 := bulk_flat (vs.take j); have h2 := bulkT_take vs j; omega))
          go_wp2_with fail
          go_loopw [5, 9, 10] (fun v c i wr => ∃ (t : ByteArray) (j c0 : Nat), v = .string t ∧ c = .int .i64 c0 ∧ j ≤ m ∧ i = .int .i64 j ∧ Hid (t.data.toList = base ++ commas ((vs.take j).flatMap listOf)) ∧ Hid (((vs.take j).flatMap listOf).length = c0) ∧ Hid (Below w4.heap.size w4 wr)) (fun _ _ i _ => m - (intOf i).toNat)
          case atStart => exact ⟨t, 0, 0, rfl, rfl, Nat.zero_le _, rfl, by unfold Hid; rw [ET.out]; simp [commas_nil], rfl, Below.refl _ _⟩
          case round =>
            clear ET
            obtain ⟨t, j, c0, rfl, rfl, hj, rfl, ET, EC, HW5⟩ := hrel
            obtain ⟨w5, ew⟩ : ∃ w5, w5 = wr := ⟨_, rfl⟩
            subst ew
            by_cases hjt : j < m
            · have G2 : Hid (j < vs.length) := by unfold Hid; rw [M.out]; exact hjt
              obtain ⟨ha2, hbl2, hcell2⟩ := D.out (by have := G2.out; omega)
              subst ha2
              have cj : w5.cell? ⟨b2, o2 + j, none⟩ = some (.string ⟨(vs[j]'G2.out).toArray⟩) := by
                rw [HW5.out.cell (p := ⟨b2, o2 + j, none⟩) hbl2]; exact hcell2 j G2.out
              have hv := MV.out _ (List.getElem_mem G2.out)
              have CL := hide' (fun W => listRef ⟨(vs[j]'G2.out).toArray⟩ W (by rw [size_l]; omega))
              simp only at CL
              have FN := hide' (flat_next vs j G2.out)
              have fb := FB.out (j + 1)
              rw [FN.out] at fb
              clear hcell2
              generalize vs[j]'G2.out = p at cj CL hv FN fb
              generalize (vs.take j).flatMap listOf = F at ET EC FN fb
              generalize listOf p = el at CL FN fb
              go_wp2_with fail
              refine (CL.out _).mono ?_
              rintro e w6 ⟨u6, rfl, ho6⟩
              have W6 := hide' (bt' HW5.out ho6.2)
              obtain ⟨a3, c3, b3, o3, hu3, hc3⟩ := holds_parts (holds_own ho6)
              have D3 := hide' hc3
              rw [hu3]
              clear CL ho6 hu3 hc3 cj HW5
              obtain ⟨m2, em2⟩ : ∃ m2, m2 = el.length := ⟨_, rfl⟩
              have M2 : Hid (el.length = m2) := em2.symm
              have m2b : m2 ≤ 1048576 := by
                have h1 := bulkT_len el
                have h2 := fb
                rw [bulkT_app] at h2
                omega
              rw [M2.out]
              clear em2
              go_wp2_with fail
              go_loop [5, 9, 12] (fun v c i => ∃ (t2 : ByteArray) (k2 c2 : Nat), v = .string t2 ∧ c = .int .i64 c2 ∧ k2 ≤ m2 ∧ i = .int .i64 k2 ∧ Hid (t2.data.toList = base ++ commas (F ++ el.take k2)) ∧ Hid ((F ++ el.take k2).length = c2)) (fun _ _ i => m2 - (intOf i).toNat)
              case atStart => exact ⟨t, 0, c0, rfl, rfl, Nat.zero_le _, rfl, by unfold Hid; rw [ET.out]; simp, by unfold Hid; rw [← EC.out]; simp⟩
              case round =>
                clear ET EC
                obtain ⟨t2, k2, c2, rfl, rfl, hk2, rfl, ET, EC⟩ := hrel
                by_cases hkt : k2 < m2
                · have G3 : Hid (k2 < el.length) := by unfold Hid; rw [M2.out]; exact hkt
                  obtain ⟨ha3, hbl3, hcell3⟩ := D3.out (by have := G3.out; omega)
                  subst ha3
                  have ck3 := hcell3 k2 G3.out
                  unfold S at ck3
                  have fb2 : bulkT (F ++ el.take k2 ++ [el[k2]'G3.out]) ≤ 1048576 := by
                    have h1 := bulkT_take el (k2 + 1)
                    rw [List.take_succ_eq_append_getElem G3.out] at h1
                    rw [bulkT_app] at fb h1
                    rw [bulkT_app, bulkT_app]
                    omega
                  have TK := hide' (show F ++ el.take (k2 + 1) = F ++ el.take k2 ++ [el[k2]'G3.out] from by rw [List.take_succ_eq_append_getElem G3.out, List.append_assoc])
                  clear hcell3
                  generalize el[k2]'G3.out = p2 at ck3 fb2 TK
                  generalize F ++ el.take k2 = F2 at ET EC fb2 TK
                  have cl := commas_len (F2 ++ [p2])
                  have cl2 := commas_len F2
                  have fb3 : bulkT F2 + (p2.length + 1) ≤ 1048576 := by rw [bulkT_app] at fb2; simpa [bulkT] using fb2
                  have c2b : c2 ≤ 1048576 := by have := bulkT_len F2; have := EC.out; omega
                  have lb : base.length ≤ 3000000000000 := by have := LT2.out; omega
                  have zt : t2.size ≤ 4000000000000 := by rw [bsz ET.out, List.length_append]; omega
                  by_cases hc0 : 0 < c2
                  · have hcd : decide ((0 : Int) < (c2 : Int)) = true := by simp; omega
                    have CN := hide' (commas_next F2 p2 (by rw [EC.out]; exact hc0))
                    have z3 : ((t2 ++ (⟨#[44]⟩ : ByteArray)) ++ (⟨p2.toArray⟩ : ByteArray)).size ≤ 4000000000000 := by
                      rw [bsz (bapp (bapp ET.out [44]) p2)]
                      simp only [List.length_append, List.length_cons, List.length_nil]; omega
                    have z2 : (t2 ++ (⟨#[44]⟩ : ByteArray)).size ≤ 4000000000000 := by
                      rw [bsz (bapp ET.out [44])]
                      simp only [List.length_append, List.length_cons, List.length_nil]; omega
                    go_wp2_with fail
                    go_round
                    case rel => exact ⟨_, k2 + 1, c2 + 1, rfl, by go_num, by omega, by go_num, by unfold Hid; rw [bapp (bapp ET.out [44]) p2, TK.out, CN.out]; simp, by unfold Hid; rw [TK.out, List.length_append, EC.out]; rfl⟩
                    case measure => simp [intOf]; omega
                  · have hc1 : c2 = 0 := by omega
                    subst hc1
                    have F0 : Hid (F2 = []) := List.eq_nil_of_length_eq_zero EC.out
                    have z2 : (t2 ++ (⟨p2.toArray⟩ : ByteArray)).size ≤ 4000000000000 := by
                      rw [bsz (bapp ET.out p2)]
                      simp only [List.length_append]; omega
                    clear hc0
                    go_wp2_with fail
                    go_round
                    case rel => exact ⟨_, k2 + 1, 1, rfl, by go_num, by omega, by go_num, by unfold Hid; rw [bapp ET.out p2, TK.out, F0.out, commas_first, commas_nil]; simp, by unfold Hid; rw [TK.out, F0.out]; rfl⟩
                    case measure => simp [intOf]; omega
                · have E3 : Hid (el.take k2 = el) := List.take_of_length_le (by rw [M2.out]; omega)
                  rw [E3.out] at ET EC
                  go_wp2_with fail
                  go_roundw
                  case rel => exact ⟨t2, j + 1, c2, rfl, rfl, by omega, by go_num, by unfold Hid; rw [FN.out]; exact ET, by unfold Hid; rw [FN.out]; exact EC, W6⟩
                  case measure => simp [intOf]; omega
            · have E4 : Hid (vs.take j = vs) := List.take_of_length_le (by rw [M.out]; omega)
              rw [E4.out] at ET
              have z2 : (t ++ (⟨#[10]⟩ : ByteArray)).size ≤ 4000000000000 := by
                rw [bsz (bapp ET.out [10])]
                simp only [List.length_append, List.length_cons, List.length_nil]; have := LT2.out; omega
              have zt : t.size ≤ 4000000000000 := by rw [bsz ET.out, List.length_append]; have := LT2.out; omega
              go_wp2_with fail
              go_roundw
              case rel => exact ⟨_, k + 1, rfl, by omega, by go_num, by unfold Hid; rw [bapp ET.out [10], KN2.out], bt' W4.out HW5.out⟩
              case measure => simp [intOf]; omega
    · have E : Hid (ns.take k = ns) := List.take_of_length_le (by rw [N.out]; omega)
      rw [E.out] at ES
      have hs : s = RES := by rw [HR.out]; cases s; have := ES.out; simp at this; simp [← this]
      subst hs
      go_wp2_with fail
      go_ret
      exact ⟨rfl, HW.out⟩
end Go.Proofs.YtmibgcbolnpffaaDoor
