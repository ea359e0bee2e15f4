/- The contract of the document's Print. -/
import Derived.Test.YtobkmepamgdccaaGreatDoorBf
import Derived.Deep.RegionHeldLaw
import Derived.Deep.DrawnRows
namespace Go.Proofs.YtobkmepamgdccaaGreatDoor
open Go.RowKit
theorem step_appB {ops : Array Oper} {o : Oper} {a : Act} {K : Act → World → Prop} {Q : Exit → Act → World → Prop} {E : Prop} {W : World} (hgd : o.guard = none) (s x : Operand)
    (ho : o.op = .call { callee := .builtin .append, args := #[s, x], argTypes := #[22, 22] }) (w0 : World) (v : Value) (bs : List UInt8) (hs : a.eval s = v) (hown : Own w0 v bs W)
    (l : List UInt8) (b cap : Nat) (hx : a.eval x = .slice (some ⟨b, 0, none⟩) l.length cap) (hnews : ∀ j (h : j < l.length), W.cell? ⟨b, j, none⟩ = some (B l[j])) (hlen : bs.length + l.length ≤ 140737488355328)
    (h : ∀ v' w', Own w0 v' (bs ++ l) w' → K (a.put o.dst v') w') : if Region.wanted o (yielded ops a.tmps) = true then Oper.wp Tryz.prog o a W K Q else E := by
  obtain ⟨i0, hi, hz0, hz1, hz2⟩ := info_parts Tryz.info5
  have hw : Region.wanted o (yielded ops a.tmps) = true := by simp [Region.wanted, hgd]
  rw [if_pos hw]
  refine wp_append_own W s x 22 ho w0.heap.size 5 i0 (.int .u8 0) 1 1 Tryz.underlying22 hi hz0 hz1 hz2 rfl (by decide) v bs.length (bs.map B) hs hown.1 ⟨b, 0, none⟩ l.length cap (l.map B) hx (by simp) ?_ ?_ ?_ ?_ ?_ ?_
  · intro j u hj
    obtain ⟨hj1, hj2⟩ := List.getElem?_eq_some_iff.1 hj
    rw [List.length_map] at hj1
    have e : (⟨b, 0, none⟩ : Addr).add j = ⟨b, 0 + j, none⟩ := Go.WideShapes.add_plain _ _ _
    rw [e, Nat.zero_add, hnews j hj1, ← hj2]
    simp
  · intro u hu; obtain ⟨x, _, rfl⟩ := List.mem_map.1 hu; rfl
  · unfold maxLen; omega
  · omega
  · exact hown.2.size
  · intro v' w' h1 h2 _
    refine h v' w' ⟨by rw [List.map_append, List.length_append]; exact h1, ?_⟩
    refine Below.grown hown.2 h2 hown.2.size ?_
    intro k hk
    exact (hown.1.lt k hk).1
theorem mixed_now' (s : ByteArray) (j : Nat) (h : j < s.size) : (Value.int .u8 ((mixed s 0 j).toNat : Int)) = B (s.data.toList[j]'(by simpa using h)) := by
  unfold mixed B; rw [dif_pos h, if_neg (by omega)]; rfl
theorem conv_line (s : ByteArray) (l : List UInt8) (w : World) (e : s.data.toList = l) : ∃ (cap : Nat) (w1 : World), Sem.run Tryz.prog (convert 9 22 (.string s)) w.drew = .ok (.slice (some ⟨w.heap.size, 0, none⟩) l.length cap) w1 ∧
    (∀ j (h : j < l.length), w1.cell? ⟨w.heap.size, j, none⟩ = some (B l[j])) ∧ Below w.heap.size w w1 := by
  obtain ⟨cap, w1, h1, h2, _, h4, _⟩ := conv_bytes s w.drew
  subst e
  have hs : s.data.toList.length = s.size := by simp
  refine ⟨cap, w1, by rw [h1, hs]; rfl, ?_, ?_⟩
  · intro j hj
    have hj' : j < s.size := by rw [← hs]; exact hj
    have := h2 j hj'
    rw [mixed_now' s j hj'] at this
    exact this
  · exact ((Below.refl w.heap.size w).drew).trans h4
set_option maxRecDepth 20000 in
set_option maxHeartbeats 4000000 in
theorem printRef (v : Value) (fs : FL) (w : World) (hv : HoldsF w v fs) (hfit : Fit fs) (hl : fs.length ≤ 140737488351232) (hP : (printOf fs).length ≤ 8000000) :
    Calls Tryz.prog 26 #[v] w fun e w' => ∃ u, e = .returned (.tuple #[u, .int .i64 (printP fs).2]) ∧ Own w u (printP fs).1 w' := by
  obtain ⟨ao, ca, b1, o1, rfl, hca⟩ := holdsF_parts hv
  have CA : Hid _ := hca
  have FT : Hid _ := hfit
  clear hca hv hfit
  obtain ⟨n, en⟩ : ∃ n, n = fs.length := ⟨_, rfl⟩
  have N : Hid (fs.length = n) := en.symm
  rw [N.out] at hl ⊢
  have HP := hide' hP
  clear en hP
  go_enter Tryz.func26, Tryz.ntmps26
  go_wp2_with fail
  go_loopw [4] (fun i wr => ∃ j : Nat, j ≤ n ∧ i = .int .i64 j ∧ Hid ((fs.take j).all goodF = true) ∧ Hid (wr = w)) (fun i _ => n - (intOf i).toNat)
  case atStart => exact ⟨0, Nat.zero_le _, rfl, by unfold Hid; simp, rfl⟩
  case round =>
    obtain ⟨j, hj, rfl, hg, hb⟩ := hrel
    have hb' := hb.out
    subst hb'
    clear hb
    by_cases hlt : j < n
    · have G : Hid (j < fs.length) := by unfold Hid; rw [N.out]; exact hlt
      obtain ⟨hao, hblt, hcell⟩ := CA.out (by have := G.out; omega)
      subst hao
      obtain ⟨c1, c2⟩ := hcell j G.out
      unfold S at c1 c2
      obtain ⟨hs1, hs2⟩ := fit_at FT.out j G.out
      have cT := tokenRef ⟨(fs[j]'G.out).1.toArray⟩ wr (by rw [size_l]; exact hs1)
      have cV := valueRef ⟨(fs[j]'G.out).2.toArray⟩ wr (by rw [size_l]; exact hs2)
      simp only at cT cV
      have hgd : goodF (fs[j]'G.out) = (isTok (fs[j]'G.out).1 && goodV (fs[j]'G.out).2) := rfl
      clear hcell
      have RT : isTok (fs[j]'G.out).1 = true → goodV (fs[j]'G.out).2 = true → (fs.take (j + 1)).all goodF = true := by
        intro h1 h2
        rw [List.take_succ_eq_append_getElem G.out, List.all_append, hg.out]
        simp [hgd, h1, h2]
      have RF : goodF (fs[j]'G.out) = false → printP fs = ([], 40) := by
        intro hgf
        unfold printP
        rw [if_pos]
        rw [Bool.eq_false_iff]
        intro h
        have := List.all_eq_true.1 h _ (List.getElem_mem G.out)
        rw [hgf] at this
        cases this
      cases h1 : isTok (fs[j]'G.out).1 with
      | true =>
        rw [h1] at cT
        cases h2 : goodV (fs[j]'G.out).2 with
        | true =>
          have R := hide' (RT h1 h2)
          rw [h2] at cV
          have CT := hide' cT
          have CV := hide' cV
          clear cT cV hgd RT RF h1 h2 hs1 hs2
          generalize (fs[j]'G.out).1 = q1 at c1 CT
          generalize (fs[j]'G.out).2 = q2 at c2 CV
          go_wp2_with (first | (go_at_call 35; refine CT.out.mono ?_; rintro e w2 ⟨rfl, hw2⟩; rw [hw2]; clear hw2) | (go_at_call 36; refine CV.out.mono ?_; rintro e w2 ⟨rfl, hw2⟩; rw [hw2]; clear hw2))
          go_roundw
          case rel => exact ⟨j + 1, by omega, by go_num, R, by first | exact trivial | exact rfl⟩
          case measure => simp [intOf]; omega
        | false =>
          have R := hide' (RF (by rw [hgd, h1, h2]; rfl))
          rw [h2] at cV
          have CT := hide' cT
          have CV := hide' cV
          clear cT cV hgd RT RF h1 h2 hs1 hs2
          generalize (fs[j]'G.out).1 = q1 at c1 CT
          generalize (fs[j]'G.out).2 = q2 at c2 CV
          go_wp2_with (first | (go_at_call 35; refine CT.out.mono ?_; rintro e w2 ⟨rfl, hw2⟩; rw [hw2]; clear hw2) | (go_at_call 36; refine CV.out.mono ?_; rintro e w2 ⟨rfl, hw2⟩; rw [hw2]; clear hw2))
          go_ret2
          rw [R.out]
          exact ⟨_, rfl, own_nil _ _ (Below.refl _ _)⟩
      | false =>
        have R := hide' (RF (by rw [hgd, h1]; rfl))
        rw [h1] at cT
        have CT := hide' cT
        clear cT cV hgd RT RF h1 hs1 hs2
        generalize (fs[j]'G.out).1 = q1 at c1 CT
        generalize (fs[j]'G.out).2 = q2 at c2
        go_wp2_with (go_at_call 35; refine CT.out.mono ?_; rintro e w2 ⟨rfl, hw2⟩; rw [hw2]; clear hw2)
        go_ret2
        rw [R.out]
        exact ⟨_, rfl, own_nil _ _ (Below.refl _ _)⟩
    · have hall : fs.all goodF = true := by
        have := hg.out; rwa [List.take_of_length_le (by rw [N.out]; omega)] at this
      by_cases h100 : 100 < n
      · have R : Hid (printP fs = ([], 42)) := by
          unfold Hid printP
          rw [if_neg (by rw [hall]; simp), if_pos (by rw [N.out]; exact h100)]
        clear hall
        go_wp2_with fail
        go_ret2
        rw [R.out]
        exact ⟨_, rfl, own_nil _ _ (Below.refl _ _)⟩
      · have R : Hid (printP fs = (printOf fs, 0)) := by
          unfold Hid printP
          rw [if_neg (by rw [hall]; simp), if_neg (by rw [N.out]; exact h100)]
        clear hall
        obtain ⟨wa, ewa⟩ : ∃ wa, wa = wr := ⟨_, rfl⟩
        rw [← ewa] at CA ⊢
        have EW := hide' ewa
        clear ewa
        go_wp2_with fail
        go_loopw [5, 6] (fun v i wr => ∃ j : Nat, j ≤ n ∧ i = .int .i64 j ∧ Hid (Own wa v (printOf (fs.take j)) wr)) (fun _ i _ => n - (intOf i).toNat)
        case atStart => exact ⟨0, Nat.zero_le _, rfl, own_empty wa⟩
        case round =>
          obtain ⟨j, hj, rfl, ho⟩ := hrel
          by_cases hlt : j < n
          · have G : Hid (j < fs.length) := by unfold Hid; rw [N.out]; exact hlt
            obtain ⟨hao, hblt, hcell⟩ := CA.out (by have := G.out; omega)
            subst hao
            obtain ⟨h1, h2⟩ := hcell j G.out
            have c1 : wr.cell? ⟨b1, o1 + j * 2, none⟩ = some (.string ⟨(fs[j]'G.out).1.toArray⟩) := by
              rw [ho.out.2.cell (p := ⟨b1, o1 + j * 2, none⟩) hblt]; exact h1
            have c2 : wr.cell? ⟨b1, o1 + j * 2 + 1, none⟩ = some (.string ⟨(fs[j]'G.out).2.toArray⟩) := by
              rw [ho.out.2.cell (p := ⟨b1, o1 + j * 2 + 1, none⟩) hblt]; exact h2
            have R2 : Hid (printOf (fs.take (j + 1)) = printOf (fs.take j) ++ lineB (fs[j]'G.out)) := print_snoc fs j G.out
            have t1 := print_take fs (j + 1)
            rw [print_snoc fs j G.out, List.length_append, lineB_len] at t1
            have t2 := HP.out
            have el := lineB_len (fs[j]'G.out)
            have LN : Hid ((printOf (fs.take j)).length + (lineB (fs[j]'G.out)).length ≤ 140737488355328) := by unfold Hid; omega
            have za : (⟨(fs[j]'G.out).1.toArray⟩ : ByteArray).size ≤ 8000000 := by rw [size_l]; omega
            have zb : (⟨(fs[j]'G.out).2.toArray⟩ : ByteArray).size ≤ 8000000 := by rw [size_l]; omega
            have ex : ((⟨(fs[j]'G.out).1.toArray⟩ : ByteArray) ++ (⟨#[58, 32]⟩ : ByteArray) ++ (⟨(fs[j]'G.out).2.toArray⟩ : ByteArray) ++ (⟨#[13, 10]⟩ : ByteArray)).data.toList = lineB (fs[j]'G.out) := by
              simp [ByteArray.data_append, lineB]
            obtain ⟨cap, wc, hconv, hcc, hbc⟩ := conv_line _ _ wr ex
            have z1 : ((⟨(fs[j]'G.out).1.toArray⟩ : ByteArray) ++ (⟨#[58, 32]⟩ : ByteArray)).size ≤ 8000002 := by
              rw [ByteArray.size_append]; have : (⟨#[58, 32]⟩ : ByteArray).size = 2 := rfl; omega
            have z2 : ((⟨(fs[j]'G.out).1.toArray⟩ : ByteArray) ++ (⟨#[58, 32]⟩ : ByteArray) ++ (⟨(fs[j]'G.out).2.toArray⟩ : ByteArray)).size ≤ 16000002 := by
              rw [ByteArray.size_append]; omega
            have hlw : b1 < wr.heap.size := Nat.lt_of_lt_of_le hblt ho.out.2.size
            have k1 : wc.cell? ⟨b1, o1 + j * 2, none⟩ = some (.string ⟨(fs[j]'G.out).1.toArray⟩) := by rw [hbc.cell (p := ⟨b1, o1 + j * 2, none⟩) hlw]; exact c1
            have k2 : wc.cell? ⟨b1, o1 + j * 2 + 1, none⟩ = some (.string ⟨(fs[j]'G.out).2.toArray⟩) := by rw [hbc.cell (p := ⟨b1, o1 + j * 2 + 1, none⟩) hlw]; exact c2
            have X1 := hide' h1
            have X2 := hide' h2
            unfold S at X1 X2
            have O1 := hide' (own_mono ho.out hbc)
            have NW := hide' hcc
            clear hcell h1 h2 t1 t2 el ex hcc hbc
            generalize (⟨(fs[j]'G.out).1.toArray⟩ : ByteArray) = A at c1 za z1 z2 hconv k1 X1
            generalize (⟨(fs[j]'G.out).2.toArray⟩ : ByteArray) = D at c2 zb z2 hconv k2 X2
            generalize lineB (fs[j]'G.out) = ln at R2 LN hconv NW
            generalize printOf (fs.take j) = acc at ho R2 LN O1
            go_wp2_with fail
            go_region_held_law (fun w' => w'.cell? ⟨b1, o1 + j * 2, none⟩ = some (.string A) ∧ w'.cell? ⟨b1, o1 + j * 2 + 1, none⟩ = some (.string D)) (go_keep)
              ((refine step_appB (by rfl) (.tmp 39) (.tmp 53) (by rfl) wa _ acc (by rfl) O1.out ln _ _ (by rfl) NW.out LN.out ?_; intro v2 w2 ho2; have m1 : w2.cell? ⟨b1, o1 + j * 2, none⟩ = some (.string A) := (by rw [ho2.2.cell (p := ⟨b1, o1 + j * 2, none⟩) hblt]; exact X1.out); have m2 : w2.cell? ⟨b1, o1 + j * 2 + 1, none⟩ = some (.string D) := (by rw [ho2.2.cell (p := ⟨b1, o1 + j * 2 + 1, none⟩) hblt]; exact X2.out); have O2 := hide' ho2; clear ho2))
            all_goals
              go_wp2_with fail
              go_roundw
              case rel => exact ⟨j + 1, by omega, by go_num, by unfold Hid; rw [R2.out]; exact O2.out⟩
              case measure => simp [intOf]; omega
          · have E : Hid (fs.take j = fs) := List.take_of_length_le (by rw [N.out]; omega)
            rw [E.out] at ho
            go_wp2_with fail
            go_ret2
            rw [R.out]
            obtain rfl := EW.out
            exact ⟨_, rfl, ho.out⟩
end Go.Proofs.YtobkmepamgdccaaGreatDoor
