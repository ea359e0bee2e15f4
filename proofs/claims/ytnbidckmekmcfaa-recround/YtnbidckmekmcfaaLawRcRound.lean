/- The walk of RecRound. -/
import Derived.Test.YtnbidckmekmcfaaLawRcTells
import Derived.Test.YtnbidckmekmcfaaMidB
import Derived.Deep.DeepAppendWide
namespace Go.Proofs.Ytnbidckmekmcfaa
open Go.RowKit
/-- a whole list of bytes appended, a great one too -/
theorem appAllW {ops : Array Oper} {rest : List Oper} {o : Oper} {a : Act} {Q : Exit → Act → World → Prop} {wr : World} (hgd : o.guard = none) (s z : Operand)
    (ho : o.op = .call { callee := .builtin .append, args := #[s, z], argTypes := #[22, 22] }) (w0 : World) (v : Value) (ps : List UInt8) (hs : a.eval s = v) (hown : Own w0 v ps wr)
    (u : Value) (qs : List UInt8) (hz : a.eval z = u) (hu : HoldsB wr u qs) (hlen : ps.length + qs.length ≤ 200000000000000)
    (h : ∀ v' w', Own w0 v' (ps ++ qs) w' → wpList Try.prog ops Q rest (a.put o.dst v') w') : wpList Try.prog ops Q (o :: rest) a wr := by
  obtain ⟨i0, hi, hz0, hz1, hz2⟩ := info_parts Try.info5
  have hsz := hown.2.size
  obtain ⟨ao, cap, rfl, h0, hcp, hc⟩ := hu
  have key : ∀ (ad : Addr), ao = some ad → (∀ j x, (qs.map B)[j]? = some x → wr.cell? (ad.add j) = some x) → wpList Try.prog ops Q (o :: rest) a wr := by
    intro ad e hnews
    subst e
    refine wpList_append_own_wide _ hgd s z 22 ho w0.heap.size 5 i0 (.int .u8 0) 1 1 Try.underlying22 hi hz0 hz1 hz2 rfl (by decide) v ps.length (ps.map B) hs hown.1 ad qs.length cap (qs.map B) hz (by simp) hnews ?_ (by unfold maxLen; omega) (by omega) hsz ?_
    · intro u hu; obtain ⟨x, _, rfl⟩ := List.mem_map.1 hu; rfl
    · intro v' w' h1 h2 _
      refine h v' w' ⟨by rw [List.map_append, List.length_append]; exact h1, ?_⟩
      refine Below.grown hown.2 h2 (by omega) ?_
      intro k hk
      exact (hown.1.lt k hk).1
  by_cases hq : qs = []
  · subst hq
    cases ao with
    | none =>
      obtain rfl := h0 rfl
      refine wpList_append_own_none hgd s z 22 ho w0.heap.size 5 i0 1 Try.underlying22 hi v ps.length (ps.map B) hs hown.1 hz ?_
      exact h v wr (by rw [List.append_nil]; exact hown)
    | some ad => exact key ad rfl (fun j x hj => by simp at hj)
  · obtain ⟨b, off, rfl, hlt, hcell⟩ := hc hq
    refine key ⟨b, off, none⟩ rfl (fun j x hj => ?_)
    have e : (⟨b, off, none⟩ : Addr).add j = ⟨b, off + j, none⟩ := Go.WideShapes.add_plain _ _ _
    rw [e]
    obtain ⟨hj1, hj2⟩ := List.getElem?_eq_some_iff.1 hj
    rw [List.length_map] at hj1
    rw [hcell j hj1, ← hj2]
    simp
set_option maxRecDepth 20000 in
set_option maxHeartbeats 4000000 in
theorem roundW (seq op no : Int) (id : List UInt8) (rv : Value) (rs : List UInt8) (i : Int) (W : World) (hl : id.length ≤ 140737488351232) (hv : HoldsB W rv rs) (hr : rs.length ≤ 140737488351232) :
    Calls Try.prog 6 #[recV seq op no id, rv, .int .i64 i] W fun e w' => e = .returned (.bool true) ∧ Below W.heap.size W w' := by
  have cE := hide' (fun w => encC seq op no id w (by omega))
  obtain ⟨B0, hB0⟩ : ∃ B0, B0 = W.alloc (.cells #[.int .i64 seq, .int .i64 op, .int .i64 no, .string ⟨id.toArray⟩] 29) := ⟨_, rfl⟩
  have Q0 := quad_lit W (.int .i64 seq) (.int .i64 op) (.int .i64 no) (.string ⟨id.toArray⟩) 29
  have L0 := below_alloc' W (.cells #[.int .i64 seq, .int .i64 op, .int .i64 no, .string ⟨id.toArray⟩] 29)
  have HB0 := hide' hB0
  rw [← hB0] at Q0 L0
  have LB := hide' L0
  have HQ := hide' Q0
  have HV := hide' (holdsB_mono hv L0)
  clear hB0 L0 Q0 hv
  by_cases he : (encOf seq op no id).2 = 0
  · obtain ⟨f1, f2, f3, f4, f5, f6⟩ := enc_fine he
    rw [he, f5] at cE
    have RL := hide' (recL_len op.toNat seq.toNat no.toNat id)
    have D1 : Hid (decOf (recL op.toNat seq.toNat no.toNat id ++ rs) = ⟨seq.toNat, op.toNat, no.toNat, id, id.length + 15, 0⟩) := dec_rec _ _ _ id rs f1 f2 f3 f4
    have D2 : Hid (∀ k, k < id.length + 15 → decOf ((recL op.toNat seq.toNat no.toNat id).take k) = decErr 0) := fun k hk => dec_cut _ _ _ id f1 f4 k hk
    have e1 : Hid ((seq.toNat : Int) = seq ∧ (op.toNat : Int) = op ∧ (no.toNat : Int) = no) := f6
    have cD : Hid (∀ (v : Value) (w : World), HoldsB w v (recL op.toNat seq.toNat no.toNat id ++ rs) → Calls Try.prog 16 #[v] w fun e w' => e = .returned (.tuple #[recV seq op no id, .int .i64 ((15 + id.length : Nat) : Int), .int .i64 0]) ∧ Below w.heap.size w w') := fun v w h => by
      have h2 := decC v _ w h (by rw [List.length_append, RL.out]; omega)
      rw [D1.out] at h2
      unfold decV at h2
      dsimp only at h2
      rw [e1.out.1, e1.out.2.1, e1.out.2.2, Nat.add_comm id.length 15] at h2
      exact h2
    have cC : Hid (∀ (k : Nat) (v : Value) (w : World), k < 15 + id.length → HoldsB w v ((recL op.toNat seq.toNat no.toNat id).take k) → Calls Try.prog 16 #[v] w fun e w' => e = .returned (.tuple #[recV 0 0 0 [], .int .i64 0, .int .i64 0]) ∧ Below w.heap.size w w') := fun k v w hk h => by
      have h2 := decC v _ w h (by rw [List.length_take, RL.out]; omega)
      rw [D2.out k (by omega)] at h2
      exact h2
    generalize recL op.toNat seq.toNat no.toNat id = L at cE RL cD cC
    have hml : 15 + id.length ≤ 4111 := by omega
    unfold recV at cE cD cC ⊢
    generalize 15 + id.length = m at RL cD cC hml
    clear he f1 f2 f3 f4 f5 f6 D1 D2 e1
    go_enter Try.func6, Try.ntmps6
    go_wp2_with fail
    rw [← HB0.out]
    refine (aliveC B0).mono ?_
    rintro e w1 ⟨rfl, b1⟩
    obtain ⟨q0, q1, q2, q3, -, -, -, -, qz⟩ := quad_below HQ.out b1
    have HQ1 := hide' (quad_below HQ.out b1)
    have B1 := hide' (LB.out.trans (b1.mono LB.out.size))
    have V1 := hide' (holdsB_mono HV.out b1)
    clear b1
    go_wp2_with fail
    refine (cE.out w1).mono ?_
    rintro e w2 ⟨a, rfl, ho⟩
    have HQ2 := hide' (quad_below HQ1.out ho.2)
    have B2 := hide' (B1.out.trans (ho.2.mono B1.out.size))
    have V2 := hide' (holdsB_mono V1.out ho.2)
    have A2 := hide' (holdsB_own ho)
    obtain ⟨ao, cap, hav, hnil, hcp, hc⟩ := holdsB_own ho
    rw [RL.out] at hav
    subst hav
    clear ho q0 q1 q2 q3 qz hnil hc
    go_wp2_with fail
    refine (copyB _ L w2 A2.out (by rw [RL.out]; omega)).mono ?_
    rintro e w3 ⟨u, rfl, ho3⟩
    have HQ3 := hide' (quad_below HQ2.out ho3.2)
    have V3 := hide' (holdsB_mono V2.out ho3.2)
    have O3 := hide' ho3
    clear ho3
    go_wp2_with (at_builtin; refine appAllW rfl (.tmp 30) (.tmp 31) rfl w2 _ _ rfl O3.out rv rs rfl V3.out (by rw [RL.out]; omega) ?_; intro v4 w4 ho4; have O4 := hide' ho4; clear ho4)
    have HQ4 := hide' (quad_below HQ2.out O4.out.2)
    have B4 := hide' (B2.out.trans (O4.out.2.mono B2.out.size))
    have A4 := hide' (holdsB_mono A2.out O4.out.2)
    refine (cD.out v4 w4 (holdsB_own O4.out)).mono ?_
    rintro e w5 ⟨rfl, b5⟩
    have HQ5 := quad_below HQ4.out b5
    have B5 := hide' (B4.out.trans (b5.mono B4.out.size))
    have A5 := hide' (holdsB_mono A4.out b5)
    have Y := quad_lit w5 (.int .i64 seq) (.int .i64 op) (.int .i64 no) (.string ⟨id.toArray⟩) 29
    have ba := below_alloc' w5 (.cells #[.int .i64 seq, .int .i64 op, .int .i64 no, .string ⟨id.toArray⟩] 29)
    have B6 := hide' (B5.out.trans (ba.mono B5.out.size))
    have A6 := hide' (holdsB_mono A5.out ba)
    obtain ⟨z0, z1, z2, z3, -, -, -, -, zz⟩ := quad_below HQ5 ba
    have HY := hide' Y
    clear b5 ba Y HQ5
    by_cases hin : 0 ≤ i ∧ i < (m : Int)
    · obtain ⟨k, rfl⟩ : ∃ k : Nat, i = k := ⟨i.toNat, by omega⟩
      have hk : k < m := by omega
      have hd1 : decide ((k : Int) < 0) = false := by simp
      have hd2 : decide ((m : Int) ≤ (k : Int)) = false := by simp; omega
      obtain ⟨pv, hs, hp⟩ := takeB A6.out k (by rw [RL.out]; omega)
      have P6 := hide' hp
      clear hp hin
      go_wp2_with fail
      obtain ⟨C6, hC6⟩ : ∃ C6, C6 = w5.alloc (.cells #[.int .i64 seq, .int .i64 op, .int .i64 no, .string ⟨id.toArray⟩] 29) := ⟨_, rfl⟩
      rw [← hC6] at HY B6 P6 ⊢
      clear z0 z1 z2 z3 zz hC6 A6
      refine (cC.out k pv C6 hk P6.out).mono ?_
      rintro e w7 ⟨rfl, b7⟩
      have B7 := hide' (B6.out.trans (b7.mono B6.out.size))
      have HY7 := hide' (quad_below HY.out b7)
      obtain ⟨y0, y1, y2, y3, g0, g1, g2, g3, yz⟩ := HY7.out
      obtain ⟨p0, p1, p2, p3⟩ := quad_store HY7.out (.int .i64 0) (.int .i64 0) (.int .i64 0) (.string ⟨#[]⟩)
      have qb := put4_below B7.out (show W.heap.size ≤ w5.heap.size from B5.out.size) (.int .i64 0) (.int .i64 0) (.int .i64 0) (.string ⟨#[]⟩)
      unfold put4 at p0 p1 p2 p3 qb
      have QB := hide' qb
      clear b7 qb hs
      go_wp2_with fail
      go_ret
      exact ⟨rfl, QB.out⟩
    · have cases2 : decide (i < 0) = true ∨ (decide (i < 0) = false ∧ decide ((m : Int) ≤ i) = true) := by
        by_cases a1 : i < 0
        · left; simpa using a1
        · right; exact ⟨by simpa using a1, by simp; omega⟩
      clear hin
      rcases cases2 with d1 | ⟨d1, d2⟩
      · go_wp2_with fail
        go_ret
        exact ⟨rfl, B6.out⟩
      · go_wp2_with fail
        go_ret
        exact ⟨rfl, B6.out⟩
  · have hE := enc_err he
    have hne : ((encOf seq op no id).2 != 0) = true := by simpa using he
    rw [hE] at cE
    generalize (encOf seq op no id).2 = er at cE hne
    unfold recV at cE ⊢
    clear he hE
    go_enter Try.func6, Try.ntmps6
    go_wp2_with fail
    rw [← HB0.out]
    refine (aliveC B0).mono ?_
    rintro e w1 ⟨rfl, b1⟩
    obtain ⟨q0, q1, q2, q3, -, -, -, -, qz⟩ := quad_below HQ.out b1
    have B1 := hide' (LB.out.trans (b1.mono LB.out.size))
    clear b1
    go_wp2_with fail
    refine (cE.out w1).mono ?_
    rintro e w2 ⟨a, rfl, ho⟩
    have B2 := hide' (B1.out.trans (ho.2.mono B1.out.size))
    obtain ⟨ao, cap, rfl, hnil, hcp, hc⟩ := holdsB_own ho
    rw [List.length_nil]
    clear ho q0 q1 q2 q3 qz hc hnil
    go_wp2_with fail
    go_ret
    exact ⟨rfl, B2.out⟩
end Go.Proofs.Ytnbidckmekmcfaa
