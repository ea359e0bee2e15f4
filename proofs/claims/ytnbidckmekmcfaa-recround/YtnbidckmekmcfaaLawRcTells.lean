/- The walk of RecTells. -/
import Derived.Test.YtnbidckmekmcfaaRcA
import Derived.Test.YtnbidckmekmcfaaRcI
import Derived.Test.YtnbidckmekmcfaaRcQ
namespace Go.Proofs.Ytnbidckmekmcfaa
open Go.RowKit
theorem u8_xorB (c t : UInt8) : bits .xor .u8 (c.toNat : Int) (t.toNat : Int) = ((c ^^^ t).toNat : Int) := by
  rw [u8_xor_nat c.toNat t.toNat c.toNat_lt t.toNat_lt, UInt8.toNat_xor]
theorem holds_set {w : World} {b off cap n : Nat} {bs : List UInt8} (hn : bs.length = n) (i : Nat) (hi : i < bs.length) (c : UInt8) (hcp : bs.length ≤ cap) (hlt : b < w.heap.size) (hcell : ∀ j (h : j < bs.length), w.cell? ⟨b, off + j, none⟩ = some (B bs[j])) :
    HoldsB (w.setCell ⟨b, off + i, none⟩ (.int .u8 (c.toNat : Int))) (.slice (some ⟨b, off, none⟩) n cap) (bs.set i c) := by
  subst hn
  have hl : (bs.set i c).length = bs.length := List.length_set
  refine ⟨_, cap, by rw [hl], (fun e => by cases e), by omega, fun _ => ⟨b, off, rfl, by simpa using hlt, fun j hj => ?_⟩⟩
  have hj2 : j < bs.length := by omega
  by_cases h : j = i
  · subst h
    rw [World.cell?_setCell_same _ _ _ (hcell j hj2)]
    simp [B]
  · have hx : (w.setCell ⟨b, off + i, none⟩ (.int .u8 (c.toNat : Int))).cell? ⟨b, off + j, none⟩ = w.cell? ⟨b, off + j, none⟩ := World.cell?_setCell_other _ _ _ _ (by intro e; simp only [Addr.mk.injEq] at e; omega)
    rw [hx, hcell j hj2]
    simp [Ne.symm h]
theorem own_parts {w0 w : World} {v : Value} {bs : List UInt8} (h : Own w0 v bs w) (hne : bs ≠ []) : ∃ b cap, v = .slice (some ⟨b, 0, none⟩) bs.length cap ∧ bs.length ≤ cap ∧ w0.heap.size ≤ b ∧ b < w.heap.size ∧
    (∀ j (h : j < bs.length), w.cell? ⟨b, 0 + j, none⟩ = some (B bs[j])) ∧ ∀ j, w.frozen? ⟨b, j, none⟩ = false := by
  obtain ⟨hl, h1 | ⟨g, cap, cur, rfl, hg, hh, hr⟩⟩ := h.1
  · exact absurd (List.eq_nil_of_length_eq_zero h1.2) hne
  · refine ⟨g, cap, rfl, hr.1, hg, (h.1.lt g rfl).2, fun j hj => ?_, fun j => ?_⟩
    · rw [Nat.zero_add, h.1.cellAt j (by omega)]
      simp [hj]
    · simp [World.frozen?, hh]
theorem enc_err {seq op no : Int} {id : List UInt8} (h : (encOf seq op no id).2 ≠ 0) : (encOf seq op no id).1 = [] := by
  unfold encOf at h ⊢
  split at h
  · split at h
    · exact absurd rfl h
    · rename_i h1 h2
      rw [if_pos h1, if_neg h2]
  · rename_i h1
    rw [if_neg h1]
theorem enc_fine {seq op no : Int} {id : List UInt8} (h : (encOf seq op no id).2 = 0) :
    (op.toNat = 1 ∨ op.toNat = 2) ∧ seq.toNat < 4294967296 ∧ no.toNat < 4294967296 ∧ id.length ≤ 4096 ∧ (encOf seq op no id).1 = recL op.toNat seq.toNat no.toNat id ∧ ((seq.toNat : Int) = seq ∧ (op.toNat : Int) = op ∧ (no.toNat : Int) = no) := by
  unfold encOf at h ⊢
  split at h
  · split at h
    · rename_i h1 h2
      rw [if_pos h1, if_pos h2]
      exact ⟨by omega, by omega, by omega, h2, rfl, by omega, by omega, by omega⟩
    · simp at h
  · simp at h
set_option maxRecDepth 20000 in
set_option maxHeartbeats 4000000 in
theorem tellsW (seq op no : Int) (id : List UInt8) (i : Int) (t : UInt8) (W : World) (hl : id.length ≤ 140737488351232) :
    Calls Try.prog 7 #[recV seq op no id, .int .i64 i, .int .u8 (t.toNat : Int)] W fun e w' => e = .returned (.bool true) ∧ Below W.heap.size W w' := by
  have cE := hide' (fun w => encC seq op no id w (by omega))
  obtain ⟨B0, hB0⟩ : ∃ B0, B0 = W.alloc (.cells #[.int .i64 seq, .int .i64 op, .int .i64 no, .string ⟨id.toArray⟩] 29) := ⟨_, rfl⟩
  have Q0 := quad_lit W (.int .i64 seq) (.int .i64 op) (.int .i64 no) (.string ⟨id.toArray⟩) 29
  have L0 := below_alloc' W (.cells #[.int .i64 seq, .int .i64 op, .int .i64 no, .string ⟨id.toArray⟩] 29)
  have HB0 := hide' hB0
  rw [← hB0] at Q0 L0
  have LB := hide' L0
  have HQ := hide' Q0
  unfold recV at cE ⊢
  have tl := t.toNat_lt
  clear hB0 L0 Q0
  by_cases he : (encOf seq op no id).2 = 0
  · obtain ⟨f1, f2, f3, f4, f5, f6⟩ := enc_fine he
    rw [he, f5] at cE
    have RL := hide' (recL_len op.toNat seq.toNat no.toNat id)
    obtain ⟨L, hL⟩ : ∃ L, L = recL op.toNat seq.toNat no.toNat id := ⟨_, rfl⟩
    have HL := hide' hL
    rw [← hL] at cE RL
    clear he f5 f6 hL
    by_cases hin : 0 ≤ i ∧ i < ((15 + id.length : Nat) : Int) ∧ t ≠ 0
    · obtain ⟨h0, h1, h2⟩ := hin
      obtain ⟨k, rfl⟩ : ∃ k : Nat, i = k := ⟨i.toNat, by omega⟩
      obtain ⟨m, hm⟩ : ∃ m, m = 15 + id.length := ⟨_, rfl⟩
      rw [← hm] at RL h1
      have hk : k < m := by omega
      have hml : m ≤ 4111 := by omega
      have HK : Hid (k < L.length) := by unfold Hid; rw [RL.out]; exact hk
      have hn : Hid ((decOf (L.set k ((L[k]'HK.out) ^^^ t))).n ≠ m) := by
        unfold Hid
        have := HL.out
        subst this
        rw [hm, Nat.add_comm]
        exact dec_tells op.toNat seq.toNat no.toNat id k t HK.out h2
      have cD : Hid (∀ (v : Value) (w : World), HoldsB w v (L.set k ((L[k]'HK.out) ^^^ t)) → Calls Try.prog 16 #[v] w fun e w' => e = .returned (decV (decOf (L.set k ((L[k]'HK.out) ^^^ t)))) ∧ Below w.heap.size w w') := fun v w h => decC v _ w h (by rw [List.length_set, RL.out]; omega)
      generalize decOf (L.set k ((L[k]'HK.out) ^^^ t)) = D at hn cD
      have hdt : ((t.toNat : Int) == 0) = false := by
        simp
        intro e
        exact h2 (UInt8.toNat_inj.1 e)
      have hdt2 : (t.toNat == 0) = false := by
        simp
        intro e
        exact h2 (UInt8.toNat_inj.1 e)
      have hx := u8_xorB (L[k]'HK.out) t
      have hd1 : decide ((k : Int) < 0) = false := by simp
      have hd2 : decide ((m : Int) ≤ (k : Int)) = false := by simp; omega
      clear hm h2
      go_enter Try.func7, Try.ntmps7
      go_wp2_with fail
      rw [← HB0.out]
      refine (aliveC B0).mono ?_
      rintro e w1 ⟨rfl, b1⟩
      obtain ⟨q0, q1, q2, q3, -, -, -, -, qz⟩ := quad_below HQ.out b1
      have B1 := hide' (LB.out.trans (b1.mono LB.out.size))
      clear b1
      go_wp2_with fail
      refine (cE.out w1).mono ?_
      rintro e w2 ⟨a, rfl, ho⟩
      have B2 := hide' (B1.out.trans (ho.2.mono B1.out.size))
      obtain ⟨b, cap, rfl, hcp, hb1, hlt, hcell, hfr⟩ := own_parts ho (fun e => by have := HK.out; rw [e] at this; exact absurd this (Nat.not_lt_zero _))
      have x1 := hcell k HK.out
      unfold B at x1
      rw [Nat.zero_add] at x1
      have HS := hide' (holds_set RL.out k HK.out ((L[k]'HK.out) ^^^ t) hcp hlt hcell)
      rw [Nat.zero_add] at HS
      have f1 := hfr k
      have BS := hide' (B2.out.setCell (p := ⟨b, k, none⟩) (by have := B1.out.size; show W.heap.size ≤ b; omega) (.int .u8 (((L[k]'HK.out) ^^^ t).toNat : Int)))
      rw [RL.out] at hcp ⊢
      generalize L.set k ((L[k]'HK.out) ^^^ t) = L2 at HS cD
      generalize ((L[k]'HK.out) ^^^ t).toNat = y at hx HS BS
      generalize (L[k]'HK.out).toNat = x at x1 hx
      clear ho hcell hfr q0 q1 q2 q3 qz
      go_wp2_with fail
      generalize w2.setCell ⟨b, k, none⟩ (.int .u8 (y : Int)) = w3 at HS BS ⊢
      refine (cD.out _ w3 HS.out).mono ?_
      rintro e w4 ⟨rfl, b4⟩
      have B4 := hide' (BS.out.trans (b4.mono BS.out.size))
      obtain ⟨ds, dop, dn, did, dl, de⟩ := D
      have hnm : ((dl : Int) != (m : Int)) = true := by have := hn.out; dsimp only at this; simp; omega
      have hnm2 : (dl != m) = true := by have := hn.out; dsimp only at this; simp; omega
      unfold decV recV
      dsimp only
      generalize (ds : Int) = y0
      generalize (dop : Int) = y1
      generalize (dn : Int) = y2
      generalize (⟨did.toArray⟩ : ByteArray) = y4
      have ba := below_alloc' w4 (.cells #[.int .i64 y0, .int .i64 y1, .int .i64 y2, .string y4] 29)
      have B5 := hide' (B4.out.trans (ba.mono B4.out.size))
      clear ba b4 hn hx x1 f1
      by_cases he : de = 0
      · subst he
        go_wp2_with fail
        go_ret
        exact ⟨rfl, B5.out⟩
      · have hne : (de != 0) = true := by simpa using he
        by_cases hz : dl = 0
        · subst hz
          go_wp2_with fail
          go_ret
          exact ⟨rfl, B5.out⟩
        · have hnz : ((dl : Int) == 0) = false := by simpa using hz
          go_wp2_with fail
          go_ret
          exact ⟨rfl, B5.out⟩
    · obtain ⟨m, hm⟩ : ∃ m, m = 15 + id.length := ⟨_, rfl⟩
      rw [← hm] at RL hin
      have cases3 : decide (i < 0) = true ∨ (decide (i < 0) = false ∧ decide ((m : Int) ≤ i) = true) ∨ (decide (i < 0) = false ∧ decide ((m : Int) ≤ i) = false ∧ t = 0) := by
        by_cases a1 : i < 0
        · left; simpa using a1
        · by_cases a2 : (m : Int) ≤ i
          · right; left; exact ⟨by simpa using a1, by simpa using a2⟩
          · right; right
            refine ⟨by simpa using a1, by simpa using a2, ?_⟩
            exact Decidable.byContradiction fun h => hin ⟨by omega, by omega, h⟩
      have hml : m ≤ 4111 := by omega
      clear hin hm
      rcases cases3 with d1 | ⟨d1, d2⟩ | ⟨d1, d2, rfl⟩
      all_goals
        go_enter Try.func7, Try.ntmps7
        go_wp2_with fail
        rw [← HB0.out]
        refine (aliveC B0).mono ?_
        rintro e w1 ⟨rfl, b1⟩
        obtain ⟨q0, q1, q2, q3, -, -, -, -, qz⟩ := quad_below HQ.out b1
        have B1 := hide' (LB.out.trans (b1.mono LB.out.size))
        clear b1
        go_wp2_with fail
        refine (cE.out w1).mono ?_
        rintro e w2 ⟨a, rfl, ho⟩
        have B2 := hide' (B1.out.trans (ho.2.mono B1.out.size))
        obtain ⟨ao, cap, rfl, hnil, hcp, hc⟩ := holdsB_own ho
        rw [RL.out] at hcp ⊢
        clear ho hc hnil q0 q1 q2 q3 qz
        go_wp2_with fail
        go_ret
        exact ⟨rfl, B2.out⟩
  · have hE := enc_err he
    have hne : ((encOf seq op no id).2 != 0) = true := by simpa using he
    generalize (encOf seq op no id).2 = er at cE hne
    generalize (encOf seq op no id).1 = L at cE
    clear he hE
    go_enter Try.func7, Try.ntmps7
    go_wp2_with fail
    rw [← HB0.out]
    refine (aliveC B0).mono ?_
    rintro e w1 ⟨rfl, b1⟩
    obtain ⟨q0, q1, q2, q3, -, -, -, -, qz⟩ := quad_below HQ.out b1
    have B1 := hide' (LB.out.trans (b1.mono LB.out.size))
    clear b1
    go_wp2_with fail
    refine (cE.out w1).mono ?_
    rintro e w2 ⟨a, rfl, ho⟩
    have B2 := hide' (B1.out.trans (ho.2.mono B1.out.size))
    clear ho q0 q1 q2 q3 qz
    go_wp2_with fail
    go_ret
    exact ⟨rfl, B2.out⟩
theorem tellsI (seq op no : Int) (id : List UInt8) (i z : Int) (W : World) (hl : id.length ≤ 140737488351232) (hz : (Lit.int .u8 z).wf = true) :
    Calls Try.prog 7 #[recV seq op no id, .int .i64 i, .int .u8 z] W fun e w' => e = .returned (.bool true) ∧ Below W.heap.size W w' := by
  have hb : 0 ≤ z ∧ z ≤ 255 := by
    have h1 : IntKind.u8.min = 0 := rfl
    have h2 : IntKind.u8.max = 255 := rfl
    simp only [Lit.wf, Bool.and_eq_true, decide_eq_true_eq] at hz
    omega
  have e : z = ((UInt8.ofNat z.toNat).toNat : Int) := by rw [ofNat_mod]; omega
  rw [e]
  exact tellsW seq op no id i _ W hl
end Go.Proofs.Ytnbidckmekmcfaa
