/- The contracts of bytes.Equal and object.Decode. Sizes of an entry that is right; what a law's walk over entries needs besides. -/
import Derived.Test.YtibjcofbhldenaaGreatDoorZ14
import Derived.Test.YtibjcofbhldenaaGreatDoorZ26
import Derived.Test.YtibjcofbhldenaaGreatDoorZ17
import Derived.Test.YtibjcofbhldenaaGreatDoorZ28
namespace Go.Proofs.YtibjcofbhldenaaGreatDoor
open Go.RowKit
set_option maxHeartbeats 1000000 in
theorem bequalC (va vb : Value) (xs ys : List UInt8) (w : World) (ha : HoldsB w va xs) (hb : HoldsB w vb ys) :
    Calls Tryz.prog 164 #[va, vb] w fun e w' => e = .returned (.bool (decide (xs = ys))) ∧ w' = w := by
  have h1 := conv_holds ha
  have h2 := conv_holds hb
  by_cases h : xs = ys
  · subst h
    have H : Hid (decide (xs = xs) = true) := by unfold Hid; simp
    generalize (⟨xs.toArray⟩ : ByteArray) = X at h1 h2
    clear ha hb
    go_enter Tryz.func164, Tryz.ntmps164
    go_wp2
    go_ret
    try rw [H.out]
    exact ⟨rfl, rfl⟩
  · have H : Hid (decide (xs = ys) = false) := by unfold Hid; simp [h]
    have e3 := (ba_ne ⟨xs.toArray⟩ ys (by simpa using h)).2
    generalize (⟨xs.toArray⟩ : ByteArray) = X at h1 e3
    generalize (⟨ys.toArray⟩ : ByteArray) = Y at h2 e3
    clear ha hb h
    go_enter Tryz.func164, Tryz.ntmps164
    go_wp2
    go_ret
    try rw [H.out]
    exact ⟨rfl, rfl⟩
theorem lineR_rl (l : List UInt8) : (lineR l).1.r.length ≤ l.length := by
  unfold lineR
  have h1 := past_len l
  have h2 := past_len (past l)
  split
  · exact Nat.zero_le _
  · split
    · split
      · show (past (past l)).length ≤ _; omega
      · exact Nat.zero_le _
    · exact Nat.zero_le _
theorem resp_sizes (b : List UInt8) : (respOf b).1.fs.length ≤ 100 ∧ (printOf (respOf b).1.fs).length ≤ 2 * b.length ∧ (respOf b).1.r.length ≤ b.length := by
  unfold respOf
  split
  · exact ⟨Nat.zero_le _, Nat.zero_le _, Nat.zero_le _⟩
  · generalize (endOf b 0).1 = n
    have hh : (headH b 0 n).length ≤ b.length := by unfold headH; rw [List.length_drop, List.length_take]; omega
    have hb : (blkH (headH b 0 n)).length ≤ b.length := by unfold blkH; rw [List.length_drop]; omega
    have hl : (lineH (headH b 0 n)).length ≤ b.length := by unfold lineH; rw [List.length_take]; omega
    have h1 := parse_len (blkH (headH b 0 n))
    have h2 := parse_plen (blkH (headH b 0 n))
    have h3 := lineR_rl (lineH (headH b 0 n))
    unfold respG
    split
    · exact ⟨Nat.zero_le _, Nat.zero_le _, Nat.zero_le _⟩
    · split
      · exact ⟨Nat.zero_le _, Nat.zero_le _, Nat.zero_le _⟩
      · exact ⟨h1, Nat.le_trans h2 (by omega), Nat.le_trans h3 hl⟩
theorem fit_of {fs : FL} {n : Nat} (h : (printOf fs).length ≤ n) (hn : n ≤ 1000000000) : Fit fs := by
  intro f hf
  have := print_mem fs f hf
  omega
theorem read_sizes {bs : List UInt8} {en : En} (h : readE bs = some en) (hl : bs.length ≤ 100000) : en.key.length ≤ 100000 ∧ en.vary.length ≤ 100000 ∧ en.body.length ≤ 100000 ∧ en.r.fs.length ≤ 100 ∧ (printOf en.r.fs).length ≤ 200000 ∧ en.r.r.length ≤ 100000 := by
  unfold readE at h
  split at h
  · cases h
  · cases h2 : secsN 5 (bs.drop 3) with
    | none => rw [h2] at h; cases h
    | some p =>
      obtain ⟨ds, r⟩ := p
      rw [h2] at h
      have h' : entR ds = some en := h
      obtain ⟨i1, -⟩ := secsN_lens 5 h2
      have hd : (bs.drop 3).length ≤ 100000 := by rw [List.length_drop]; omega
      have L := fun i => getD_len i1 i
      unfold entR at h'
      split at h'
      · obtain rfl := Option.some.inj h'
        have h3 := resp_sizes (ds.getD 2 [])
        have a0 := L 0
        have a1 := L 1
        have a2 := L 2
        have a3 := L 3
        exact ⟨by show (ds.getD 0 []).length ≤ 100000; omega, by show (ds.getD 1 []).length ≤ 100000; omega, by show (ds.getD 3 []).length ≤ 100000; omega, h3.1, by show (printOf (respOf (ds.getD 2 [])).1.fs).length ≤ 200000; omega, by show (respOf (ds.getD 2 [])).1.r.length ≤ 100000; omega⟩
      · cases h'
/-- an entry's block -/
def entO (en : En) (la : Option Addr) (lc : Nat) (ba : Option Addr) (bc : Nat) : Obj := .cells #[.string ⟨en.key.toArray⟩, .string ⟨en.vary.toArray⟩, .int .i64 en.r.s, .string ⟨en.r.r.toArray⟩, .int .i64 en.r.k, .slice la en.r.fs.length lc, .slice ba en.body.length bc, .int .i64 en.a, .int .i64 en.g] 59
/-- what Decode tells -/
def DecA (w : World) (D : En × Int) (e : Ending) (w' : World) : Prop :=
  ∃ lv bv, e = .returned (.tuple #[entV D.1 lv bv, .int .i64 D.2]) ∧ OwnF w lv D.1.r.fs w' ∧ Own w bv D.1.body w'
theorem decA_none {w w' : World} (hb : Below w.heap.size w w') : DecA w (En.zero, 120) (.returned (.tuple #[ezV, .int .i64 120])) w' :=
  ⟨.slice none 0 0, .slice none 0 0, rfl, ownF_nil _ _ hb, own_nil _ _ hb⟩
theorem dec_rd0 {l : List UInt8} (h : readE l = none) : decO l = (En.zero, 120) := by unfold decO; rw [h]; rfl
theorem dec_rd1 {l : List UInt8} {e : En} (h : readE l = some e) (h2 : objOf e = (l, 0)) : decO l = (e, 0) := by unfold decO; rw [h]; exact if_pos h2
theorem dec_rd2 {l : List UInt8} {e : En} (h : readE l = some e) (h2 : ¬ objOf e = (l, 0)) : decO l = (En.zero, 120) := by unfold decO; rw [h]; exact if_neg h2
set_option maxRecDepth 20000 in
set_option maxHeartbeats 8000000 in
theorem decOC (v : Value) (bs : List UInt8) (w : World) (hv : HoldsB w v bs) (hl : bs.length ≤ 1000000000000000) (E : Env w) (T : Tab w) :
    Calls Tryz.prog 126 #[v] w fun e w' => DecA w (decO bs) e w' := by
  have HV := hide' hv
  obtain ⟨ao, cap, rfl, _, hcp, _⟩ := hv
  obtain ⟨n, hn⟩ : ∃ n, n = bs.length := ⟨_, rfl⟩
  have N1 : Hid (bs.length = n) := hn.symm
  rw [← hn] at HV hcp hl ⊢
  clear hn
  have b0 := below_alloc' w (.cells #[.string ⟨#[]⟩, .string ⟨#[]⟩, .int .i64 0, .string ⟨#[]⟩, .int .i64 0, .slice none 0 0, .slice none 0 0, .int .i64 0, .int .i64 0] 59)
  have q0 := cells_lit w #[.string ⟨#[]⟩, .string ⟨#[]⟩, .int .i64 0, .string ⟨#[]⟩, .int .i64 0, .slice none 0 0, .slice none 0 0, .int .i64 0, .int .i64 0] 59
  by_cases h8 : 81968 < n
  · have BAD : Hid (decO bs = (En.zero, 120)) := dec_long (.inr (by rw [N1.out]; exact h8))
    have d8 : decide ((81968 : Int) < (n : Int)) = true := by simp; omega
    have ZB := hide' b0
    clear h8 q0 b0 HV
    go_enter Tryz.func126, Tryz.ntmps126
    go_wp2_with fail
    exact bodyPost_ret (v := .tuple #[ezV, .int .i64 120]) (by simp [results, Tryz.results126, go_sem, ezV]) rfl (by rw [BAD.out]; exact decA_none ZB.out)
  have d8 : decide ((81968 : Int) < (n : Int)) = false := by simp; omega
  have LN : Hid (bs.length ≤ 100000) := by unfold Hid; rw [N1.out]; omega
  have cR := hide' (readOC _ bs _ (holdsB_mono HV.out b0) LN.out (env_below E b0))
  obtain ⟨W0, hW0⟩ : ∃ W0, W0 = w.alloc (.cells #[.string ⟨#[]⟩, .string ⟨#[]⟩, .int .i64 0, .string ⟨#[]⟩, .int .i64 0, .slice none 0 0, .slice none 0 0, .int .i64 0, .int .i64 0] 59) := ⟨_, rfl⟩
  have HW0 := hide' hW0
  rw [← hW0] at b0 q0 cR
  obtain ⟨q, hq⟩ : ∃ q, q = w.heap.size := ⟨_, rfl⟩
  have HQ := hide' hq
  rw [← hq] at q0
  have B0 := hide' b0
  have Q0 : Hid (Blk q W0 [.string ⟨#[]⟩, .string ⟨#[]⟩, .int .i64 0, .string ⟨#[]⟩, .int .i64 0, .slice none 0 0, .slice none 0 0, .int .i64 0, .int .i64 0]) := q0
  have Q0L : Hid (q < W0.heap.size) := q0.2
  have QLE : Hid (w.heap.size ≤ q) := by unfold Hid; omega
  have HT := hide' T
  have V0 := hide' (holdsB_mono HV.out b0)
  clear hW0 hq b0 q0 h8 E T HV
  go_enter Tryz.func126, Tryz.ntmps126
  go_wp2_with fail
  rw [← HW0.out, ← HQ.out]
  refine cR.out.mono ?_
  rintro e w1 ⟨hb1, hA⟩
  have B1 := hide' hb1
  have Q1 := hide' (cells_below Q0.out hb1)
  clear cR hb1 Q0
  rcases hA with ⟨hrd, rfl⟩ | ⟨en, lv, bv, hrd, rfl, hF, hB⟩
  · have BAD := hide' (dec_rd0 hrd)
    unfold ezV
    have bd := below_alloc' w1 (.cells #[.string ⟨#[]⟩, .string ⟨#[]⟩, .int .i64 0, .string ⟨#[]⟩, .int .i64 0, .slice none 0 0, .slice none 0 0, .int .i64 0, .int .i64 0] 59)
    have Q2 := hide' (cells_below Q1.out bd)
    obtain ⟨⟨z0, z1, z2, z3, z4, z5, z6, z7, z8⟩, ⟨f0, f1, f2, f3, f4, f5, f6, f7, f8⟩⟩ := cells_nine Q2.out
    have zq := cells_put Q2.out [.string ⟨#[]⟩, .string ⟨#[]⟩, .int .i64 0, .string ⟨#[]⟩, .int .i64 0, .slice none 0 0, .slice none 0 0, .int .i64 0, .int .i64 0] rfl
    have zb := put_below (w := w) QLE.out [.string ⟨#[]⟩, .string ⟨#[]⟩, .int .i64 0, .string ⟨#[]⟩, .int .i64 0, .slice none 0 0, .slice none 0 0, .int .i64 0, .int .i64 0] 0 _ (bt' B0.out (bt' B1.out bd))
    rw [put_nine] at zq zb
    have ZQ := hide' zq
    have ZB := hide' zb
    clear bd zq zb Q1 Q2 hrd
    go_wp2_with fail
    obtain ⟨⟨x0, x1, x2, x3, x4, x5, x6, x7, x8⟩, -⟩ := cells_nine ZQ.out
    exact bodyPost_ret (v := .tuple #[ezV, .int .i64 120]) (by simp [results, Tryz.results126, go_sem, ezV, x0, x1, x2, x3, x4, x5, x6, x7, x8]) rfl (by rw [BAD.out]; exact decA_none ZB.out)
  · obtain ⟨s1, s2, s3, s4, s5, s6⟩ := read_sizes hrd LN.out
    have hfit := fit_of s5 (by decide)
    have D1 := hide' (fun h => dec_rd1 hrd h)
    have D2 := hide' (fun h => dec_rd2 hrd h)
    obtain ⟨la, lc, _, _, e1, _⟩ := holdsF_parts (holdsF_own hF)
    obtain ⟨ba, bc, e2, _⟩ := holdsB_parts (holdsB_own hB)
    subst e1 e2
    have bd := below_alloc' w1 (entO en la lc ba bc)
    have cE := hide' (encOC en (.slice la en.r.fs.length lc) (.slice ba en.body.length bc) _ (holdsF_mono (holdsF_own hF) bd) (holdsB_mono (holdsB_own hB) bd) (tab_below HT.out (bt' B0.out (bt' B1.out bd))) hfit (by omega) (by omega) (by omega) (by omega) (by omega) (by omega))
    have hob := obj_two en
    have hpe := hide' hob
    have HF := hide' hF
    have HB := hide' hB
    clear hF hB hrd hfit s1 s2 s3 s4 s5 s6 hob
    unfold entV at cE ⊢
    unfold entO at bd cE
    generalize objOf en = OE at cE D1 D2 hpe
    obtain ⟨key, vary, ⟨s, r, k, fs⟩, body, a0, g0⟩ := en
    obtain ⟨ol, oe⟩ := OE
    dsimp only at *
    have B2 := hide' (bt' B1.out bd)
    have Q2 := hide' (cells_below Q1.out bd)
    have P2 := hide' (cells_lit w1 #[.string ⟨key.toArray⟩, .string ⟨vary.toArray⟩, .int .i64 s, .string ⟨r.toArray⟩, .int .i64 k, .slice la fs.length lc, .slice ba body.length bc, .int .i64 a0, .int .i64 g0] 59)
    have F2 := hide' (ownF_mono HF.out bd)
    have R2 := hide' (own_mono HB.out bd)
    clear bd Q1 HF HB
    go_wp2_with fail
    generalize hw2 : w1.alloc (.cells #[.string ⟨key.toArray⟩, .string ⟨vary.toArray⟩, .int .i64 s, .string ⟨r.toArray⟩, .int .i64 k, .slice la fs.length lc, .slice ba body.length bc, .int .i64 a0, .int .i64 g0] 59) = w2 at *
    generalize hp : w1.heap.size = p at *
    clear hw2 hp
    refine cE.out.mono ?_
    rintro e w3 ⟨u, rfl, ho⟩
    have B3 := hide' (bt' B2.out ho.2)
    have Q3 := hide' (cells_below Q2.out ho.2)
    have P3 : Hid (Blk p w3 [.string ⟨key.toArray⟩, .string ⟨vary.toArray⟩, .int .i64 s, .string ⟨r.toArray⟩, .int .i64 k, .slice la fs.length lc, .slice ba body.length bc, .int .i64 a0, .int .i64 g0]) := cells_below P2.out ho.2
    have F3 := hide' (ownF_mono F2.out ho.2)
    have R3 := hide' (own_mono R2.out ho.2)
    have U3 := hide' (holdsB_own ho)
    clear ho cE Q2 P2 F2 R2 B2
    obtain ⟨⟨z0, z1, z2, z3, z4, z5, z6, z7, z8⟩, ⟨f0, f1, f2, f3, f4, f5, f6, f7, f8⟩⟩ := cells_nine Q3.out
    have zq := cells_put Q3.out [.string ⟨#[]⟩, .string ⟨#[]⟩, .int .i64 0, .string ⟨#[]⟩, .int .i64 0, .slice none 0 0, .slice none 0 0, .int .i64 0, .int .i64 0] rfl
    have zb := put_below (w := w) QLE.out [.string ⟨#[]⟩, .string ⟨#[]⟩, .int .i64 0, .string ⟨#[]⟩, .int .i64 0, .slice none 0 0, .slice none 0 0, .int .i64 0, .int .i64 0] 0 _ (bt' B0.out B3.out)
    rw [put_nine] at zq zb
    have ZQ := hide' zq
    have ZB := hide' zb
    clear zq zb
    by_cases hoe : ¬ oe = 0
    · have doe : (oe != 0) = true := by simpa using hoe
      have BAD := hide' (D2.out (fun h => hoe (Prod.mk.inj h).2))
      clear hoe
      go_wp2_with fail
      obtain ⟨⟨x0, x1, x2, x3, x4, x5, x6, x7, x8⟩, -⟩ := cells_nine ZQ.out
      exact bodyPost_ret (v := .tuple #[ezV, .int .i64 120]) (by simp [results, Tryz.results126, go_sem, ezV, x0, x1, x2, x3, x4, x5, x6, x7, x8]) rfl (by rw [BAD.out]; exact decA_none ZB.out)
    have hoe' : oe = 0 := by simpa using hoe
    subst hoe'
    clear hoe
    go_wp2_with fail
    refine (bequalC u _ ol bs w3 U3.out (holdsB_mono V0.out B3.out)).mono ?_
    rintro e wz ⟨rfl, ew⟩
    rw [ew]
    clear ew wz
    by_cases heq : ol = bs
    · have dq : decide (ol = bs) = true := by simpa using heq
      have GOOD := hide' (D1.out (by rw [heq]))
      rw [dq]
      clear heq dq ZQ ZB
      obtain ⟨⟨y0, y1, y2, y3, y4, y5, y6, y7, y8⟩, -⟩ := cells_nine P3.out
      have zq := cells_put Q3.out [.string ⟨key.toArray⟩, .string ⟨vary.toArray⟩, .int .i64 s, .string ⟨r.toArray⟩, .int .i64 k, .slice la fs.length lc, .slice ba body.length bc, .int .i64 a0, .int .i64 g0] rfl
      have zb := put_below (w := w) QLE.out [.string ⟨key.toArray⟩, .string ⟨vary.toArray⟩, .int .i64 s, .string ⟨r.toArray⟩, .int .i64 k, .slice la fs.length lc, .slice ba body.length bc, .int .i64 a0, .int .i64 g0] 0 _ (bt' B0.out B3.out)
      have rF := row_base (row_putFrom Q0L.out [.string ⟨key.toArray⟩, .string ⟨vary.toArray⟩, .int .i64 s, .string ⟨r.toArray⟩, .int .i64 k, .slice la fs.length lc, .slice ba body.length bc, .int .i64 a0, .int .i64 g0] 0 _ F3.out.1) B0.out.size
      have rO := row_base (row_putFrom Q0L.out [.string ⟨key.toArray⟩, .string ⟨vary.toArray⟩, .int .i64 s, .string ⟨r.toArray⟩, .int .i64 k, .slice la fs.length lc, .slice ba body.length bc, .int .i64 a0, .int .i64 g0] 0 _ R3.out.1) B0.out.size
      rw [put_nine] at zq zb rF rO
      have ZQ := hide' zq
      have FIN : Hid (DecA w (⟨key, vary, ⟨s, r, k, fs⟩, body, a0, g0⟩, 0) (.returned (.tuple #[.agg #[.string ⟨key.toArray⟩, .string ⟨vary.toArray⟩, .int .i64 s, .string ⟨r.toArray⟩, .int .i64 k, .slice la fs.length lc, .slice ba body.length bc, .int .i64 a0, .int .i64 g0], .int .i64 0])) _) := ⟨_, _, rfl, ⟨rF, zb⟩, ⟨rO, zb⟩⟩
      clear zq zb rF rO
      go_wp2_with fail
      obtain ⟨⟨x0, x1, x2, x3, x4, x5, x6, x7, x8⟩, -⟩ := cells_nine ZQ.out
      exact bodyPost_ret (v := .tuple #[.agg #[.string ⟨key.toArray⟩, .string ⟨vary.toArray⟩, .int .i64 s, .string ⟨r.toArray⟩, .int .i64 k, .slice la fs.length lc, .slice ba body.length bc, .int .i64 a0, .int .i64 g0], .int .i64 0]) (by simp [results, Tryz.results126, go_sem, x0, x1, x2, x3, x4, x5, x6, x7, x8]) rfl (by rw [GOOD.out]; exact FIN.out)
    · have dq : decide (ol = bs) = false := by simpa using heq
      have BAD := hide' (D2.out (fun h => heq (Prod.mk.inj h).1))
      rw [dq]
      clear heq dq
      go_wp2_with fail
      obtain ⟨⟨x0, x1, x2, x3, x4, x5, x6, x7, x8⟩, -⟩ := cells_nine ZQ.out
      exact bodyPost_ret (v := .tuple #[ezV, .int .i64 120]) (by simp [results, Tryz.results126, go_sem, ezV, x0, x1, x2, x3, x4, x5, x6, x7, x8]) rfl (by rw [BAD.out]; exact decA_none ZB.out)
end Go.Proofs.YtibjcofbhldenaaGreatDoor
namespace Go.Proofs.YtibjcofbhldenaaGreatDoor
open Go.RowKit
theorem obj_sizes {e : En} {l : List UInt8} (h : objOf e = (l, 0)) : e.r.fs.length ≤ 100 ∧ (printOf e.r.fs).length ≤ 8192 ∧ e.r.r.length ≤ 8192 ∧ e.key.length ≤ 4096 ∧ e.vary.length ≤ 4096 ∧ e.body.length ≤ 65536 := by
  obtain ⟨h1, h2, -⟩ := obj_ok h
  have hw := within_facts h1
  have hp : (prR e.r).2 = 0 := by rw [h2]
  unfold prR at hp
  split at hp
  · cases hp
  · split at hp
    · cases hp
    · obtain ⟨q1, q2, -⟩ := whole_parts (line := lineS e.r) (fs := e.r.fs) (w := (wholeP (lineS e.r) e.r.fs).1) (Prod.ext rfl hp)
      obtain ⟨q3, -⟩ := printP_parts e.r.fs q1
      rw [q3] at q2
      have q4 : e.r.r.length ≤ (lineS e.r).length := by unfold lineS; simp only [List.length_append, List.length_cons]; omega
      have q5 : e.r.fs.length ≤ 100 := by
        unfold printP at q1
        split at q1
        · cases q1
        · split at q1
          · cases q1
          · omega
      exact ⟨q5, by omega, by omega, hw.2.1, hw.2.2.1, hw.2.2.2.1⟩
/-- an entry's bounds, as the calls want them -/
structure Bnd (e : En) : Prop where
  fit : Fit e.r.fs
  n : e.r.fs.length ≤ 2000000
  p : (printOf e.r.fs).length ≤ 8000000
  r : e.r.r.length ≤ 10000000
  k : e.key.length ≤ 1000000000000
  v : e.vary.length ≤ 1000000000000
  b : e.body.length ≤ 1000000000000
theorem bnd_obj {e : En} {l : List UInt8} (h : objOf e = (l, 0)) : Bnd e := by
  obtain ⟨h1, h2, h3, h4, h5, h6⟩ := obj_sizes h
  exact ⟨fit_of h2 (by decide), by omega, by omega, by omega, by omega, by omega, by omega⟩
theorem bulk_count : ∀ fs : FL, fs.length ≤ bulkF fs := by
  intro fs
  induction fs with
  | nil => exact Nat.zero_le _
  | cons f fs ih => simp only [bulkF, List.length_cons]; omega
theorem bnd_of {e : En} {n : Nat} (h : e.key.length + e.vary.length + e.r.r.length + bulkF e.r.fs + e.body.length + 5 ≤ n) (hn : n ≤ 1048576) : Bnd e := by
  have h1 := print_bulk e.r.fs
  have h2 := bulk_count e.r.fs
  exact ⟨fit_of (n := 2097152) (by omega) (by decide), by omega, by omega, by omega, by omega, by omega, by omega⟩
theorem encB {e : En} (B : Bnd e) (lv bv : Value) (w : World) (hF : HoldsF w lv e.r.fs) (hB : HoldsB w bv e.body) (T : Tab w) :
    Calls Tryz.prog 64 #[entV e lv bv] w fun x w' => ∃ u, x = .returned (.tuple #[u, .int .i64 (objOf e).2]) ∧ Own w u (objOf e).1 w' :=
  encOC e lv bv w hF hB T B.fit B.n (Nat.le_trans B.p (by decide)) B.r B.k B.v B.b
theorem copyEB {e : En} (B : Bnd e) (lv bv : Value) (w : World) (hF : HoldsF w lv e.r.fs) (hB : HoldsB w bv e.body) :
    Calls Tryz.prog 17 #[entV e lv bv] w fun x w' => ∃ lu bu, x = .returned (entV e lu bu) ∧ OwnF w lu e.r.fs w' ∧ Own w bu e.body w' :=
  copyEC e lv bv w hF hB B.n (Nat.le_trans B.b (by decide))
theorem sameEB {e : En} (B : Bnd e) (lva lvb bva bvb : Value) (w : World) (hFa : HoldsF w lva e.r.fs) (hFb : HoldsF w lvb e.r.fs) (hBa : HoldsB w bva e.body) (hBb : HoldsB w bvb e.body) :
    Calls Tryz.prog 20 #[entV e lva bva, entV e lvb bvb] w fun x w' => x = .returned (.bool true) ∧ Below w.heap.size w w' :=
  sameEC e lva lvb bva bvb w hFa hFb hBa hBb B.n (Nat.le_trans B.b (by decide))
end Go.Proofs.YtibjcofbhldenaaGreatDoor
