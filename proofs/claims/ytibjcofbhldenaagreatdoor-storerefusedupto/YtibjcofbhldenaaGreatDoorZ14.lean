/- The contract of object.readEntry. -/
import Derived.Deep.RegionHeld3
import Derived.Deep.RegionHeldLaw
import Derived.Test.YtibjcofbhldenaaGreatDoorZ13
import Derived.Test.YtibjcofbhldenaaGreatDoorZ12
import Derived.Test.YtibjcofbhldenaaGreatDoorZ01
namespace Go.Proofs.YtibjcofbhldenaaGreatDoor
open Go.RowKit
theorem cells_4O {b : Nat} {W : World} {v0 v1 v2 v3 : Value} (h : Blk b W [v0, v1, v2, v3]) : (W.cell? ⟨b, 0, none⟩ = some v0 ∧ W.cell? ⟨b, 1, none⟩ = some v1 ∧ W.cell? ⟨b, 2, none⟩ = some v2 ∧ W.cell? ⟨b, 3, none⟩ = some v3) :=
  ⟨(h.1 0 (by simp)).1, (h.1 1 (by simp)).1, (h.1 2 (by simp)).1, (h.1 3 (by simp)).1⟩
def ezV : Value := .agg #[.string ⟨#[]⟩, .string ⟨#[]⟩, .int .i64 0, .string ⟨#[]⟩, .int .i64 0, .slice none 0 0, .slice none 0 0, .int .i64 0, .int .i64 0]
/-- what readEntry tells -/
def ReadA (w : World) (bs : List UInt8) (e : Ending) (w' : World) : Prop :=
  Below w.heap.size w w' ∧ ((readE bs = none ∧ e = .returned (.tuple #[ezV, .bool false])) ∨
    ∃ en lv bv, readE bs = some en ∧ e = .returned (.tuple #[entV en lv bv, .bool true]) ∧ OwnF w lv en.r.fs w' ∧ Own w bv en.body w')
theorem read_no1 {bs : List UInt8} (h : bs.length < 3 ∨ secsN 5 (bs.drop 3) = none) : readE bs = none := by
  unfold readE
  rcases h with h | h
  · rw [if_pos h]
  · split
    · rfl
    · rw [h]; rfl
theorem read_is {bs : List UInt8} {ds : List (List UInt8)} {r : List UInt8} (hl : 3 ≤ bs.length) (h : secsN 5 (bs.drop 3) = some (ds, r)) : readE bs = entR ds := by
  unfold readE
  rw [if_neg (by omega), h]; rfl
theorem ent_no1 {ds : List (List UInt8)} (h : (ds.getD 4 []).length ≠ 16) : entR ds = none := by unfold entR; rw [if_neg (fun g => h g.1)]
theorem ent_no2 {ds : List (List UInt8)} (h : (respOf (ds.getD 2 [])).2.2 ≠ 0) : entR ds = none := by unfold entR; rw [if_neg (fun g => h g.2)]
theorem ent_yes {ds : List (List UInt8)} (h : (ds.getD 4 []).length = 16) (h2 : (respOf (ds.getD 2 [])).2.2 = 0) : entR ds = some ⟨ds.getD 0 [], ds.getD 1 [], (respOf (ds.getD 2 [])).1, ds.getD 3 [], num8 ((ds.getD 4 []).take 8), num8 ((ds.getD 4 []).drop 8)⟩ := by unfold entR; rw [if_pos ⟨h, h2⟩]
theorem secR_len {l d r : List UInt8} (h : secR l = some (d, r)) : d.length ≤ l.length ∧ r.length ≤ l.length := by
  unfold secR at h
  split at h
  · cases h
  · split at h
    · cases h
    · obtain ⟨rfl, rfl⟩ := Prod.mk.inj (Option.some.inj h)
      unfold midN
      rw [List.length_take, List.length_drop, List.length_drop]
      omega
theorem secsN_lens (k : Nat) {l : List UInt8} {ds : List (List UInt8)} {r : List UInt8} (h : secsN k l = some (ds, r)) : (∀ d ∈ ds, d.length ≤ l.length) ∧ r.length ≤ l.length := by
  induction k generalizing ds r with
  | zero =>
    obtain ⟨rfl, rfl⟩ := Prod.mk.inj (Option.some.inj h)
    exact ⟨fun d hd => absurd hd (List.not_mem_nil), Nat.le_refl _⟩
  | succ k ih =>
    unfold secsN at h
    cases h1 : secsN k l with
    | none => rw [h1] at h; cases h
    | some p =>
      obtain ⟨ds1, r1⟩ := p
      rw [h1] at h
      simp only [Option.bind_some] at h
      obtain ⟨i1, i2⟩ := ih h1
      cases h2 : secR r1 with
      | none => rw [h2] at h; cases h
      | some q =>
        obtain ⟨d, r2⟩ := q
        rw [h2] at h
        simp only [Option.map_some, Option.some.injEq, Prod.mk.injEq] at h
        obtain ⟨rfl, rfl⟩ := h
        have := secR_len h2
        refine ⟨fun x hx => ?_, by omega⟩
        rcases List.mem_append.1 hx with hx | hx
        · exact i1 x hx
        · obtain rfl := List.mem_singleton.1 hx; omega
theorem getD_len {ds : List (List UInt8)} {n : Nat} (h : ∀ d ∈ ds, d.length ≤ n) (i : Nat) : (ds.getD i []).length ≤ n := by
  rw [List.getD_eq_getElem?_getD]
  cases hh : ds[i]? with
  | none => exact Nat.zero_le _
  | some d => exact h d (List.mem_of_getElem? hh)
set_option maxRecDepth 20000 in
set_option maxHeartbeats 8000000 in
theorem readOC (v : Value) (bs : List UInt8) (w : World) (hv : HoldsB w v bs) (hl : bs.length ≤ 100000) (E : Env w) :
    Calls Tryz.prog 163 #[v] w fun e w' => ReadA w bs e w' := by
  have b0 := below_alloc' w (.cells #[.string ⟨#[]⟩, .string ⟨#[]⟩, .int .i64 0, .string ⟨#[]⟩, .int .i64 0, .slice none 0 0, .slice none 0 0, .int .i64 0, .int .i64 0] 59)
  have q0 := cells_lit w #[.string ⟨#[]⟩, .string ⟨#[]⟩, .int .i64 0, .string ⟨#[]⟩, .int .i64 0, .slice none 0 0, .slice none 0 0, .int .i64 0, .int .i64 0] 59
  have cS := hide' (secsOC v bs w _ b0 hv hl)
  obtain ⟨W0, hW0⟩ : ∃ W0, W0 = w.alloc (.cells #[.string ⟨#[]⟩, .string ⟨#[]⟩, .int .i64 0, .string ⟨#[]⟩, .int .i64 0, .slice none 0 0, .slice none 0 0, .int .i64 0, .int .i64 0] 59) := ⟨_, rfl⟩
  have HW0 := hide' hW0
  rw [← hW0] at b0 q0 cS
  obtain ⟨q, hq⟩ : ∃ q, q = w.heap.size := ⟨_, rfl⟩
  have HQ := hide' hq
  rw [← hq] at q0
  have B0 := hide' b0
  have Q0 : Hid (Blk q W0 [.string ⟨#[]⟩, .string ⟨#[]⟩, .int .i64 0, .string ⟨#[]⟩, .int .i64 0, .slice none 0 0, .slice none 0 0, .int .i64 0, .int .i64 0]) := q0
  have Q0L : Hid (q < W0.heap.size) := q0.2
  have QLE : Hid (w.heap.size ≤ q) := by unfold Hid; omega
  have E0 := hide' (env_below E b0)
  have LN := hide' hl
  clear hW0 hq b0 q0 hv hl E
  go_enter Tryz.func163, Tryz.ntmps163
  go_wp2_with fail
  rw [← HW0.out, ← HQ.out]
  refine cS.out.mono ?_
  rintro e w1 ⟨hb1, hA⟩
  have B1 := hide' hb1
  have Q1 := hide' (cells_below Q0.out hb1)
  clear cS hb1 Q0
  rcases hA with ⟨h3, ds, r, p0, p1, p2, p3, p4, hds, rfl, g0, g1, g2, g3, g4⟩ | ⟨hno, p0, p1, p2, p3, p4, rfl, g0, g1, g2, g3, g4⟩
  · obtain ⟨i1, -⟩ := secsN_lens 5 hds
    have LL := hide' (fun i => getD_len i1 i)
    have DL := hide' (show (bs.drop 3).length ≤ 100000 by have := LN.out; rw [List.length_drop]; omega)
    have RD := hide' (read_is h3 hds)
    have G0 := hide' g0
    have G1 := hide' g1
    have G2 := hide' g2
    have G3 := hide' g3
    have G4 := hide' g4
    obtain ⟨a0, n0, c0, rfl⟩ := holds_sls g0
    obtain ⟨a1, n1, c1, rfl⟩ := holds_sls g1
    obtain ⟨a2, n2, c2, rfl⟩ := holds_sls g2
    obtain ⟨a3, n3, c3, rfl⟩ := holds_sls g3
    obtain ⟨a4, c4, e4, _⟩ := holdsB_parts g4
    subst e4
    clear i1 g0 g1 g2 g3 g4 hds h3
    obtain ⟨n4, hn4⟩ : ∃ n, n = (ds.getD 4 []).length := ⟨_, rfl⟩
    have N4 : Hid ((ds.getD 4 []).length = n4) := hn4.symm
    rw [← hn4] at G4 ⊢
    clear hn4
    have bd := below_alloc' w1 (.cells #[.slice a0 n0 c0, .slice a1 n1 c1, .slice a2 n2 c2, .slice a3 n3 c3, .slice a4 n4 c4] 233)
    have dd := cells_lit w1 #[.slice a0 n0 c0, .slice a1 n1 c1, .slice a2 n2 c2, .slice a3 n3 c3, .slice a4 n4 c4] 233
    have B2 := hide' (bt' B1.out bd)
    have Q2 := hide' (cells_below Q1.out bd)
    have D2 : Hid (Blk w1.heap.size (w1.alloc (.cells #[.slice a0 n0 c0, .slice a1 n1 c1, .slice a2 n2 c2, .slice a3 n3 c3, .slice a4 n4 c4] 233)) [.slice a0 n0 c0, .slice a1 n1 c1, .slice a2 n2 c2, .slice a3 n3 c3, .slice a4 n4 c4]) := dd
    have QD : Hid (q < w1.heap.size) := Q1.out.2
    obtain ⟨⟨y0, y1, y2, y3, y4⟩, -⟩ := cells_five D2.out
    obtain ⟨⟨z0, z1, z2, z3, z4, z5, z6, z7, z8⟩, ⟨f0, f1, f2, f3, f4, f5, f6, f7, f8⟩⟩ := cells_nine Q2.out
    have zq := cells_put Q2.out [.string ⟨#[]⟩, .string ⟨#[]⟩, .int .i64 0, .string ⟨#[]⟩, .int .i64 0, .slice none 0 0, .slice none 0 0, .int .i64 0, .int .i64 0] rfl
    have zb := put_below (w := w) QLE.out [.string ⟨#[]⟩, .string ⟨#[]⟩, .int .i64 0, .string ⟨#[]⟩, .int .i64 0, .slice none 0 0, .slice none 0 0, .int .i64 0, .int .i64 0] 0 _ (bt' B0.out B2.out)
    rw [put_nine] at zq zb
    have ZQ := hide' zq
    have ZB := hide' zb
    clear bd dd zq zb Q1
    by_cases h16 : ¬ n4 = 16
    · have d16 : ((n4 : Int) != 16) = true := by simp; omega
      have BAD : Hid (readE bs = none) := by unfold Hid; rw [RD.out]; exact ent_no1 (by rw [N4.out]; exact h16)
      clear h16
      go_wp2_with fail
      obtain ⟨⟨x0, x1, x2, x3, x4, x5, x6, x7, x8⟩, -⟩ := cells_nine ZQ.out
      exact bodyPost_ret (v := .tuple #[ezV, .bool false]) (by simp [results, Tryz.results163, go_sem, ezV, x0, x1, x2, x3, x4, x5, x6, x7, x8]) rfl ⟨ZB.out, .inl ⟨BAD.out, rfl⟩⟩
    · have h16' : n4 = 16 := by simpa using h16
      subst h16'
      clear h16
      have cR := hide' (respC (.slice a2 n2 c2) (ds.getD 2 []) _ (holdsB_mono G2.out (bt' B0.out (bt' B1.out (below_alloc' w1 (.cells #[.slice a0 n0 c0, .slice a1 n1 c1, .slice a2 n2 c2, .slice a3 n3 c3, .slice a4 16 c4] 233))))) (env_below E0.out B2.out) (by have := LL.out 2; have := DL.out; omega))
      have EN := hide' (fun h => RD.out.trans (ent_no2 (ds := ds) h))
      have EY := hide' (fun h => RD.out.trans (ent_yes (ds := ds) N4.out h))
      unfold respV rsV at cR
      generalize respOf (ds.getD 2 []) = RR at cR EN EY
      obtain ⟨⟨rs, rr, rk, rf⟩, RN, er⟩ := RR
      dsimp only at cR EN EY
      go_wp2_with fail
      clear y0 y1 y2 y3 y4 z0 z1 z2 z3 z4 z5 z6 z7 z8 f0 f1 f2 f3 f4 f5 f6 f7 f8 ZQ ZB
      generalize hw2 : w1.alloc (.cells #[.slice a0 n0 c0, .slice a1 n1 c1, .slice a2 n2 c2, .slice a3 n3 c3, .slice a4 16 c4] 233) = w2 at *
      generalize hd : w1.heap.size = d at *
      clear hw2 hd
      refine cR.out.mono ?_
      rintro e w3 ⟨lv, rfl, hf⟩
      have hbf := hf.2
      have B3 := hide' (bt' B2.out hbf)
      have D3 := hide' (cells_below D2.out hbf)
      have Q3 := hide' (cells_below Q2.out hbf)
      obtain ⟨la, lc, _, _, e1, _⟩ := holdsF_parts (holdsF_own hf)
      subst e1
      obtain ⟨ln, hln⟩ : ∃ n, n = rf.length := ⟨_, rfl⟩
      rw [← hln] at hf ⊢
      have F3 := hide' (ownF_base hf B2.out)
      clear cR hbf hf hln D2 Q2 B2
      have bp := below_alloc' w3 (.cells #[.int .i64 rs, .string ⟨rr.toArray⟩, .int .i64 rk, .slice la ln lc] 56)
      have pp := cells_lit w3 #[.int .i64 rs, .string ⟨rr.toArray⟩, .int .i64 rk, .slice la ln lc] 56
      have B4 := hide' (bt' B3.out bp)
      have D4 := hide' (cells_below D3.out bp)
      have Q4 := hide' (cells_below Q3.out bp)
      have F4 := hide' (ownF_mono F3.out bp)
      have P4 : Hid (Blk w3.heap.size (w3.alloc (.cells #[.int .i64 rs, .string ⟨rr.toArray⟩, .int .i64 rk, .slice la ln lc] 56)) [.int .i64 rs, .string ⟨rr.toArray⟩, .int .i64 rk, .slice la ln lc]) := pp
      have DP : Hid (d < w3.heap.size ∧ q < w3.heap.size) := ⟨D3.out.2, Q3.out.2⟩
      obtain ⟨⟨z0, z1, z2, z3, z4, z5, z6, z7, z8⟩, ⟨f0, f1, f2, f3, f4, f5, f6, f7, f8⟩⟩ := cells_nine Q4.out
      have zq := cells_put Q4.out [.string ⟨#[]⟩, .string ⟨#[]⟩, .int .i64 0, .string ⟨#[]⟩, .int .i64 0, .slice none 0 0, .slice none 0 0, .int .i64 0, .int .i64 0] rfl
      have zb := put_below (w := w) QLE.out [.string ⟨#[]⟩, .string ⟨#[]⟩, .int .i64 0, .string ⟨#[]⟩, .int .i64 0, .slice none 0 0, .slice none 0 0, .int .i64 0, .int .i64 0] 0 _ (bt' B0.out B4.out)
      rw [put_nine] at zq zb
      have ZQ := hide' zq
      have ZB := hide' zb
      clear bp pp zq zb D3 Q3 B3 F3
      by_cases her : ¬ er = 0
      · have der : (er != 0) = true := by simpa using her
        have BAD : Hid (readE bs = none) := EN.out her
        clear her
        go_wp2_with fail
        obtain ⟨⟨x0, x1, x2, x3, x4, x5, x6, x7, x8⟩, -⟩ := cells_nine ZQ.out
        exact bodyPost_ret (v := .tuple #[ezV, .bool false]) (by simp [results, Tryz.results163, go_sem, ezV, x0, x1, x2, x3, x4, x5, x6, x7, x8]) rfl ⟨ZB.out, .inl ⟨BAD.out, rfl⟩⟩
      have her' : er = 0 := by simpa using her
      subst her'
      clear her z0 z1 z2 z3 z4 z5 z6 z7 z8 f0 f1 f2 f3 f4 f5 f6 f7 f8 ZQ ZB
      have RE := hide' (EY.out (by first | trivial | rfl))
      go_wp2_with fail
      rename_i K0 hK0
      have FINK : ∀ (a : Act) (w' : World), bodyPost Tryz.prog Tryz.f163 (fun e w' => ReadA w bs e w') Exit.ret a w' → K0 a w' := fun a w' h => hK0 a w' (wp_ret h)
      generalize hw4 : w3.alloc (.cells #[.int .i64 rs, .string ⟨rr.toArray⟩, .int .i64 rk, .slice la ln lc] 56) = w4 at *
      generalize hp : w3.heap.size = p at *
      clear hw4 hp EN EY
      obtain ⟨lo, hs1, hl1⟩ := takeB G4.out 8 (by rw [N4.out]; decide)
      obtain ⟨hi, hs2, hl2⟩ := sufB G4.out 8 (by rw [N4.out]; decide)
      replace hs1 : ∀ W, Sem.run Tryz.prog (Instr.slice 57 (.slice a4 16 c4) none (some (.int .i64 8)) none) W = .ok lo W := hs1
      replace hs2 : ∀ W, Sem.run Tryz.prog (Instr.slice 57 (.slice a4 16 c4) (some (.int .i64 8)) none none) W = .ok hi W := hs2
      obtain ⟨k0, hk0⟩ : ∃ x, x = ds.getD 0 [] := ⟨_, rfl⟩
      obtain ⟨k1, hk1⟩ : ∃ x, x = ds.getD 1 [] := ⟨_, rfl⟩
      obtain ⟨k3, hk3⟩ : ∃ x, x = ds.getD 3 [] := ⟨_, rfl⟩
      have L8 := hide' (show ((ds.getD 4 []).take 8).length ≤ 8 by rw [List.length_take]; omega)
      have L9 := hide' (show ((ds.getD 4 []).drop 8).length ≤ 8 by rw [List.length_drop, N4.out]; decide)
      have ML : Hid (k3.length ≤ 100000) := by unfold Hid; rw [hk3]; have := LL.out 3; have := DL.out; omega
      rw [← hk0] at G0 RE
      rw [← hk1] at G1 RE
      rw [← hk3] at G3 RE
      have m8 := num8_sg ((ds.getD 4 []).take 8)
      have m9 := num8_sg ((ds.getD 4 []).drop 8)
      have ALL : Hid (∀ W, Below w4.heap.size w4 W → (W.cell? ⟨d, 0, none⟩ = some (.slice a0 n0 c0) ∧ W.cell? ⟨d, 1, none⟩ = some (.slice a1 n1 c1) ∧ W.cell? ⟨d, 2, none⟩ = some (.slice a2 n2 c2) ∧ W.cell? ⟨d, 3, none⟩ = some (.slice a3 n3 c3) ∧ W.cell? ⟨d, 4, none⟩ = some (.slice a4 16 c4)) ∧ (W.cell? ⟨p, 0, none⟩ = some (.int .i64 rs) ∧ W.cell? ⟨p, 1, none⟩ = some (.string ⟨rr.toArray⟩) ∧ W.cell? ⟨p, 2, none⟩ = some (.int .i64 rk) ∧ W.cell? ⟨p, 3, none⟩ = some (.slice la ln lc)) ∧ (W.cell? ⟨q, 0, none⟩ = some (.string ⟨#[]⟩) ∧ W.cell? ⟨q, 1, none⟩ = some (.string ⟨#[]⟩) ∧ W.cell? ⟨q, 2, none⟩ = some (.int .i64 0) ∧ W.cell? ⟨q, 3, none⟩ = some (.string ⟨#[]⟩) ∧ W.cell? ⟨q, 4, none⟩ = some (.int .i64 0) ∧ W.cell? ⟨q, 5, none⟩ = some (.slice none 0 0) ∧ W.cell? ⟨q, 6, none⟩ = some (.slice none 0 0) ∧ W.cell? ⟨q, 7, none⟩ = some (.int .i64 0) ∧ W.cell? ⟨q, 8, none⟩ = some (.int .i64 0)) ∧ (W.frozen? ⟨q, 0, none⟩ = false ∧ W.frozen? ⟨q, 1, none⟩ = false ∧ W.frozen? ⟨q, 2, none⟩ = false ∧ W.frozen? ⟨q, 3, none⟩ = false ∧ W.frozen? ⟨q, 4, none⟩ = false ∧ W.frozen? ⟨q, 5, none⟩ = false ∧ W.frozen? ⟨q, 6, none⟩ = false ∧ W.frozen? ⟨q, 7, none⟩ = false ∧ W.frozen? ⟨q, 8, none⟩ = false) ∧ (Sem.run Tryz.prog (convert 57 9 (.slice a0 n0 c0)) W = .ok (.string ⟨k0.toArray⟩) W ∧ Sem.run Tryz.prog (convert 57 9 (.slice a1 n1 c1)) W = .ok (.string ⟨k1.toArray⟩) W)) := fun W hb => ⟨(cells_five (cells_below D4.out hb)).1, cells_4O (cells_below P4.out hb), (cells_nine (cells_below Q4.out hb)).1, (cells_nine (cells_below Q4.out hb)).2, conv_holds (holdsB_mono G0.out (bt' B0.out (bt' B4.out hb))), conv_holds (holdsB_mono G1.out (bt' B0.out (bt' B4.out hb)))⟩
      have cA : Hid (∀ W, Below w4.heap.size w4 W → Calls Tryz.prog 190 #[lo] W fun e w' => e = .returned (.int .i64 (num8 ((ds.getD 4 []).take 8))) ∧ w' = W) := fun W hb => by
        rw [m8]; exact numOC lo _ W (holdsB_mono hl1 (bt' B0.out (bt' B4.out hb))) L8.out
      have cB : Hid (∀ W, Below w4.heap.size w4 W → Calls Tryz.prog 190 #[hi] W fun e w' => e = .returned (.int .i64 (num8 ((ds.getD 4 []).drop 8))) ∧ w' = W) := fun W hb => by
        rw [m9]; exact numOC hi _ W (holdsB_mono hl2 (bt' B0.out (bt' B4.out hb))) L9.out
      have cC : Hid (∀ W, Below w4.heap.size w4 W → Calls Tryz.prog 72 #[.slice a3 n3 c3] W fun e w' => ∃ ua un uc, e = .returned (.slice ua un uc) ∧ Hid (Own w4 (.slice ua un uc) k3 w') ∧ (w'.cell? ⟨d, 0, none⟩ = some (.slice a0 n0 c0) ∧ w'.cell? ⟨d, 1, none⟩ = some (.slice a1 n1 c1) ∧ w'.cell? ⟨d, 2, none⟩ = some (.slice a2 n2 c2) ∧ w'.cell? ⟨d, 3, none⟩ = some (.slice a3 n3 c3) ∧ w'.cell? ⟨d, 4, none⟩ = some (.slice a4 16 c4)) ∧ (w'.cell? ⟨p, 0, none⟩ = some (.int .i64 rs) ∧ w'.cell? ⟨p, 1, none⟩ = some (.string ⟨rr.toArray⟩) ∧ w'.cell? ⟨p, 2, none⟩ = some (.int .i64 rk) ∧ w'.cell? ⟨p, 3, none⟩ = some (.slice la ln lc)) ∧ (w'.cell? ⟨q, 0, none⟩ = some (.string ⟨#[]⟩) ∧ w'.cell? ⟨q, 1, none⟩ = some (.string ⟨#[]⟩) ∧ w'.cell? ⟨q, 2, none⟩ = some (.int .i64 0) ∧ w'.cell? ⟨q, 3, none⟩ = some (.string ⟨#[]⟩) ∧ w'.cell? ⟨q, 4, none⟩ = some (.int .i64 0) ∧ w'.cell? ⟨q, 5, none⟩ = some (.slice none 0 0) ∧ w'.cell? ⟨q, 6, none⟩ = some (.slice none 0 0) ∧ w'.cell? ⟨q, 7, none⟩ = some (.int .i64 0) ∧ w'.cell? ⟨q, 8, none⟩ = some (.int .i64 0)) ∧ (w'.frozen? ⟨q, 0, none⟩ = false ∧ w'.frozen? ⟨q, 1, none⟩ = false ∧ w'.frozen? ⟨q, 2, none⟩ = false ∧ w'.frozen? ⟨q, 3, none⟩ = false ∧ w'.frozen? ⟨q, 4, none⟩ = false ∧ w'.frozen? ⟨q, 5, none⟩ = false ∧ w'.frozen? ⟨q, 6, none⟩ = false ∧ w'.frozen? ⟨q, 7, none⟩ = false ∧ w'.frozen? ⟨q, 8, none⟩ = false) ∧ (Sem.run Tryz.prog (convert 57 9 (.slice a0 n0 c0)) w' = .ok (.string ⟨k0.toArray⟩) w' ∧ Sem.run Tryz.prog (convert 57 9 (.slice a1 n1 c1)) w' = .ok (.string ⟨k1.toArray⟩) w')) := fun W hb => by
        refine (bcloneC _ k3 W (holdsB_mono G3.out (bt' B0.out (bt' B4.out hb))) (by have := ML.out; omega)).mono ?_
        rintro e w' ⟨u, rfl, ho⟩
        have ho2 := own_base ho hb
        obtain ⟨ua, un, uc, rfl⟩ := holds_sls (holdsB_own ho2)
        exact ⟨ua, un, uc, rfl, ho2, ALL.out w' ho2.2⟩
      generalize num8 ((ds.getD 4 []).take 8) = ta at cA RE
      generalize num8 ((ds.getD 4 []).drop 8) = tb at cB RE
      have I1 : d ≠ q := fun h => by have := QD.out; omega
      have I2 : q ≠ d := fun h => by have := QD.out; omega
      have I3 : p ≠ q := fun h => by have := DP.out.2; omega
      have I4 : q ≠ p := fun h => by have := DP.out.2; omega
      obtain ⟨⟨sd0, sd1, sd2, sd3, sd4⟩, ⟨sp0, sp1, sp2, sp3⟩, ⟨sq0, sq1, sq2, sq3, sq4, sq5, sq6, sq7, sq8⟩, ⟨sf0, sf1, sf2, sf3, sf4, sf5, sf6, sf7, sf8⟩, ⟨sv0, sv1⟩⟩ := ALL.out w4.drew (Below.refl _ _).drew
      obtain ⟨⟨rd0, rd1, rd2, rd3, rd4⟩, ⟨rp0, rp1, rp2, rp3⟩, ⟨rq0, rq1, rq2, rq3, rq4, rq5, rq6, rq7, rq8⟩, ⟨rf0, rf1, rf2, rf3, rf4, rf5, rf6, rf7, rf8⟩, ⟨rv0, rv1⟩⟩ := ALL.out w4 (Below.refl _ _)
      clear hl1 hl2 hk0 hk1 hk3 m8 m9 L8 L9 LL DL N4 G0 G1 G2 G3 G4
      go_region_held_law (fun w' => w'.cell? ⟨d, 0, none⟩ = some (.slice a0 n0 c0) ∧ w'.cell? ⟨d, 1, none⟩ = some (.slice a1 n1 c1) ∧ w'.cell? ⟨d, 2, none⟩ = some (.slice a2 n2 c2) ∧ w'.cell? ⟨d, 3, none⟩ = some (.slice a3 n3 c3) ∧ w'.cell? ⟨d, 4, none⟩ = some (.slice a4 16 c4) ∧ w'.cell? ⟨p, 0, none⟩ = some (.int .i64 rs) ∧ w'.cell? ⟨p, 1, none⟩ = some (.string ⟨rr.toArray⟩) ∧ w'.cell? ⟨p, 2, none⟩ = some (.int .i64 rk) ∧ w'.cell? ⟨p, 3, none⟩ = some (.slice la ln lc)) (go_keep)
        (first
          | (go_at_call 72; refine (cC.out _ ?_).mono ?_; (first | exact (Below.refl _ _).drew | exact Below.refl _ _); rintro e w5 ⟨ua, un, uc, rfl, OU, ⟨⟨md0, md1, md2, md3, md4⟩, ⟨mp0, mp1, mp2, mp3⟩, ⟨mq0, mq1, mq2, mq3, mq4, mq5, mq6, mq7, mq8⟩, ⟨mf0, mf1, mf2, mf3, mf4, mf5, mf6, mf7, mf8⟩, ⟨mv0, mv1⟩⟩⟩)
          | (go_at_call_of 190 (lo); refine (cA.out _ OU.out.2).mono ?_; rintro e w6 ⟨rfl, ew⟩; subst ew)
          | (go_at_call_of 190 (hi); refine (cB.out _ OU.out.2).mono ?_; rintro e w7 ⟨rfl, ew⟩; subst ew))
      all_goals
        have O := OU.out
        have zq := cells_put (cells_below Q4.out O.2) [.string ⟨k0.toArray⟩, .string ⟨k1.toArray⟩, .int .i64 rs, .string ⟨rr.toArray⟩, .int .i64 rk, .slice la ln lc, .slice ua un uc, .int .i64 ta, .int .i64 tb] rfl
        have zb := put_below (w := w) QLE.out [.string ⟨k0.toArray⟩, .string ⟨k1.toArray⟩, .int .i64 rs, .string ⟨rr.toArray⟩, .int .i64 rk, .slice la ln lc, .slice ua un uc, .int .i64 ta, .int .i64 tb] 0 _ (bt' B0.out (bt' B4.out O.2))
        have rF := row_base (row_putFrom Q0L.out [.string ⟨k0.toArray⟩, .string ⟨k1.toArray⟩, .int .i64 rs, .string ⟨rr.toArray⟩, .int .i64 rk, .slice la ln lc, .slice ua un uc, .int .i64 ta, .int .i64 tb] 0 _ (row_below F4.out.1 O.2)) B0.out.size
        have rO := row_base (row_putFrom (Nat.lt_of_lt_of_le Q0L.out B4.out.size) [.string ⟨k0.toArray⟩, .string ⟨k1.toArray⟩, .int .i64 rs, .string ⟨rr.toArray⟩, .int .i64 rk, .slice la ln lc, .slice ua un uc, .int .i64 ta, .int .i64 tb] 0 _ O.1) (Nat.le_trans B0.out.size B4.out.size)
        rw [put_nine] at zq zb rF rO
        obtain ⟨⟨x0, x1, x2, x3, x4, x5, x6, x7, x8⟩, -⟩ := cells_nine zq
        have FIN := hide' (show ReadA w bs (.returned (.tuple #[entV ⟨k0, k1, ⟨rs, rr, rk, rf⟩, k3, ta, tb⟩ (.slice la ln lc) (.slice ua un uc), .bool true])) _ from ⟨zb, .inr ⟨_, _, _, RE.out, rfl, ⟨rF, zb⟩, ⟨rO, zb⟩⟩⟩)
        refine FINK _ _ ?_
        exact bodyPost_ret (v := .tuple #[entV ⟨k0, k1, ⟨rs, rr, rk, rf⟩, k3, ta, tb⟩ (.slice la ln lc) (.slice ua un uc), .bool true]) (by simp [results, Tryz.results163, go_sem, entV, x0, x1, x2, x3, x4, x5, x6, x7, x8]) rfl FIN.out
  · obtain ⟨a0, n0, c0, rfl⟩ := g0
    obtain ⟨a1, n1, c1, rfl⟩ := g1
    obtain ⟨a2, n2, c2, rfl⟩ := g2
    obtain ⟨a3, n3, c3, rfl⟩ := g3
    obtain ⟨a4, n4, c4, rfl⟩ := g4
    have BAD : Hid (readE bs = none) := read_no1 hno
    have bd := below_alloc' w1 (.cells #[.slice a0 n0 c0, .slice a1 n1 c1, .slice a2 n2 c2, .slice a3 n3 c3, .slice a4 n4 c4] 233)
    have Q2 := hide' (cells_below Q1.out bd)
    obtain ⟨⟨z0, z1, z2, z3, z4, z5, z6, z7, z8⟩, ⟨f0, f1, f2, f3, f4, f5, f6, f7, f8⟩⟩ := cells_nine Q2.out
    have zq := cells_put Q2.out [.string ⟨#[]⟩, .string ⟨#[]⟩, .int .i64 0, .string ⟨#[]⟩, .int .i64 0, .slice none 0 0, .slice none 0 0, .int .i64 0, .int .i64 0] rfl
    have zb := put_below (w := w) QLE.out [.string ⟨#[]⟩, .string ⟨#[]⟩, .int .i64 0, .string ⟨#[]⟩, .int .i64 0, .slice none 0 0, .slice none 0 0, .int .i64 0, .int .i64 0] 0 _ (bt' B0.out (bt' B1.out bd))
    rw [put_nine] at zq zb
    have ZQ := hide' zq
    have ZB := hide' zb
    clear bd zq zb Q1 Q2 hno
    go_wp2_with fail
    obtain ⟨⟨x0, x1, x2, x3, x4, x5, x6, x7, x8⟩, -⟩ := cells_nine ZQ.out
    exact bodyPost_ret (v := .tuple #[ezV, .bool false]) (by simp [results, Tryz.results163, go_sem, ezV, x0, x1, x2, x3, x4, x5, x6, x7, x8]) rfl ⟨ZB.out, .inl ⟨BAD.out, rfl⟩⟩
end Go.Proofs.YtibjcofbhldenaaGreatDoor
