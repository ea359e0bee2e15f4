/- The contract of object.sections. -/
import Derived.Test.YtibjcofbhldenaaGreatDoorZ12
import Derived.Test.YtibjcofbhldenaaGreatDoorZ01
namespace Go.Proofs.YtibjcofbhldenaaGreatDoor
open Go.RowKit
/-- a slice of some kind -/
def Sls (x : Value) : Prop := ∃ a n c, x = .slice a n c
theorem holds_sls {w : World} {v : Value} {bs : List UInt8} (h : HoldsB w v bs) : Sls v := by
  obtain ⟨a, c, e, _⟩ := h
  exact ⟨a, _, c, e⟩
theorem sufB {w : World} {v : Value} {bs : List UInt8} (h : HoldsB w v bs) (k : Nat) (hk : k ≤ bs.length) :
    ∃ pv, (∀ W, Sem.run Tryz.prog (Instr.slice 57 v (some (.int .i64 (k : Int))) none none) W = .ok pv W) ∧ HoldsB w pv (bs.drop k) := by
  have hh := h
  obtain ⟨ao, cap, rfl, h0, hcp, hc⟩ := h
  exact ⟨_, fun W => from_run ao bs.length cap k hk hcp W, holdsB_suf hh k hk⟩
theorem list5 {vs : List Value} (h : vs.length = 5) : ∃ x0 x1 x2 x3 x4, vs = [x0, x1, x2, x3, x4] := by
  match vs, h with
  | [x0, x1, x2, x3, x4], _ => exact ⟨x0, x1, x2, x3, x4, rfl⟩
theorem cells_five {b : Nat} {W : World} {v0 v1 v2 v3 v4 : Value} (h : Blk b W [v0, v1, v2, v3, v4]) : (W.cell? ⟨b, 0, none⟩ = some v0 ∧ W.cell? ⟨b, 1, none⟩ = some v1 ∧ W.cell? ⟨b, 2, none⟩ = some v2 ∧ W.cell? ⟨b, 3, none⟩ = some v3 ∧ W.cell? ⟨b, 4, none⟩ = some v4) ∧ (W.frozen? ⟨b, 0, none⟩ = false ∧ W.frozen? ⟨b, 1, none⟩ = false ∧ W.frozen? ⟨b, 2, none⟩ = false ∧ W.frozen? ⟨b, 3, none⟩ = false ∧ W.frozen? ⟨b, 4, none⟩ = false) :=
  ⟨⟨(h.1 0 (by simp)).1, (h.1 1 (by simp)).1, (h.1 2 (by simp)).1, (h.1 3 (by simp)).1, (h.1 4 (by simp)).1⟩, ⟨(h.1 0 (by simp)).2, (h.1 1 (by simp)).2, (h.1 2 (by simp)).2, (h.1 3 (by simp)).2, (h.1 4 (by simp)).2⟩⟩
theorem put_five (b : Nat) (W : World) (v0 v1 v2 v3 v4 : Value) : putFrom b 0 W [v0, v1, v2, v3, v4] = (((((W.setCell ⟨b, 0, none⟩ v0).setCell ⟨b, 1, none⟩ v1).setCell ⟨b, 2, none⟩ v2).setCell ⟨b, 3, none⟩ v3).setCell ⟨b, 4, none⟩ v4) := rfl
def Z5 : List Value := [.slice none 0 0, .slice none 0 0, .slice none 0 0, .slice none 0 0, .slice none 0 0]
/-- what sections tells -/
def SecA (w : World) (bs : List UInt8) (e : Ending) : Prop :=
  (3 ≤ bs.length ∧ ∃ ds r p0 p1 p2 p3 p4, secsN 5 (bs.drop 3) = some (ds, r) ∧ e = .returned (.tuple #[.agg #[p0, p1, p2, p3, p4], .bool true]) ∧ HoldsB w p0 (ds.getD 0 []) ∧ HoldsB w p1 (ds.getD 1 []) ∧ HoldsB w p2 (ds.getD 2 []) ∧ HoldsB w p3 (ds.getD 3 []) ∧ HoldsB w p4 (ds.getD 4 [])) ∨
  ((bs.length < 3 ∨ secsN 5 (bs.drop 3) = none) ∧ ∃ p0 p1 p2 p3 p4, e = .returned (.tuple #[.agg #[p0, p1, p2, p3, p4], .bool false]) ∧ Sls p0 ∧ Sls p1 ∧ Sls p2 ∧ Sls p3 ∧ Sls p4)
/-- the state of the loop -/
structure SecI (bs : List UInt8) (w0 w : World) (q g : Nat) (k : Nat) (rest : List UInt8) (rv : Value) (vs : List Value) (wr : World) : Prop where
  told : ∃ ds, secsN k (bs.drop 3) = some (ds, rest) ∧ ∀ i, i < k → HoldsB w0 (vs.getD i (.bool false)) (ds.getD i [])
  hold : HoldsB w0 rv rest
  len : rest.length ≤ 100000
  five : vs.length = 5
  sl : ∀ x ∈ vs, Sls x
  blk : Blk g wr vs
  res : Blk q wr Z5
  bel : Below w.heap.size w wr
theorem secI_step {bs : List UInt8} {w0 w : World} {q g k : Nat} {rest : List UInt8} {rv : Value} {vs : List Value} {wr : World} (h : SecI bs w0 w q g k rest rv vs wr) (hk : k < 5) (hq : q ≠ g) (hg : w.heap.size ≤ g)
    {d r' : List UInt8} (hs : secR rest = some (d, r')) {pv rv' : Value} (hd : HoldsB w0 pv d) (hr : HoldsB w0 rv' r') (hl : r'.length ≤ 100000) : SecI bs w0 w q g (k + 1) r' rv' (vs.set k pv) (wr.setCell ⟨g, k, none⟩ pv) := by
  obtain ⟨ds, h1, h2⟩ := h.told
  have hdl := secsN_len k h1
  have h5 := h.five
  refine ⟨⟨ds ++ [d], secsN_step h1 hs, fun i hi => ?_⟩, hr, hl, by rw [List.length_set]; exact h5, fun x hx => ?_, cells_set h.blk (by omega) pv, cells_other h.res hq pv, h.bel.setCell (p := ⟨g, k, none⟩) hg pv⟩
  · by_cases e : i = k
    · subst e
      rw [List.getD_eq_getElem?_getD, List.getElem?_set_self (by omega), List.getD_eq_getElem?_getD, List.getElem?_append_right (by omega)]
      rw [show i - ds.length = 0 by omega]
      exact hd
    · have := h2 i (by omega)
      rw [List.getD_eq_getElem?_getD, List.getElem?_set_ne (by omega), List.getD_eq_getElem?_getD (l := ds ++ [d]), List.getElem?_append_left (by omega)]
      rw [List.getD_eq_getElem?_getD, List.getD_eq_getElem?_getD] at this
      exact this
  · rcases List.mem_or_eq_of_mem_set hx with h' | h'
    · exact h.sl x h'
    · rw [h']; exact holds_sls hd
theorem secI_below {bs : List UInt8} {w0 w : World} {q g k : Nat} {rest : List UInt8} {rv : Value} {vs : List Value} {wr wr' : World} (h : SecI bs w0 w q g k rest rv vs wr) (hb : Below wr.heap.size wr wr') : SecI bs w0 w q g k rest rv vs wr' :=
  ⟨h.told, h.hold, h.len, h.five, h.sl, cells_below h.blk hb, cells_below h.res hb, bt' h.bel hb⟩
set_option maxRecDepth 20000 in
set_option maxHeartbeats 4000000 in
theorem secsOC (v : Value) (bs : List UInt8) (w0 w : World) (hb0 : Below w0.heap.size w0 w) (hv : HoldsB w0 v bs) (hl : bs.length ≤ 100000) :
    Calls Tryz.prog 188 #[v] w fun e w' => Below w.heap.size w w' ∧ SecA w0 bs e := by
  have HB0 := hide' hb0
  clear hb0
  have HV := hide' hv
  obtain ⟨ao, cap, rfl, _, hcp, _⟩ := hv
  obtain ⟨n, hn⟩ : ∃ n, n = bs.length := ⟨_, rfl⟩
  have N1 : Hid (bs.length = n) := hn.symm
  have ln : n ≤ 100000 := by omega
  rw [← hn] at HV hcp ⊢
  clear hn hl
  have z1 : (w.alloc (.cells #[.slice none 0 0, .slice none 0 0, .slice none 0 0, .slice none 0 0, .slice none 0 0] 233)).heap.size = w.heap.size + 1 := by simp
  have b1 := below_alloc' w (.cells #[.slice none 0 0, .slice none 0 0, .slice none 0 0, .slice none 0 0, .slice none 0 0] 233)
  have q1 := cells_lit w #[.slice none 0 0, .slice none 0 0, .slice none 0 0, .slice none 0 0, .slice none 0 0] 233
  have b2 := below_alloc' (w.alloc (.cells #[.slice none 0 0, .slice none 0 0, .slice none 0 0, .slice none 0 0, .slice none 0 0] 233)) (.cells #[.slice none 0 0, .slice none 0 0, .slice none 0 0, .slice none 0 0, .slice none 0 0] 233)
  have q2 := cells_lit (w.alloc (.cells #[.slice none 0 0, .slice none 0 0, .slice none 0 0, .slice none 0 0, .slice none 0 0] 233)) #[.slice none 0 0, .slice none 0 0, .slice none 0 0, .slice none 0 0, .slice none 0 0] 233
  rw [z1] at q2
  have B2 := hide' (bt' b1 b2)
  have Q1 : Hid (Blk w.heap.size _ Z5) := cells_below q1 b2
  have Q2 : Hid (Blk (w.heap.size + 1) _ Z5) := q2
  clear z1 b1 q1 b2 q2
  by_cases h3 : n < 3
  · have hd3 : decide ((n : Int) < 3) = true := by simp; omega
    have BAD : Hid (bs.length < 3) := by unfold Hid; rw [N1.out]; exact h3
    clear h3 HV
    go_enter Tryz.func188, Tryz.ntmps188
    go_wp2_with fail
    refine bodyPost_ret (v := .tuple #[.agg #[.slice none 0 0, .slice none 0 0, .slice none 0 0, .slice none 0 0, .slice none 0 0], .bool false]) (by simp [results, Tryz.results188, go_sem]) rfl ⟨B2.out, .inr ⟨.inl BAD.out, _, _, _, _, _, rfl, ⟨_, _, _, rfl⟩, ⟨_, _, _, rfl⟩, ⟨_, _, _, rfl⟩, ⟨_, _, _, rfl⟩, ⟨_, _, _, rfl⟩⟩⟩
  · obtain ⟨rv0, hs0, hr0⟩ := sufB HV.out 3 (by rw [N1.out]; omega)
    replace hs0 : ∀ W, Sem.run Tryz.prog (Instr.slice 57 (.slice ao n cap) (some (.int .i64 3)) none none) W = .ok rv0 W := hs0
    have S0 : Hid (SecI bs w0 w w.heap.size (w.heap.size + 1) 0 (bs.drop 3) rv0 Z5 _) := ⟨⟨[], rfl, fun i h => absurd h (Nat.not_lt_zero _)⟩, hr0, by rw [List.length_drop, N1.out]; omega, rfl, fun x hx => by (unfold Z5 at hx; simp at hx; rw [hx]; exact ⟨_, _, _, rfl⟩), Q2.out, Q1.out, B2.out⟩
    have hd3 : decide ((n : Int) < 3) = false := by simp; omega
    have GE : Hid (3 ≤ bs.length) := by unfold Hid; rw [N1.out]; omega
    clear hr0 h3 Q1 Q2 HV
    go_enter Tryz.func188, Tryz.ntmps188
    go_wp2_with fail
    go_loopw [5, 14] (fun rv iv wr => ∃ (k : Nat) (rest : List UInt8) (vs : List Value), k ≤ 5 ∧ iv = .int .i64 k ∧ Hid (SecI bs w0 w w.heap.size (w.heap.size + 1) k rest rv vs wr)) (fun _ i _ => 5 - (intOf i).toNat)
    case atStart => exact ⟨0, _, _, by omega, rfl, S0⟩
    case round =>
      obtain ⟨k, rest, vs, hk, rfl, HI⟩ := hrel
      clear S0
      obtain ⟨ra, rc, hrv, _, hrc, _⟩ := id HI.out.hold
      subst hrv
      obtain ⟨m, hm⟩ : ∃ m, m = rest.length := ⟨_, rfl⟩
      have HM : Hid (rest.length = m) := hm.symm
      have lm : m ≤ 100000 := by rw [hm]; exact HI.out.len
      rw [← hm] at HI hrc ⊢
      clear hm
      obtain ⟨x0, x1, x2, x3, x4, hvs⟩ := list5 HI.out.five
      subst hvs
      obtain ⟨a0, n0, c0, rfl⟩ := HI.out.sl x0 (by simp)
      obtain ⟨a1, n1, c1, rfl⟩ := HI.out.sl x1 (by simp)
      obtain ⟨a2, n2, c2, rfl⟩ := HI.out.sl x2 (by simp)
      obtain ⟨a3, n3, c3, rfl⟩ := HI.out.sl x3 (by simp)
      obtain ⟨a4, n4, c4, rfl⟩ := HI.out.sl x4 (by simp)
      obtain ⟨⟨k0, k1, k2, k3, k4⟩, -⟩ := cells_five HI.out.blk
      obtain ⟨⟨r0, r1, r2, r3, r4⟩, ⟨f0, f1, f2, f3, f4⟩⟩ := cells_five (show Blk _ _ [_, _, _, _, _] from HI.out.res)
      have q := cells_put HI.out.res [.slice a0 n0 c0, .slice a1 n1 c1, .slice a2 n2 c2, .slice a3 n3 c3, .slice a4 n4 c4] rfl
      have qb := put_below (Nat.le_refl w.heap.size) [.slice a0 n0 c0, .slice a1 n1 c1, .slice a2 n2 c2, .slice a3 n3 c3, .slice a4 n4 c4] 0 _ HI.out.bel
      rw [put_five] at q qb
      have QB := hide' qb
      have QC := hide' q
      clear q qb
      by_cases hk5 : k = 5
      · subst hk5
        go_wp2_with fail
        obtain ⟨⟨y0, y1, y2, y3, y4⟩, -⟩ := cells_five QC.out
        obtain ⟨ds, hds, hh⟩ := HI.out.told
        exact bodyPost_ret (v := .tuple #[.agg #[.slice a0 n0 c0, .slice a1 n1 c1, .slice a2 n2 c2, .slice a3 n3 c3, .slice a4 n4 c4], .bool true]) (by simp [results, Tryz.results188, go_sem, y0, y1, y2, y3, y4]) rfl ⟨QB.out, .inl ⟨GE.out, ds, rest, _, _, _, _, _, hds, rfl, hh 0 (by omega), hh 1 (by omega), hh 2 (by omega), hh 3 (by omega), hh 4 (by omega)⟩⟩
      have hk4 : k < 5 := by omega
      clear hk5
      by_cases h5 : m < 5
      · have d5 : decide ((m : Int) < 5) = true := by simp; omega
        have BAD : Hid (secsN 5 (bs.drop 3) = none) := by
          obtain ⟨ds, hds, -⟩ := HI.out.told
          exact secsN_stop hds (by unfold secR; rw [if_pos (by rw [HM.out]; exact h5)]) 5 hk4
        clear h5
        go_wp2_with fail
        obtain ⟨⟨y0, y1, y2, y3, y4⟩, -⟩ := cells_five QC.out
        exact bodyPost_ret (v := .tuple #[.agg #[.slice a0 n0 c0, .slice a1 n1 c1, .slice a2 n2 c2, .slice a3 n3 c3, .slice a4 n4 c4], .bool false]) (by simp [results, Tryz.results188, go_sem, y0, y1, y2, y3, y4]) rfl ⟨QB.out, .inr ⟨.inr BAD.out, _, _, _, _, _, rfl, ⟨_, _, _, rfl⟩, ⟨_, _, _, rfl⟩, ⟨_, _, _, rfl⟩, ⟨_, _, _, rfl⟩, ⟨_, _, _, rfl⟩⟩⟩
      · have d5 : decide ((m : Int) < 5) = false := by simp; omega
        have hrl : 5 ≤ rest.length := by rw [HM.out]; omega
        obtain ⟨lv, hsl, hl4⟩ := midB HI.out.hold 1 5 (by decide) hrl
        replace hsl : ∀ W, Sem.run Tryz.prog (Instr.slice 57 (.slice ra m rc) (some (.int .i64 1)) (some (.int .i64 5)) none) W = .ok lv W := hsl
        have hl4' : ((rest.drop 1).take (5 - 1)).length = 4 := by rw [List.length_take, List.length_drop]; omega
        have vlt : valN (midN rest 1 5) < 4294967296 := by
          have := valN_lt ((rest.drop 1).take (5 - 1)); rw [hl4'] at this; exact this
        have cN := hide' (numOC lv _ wr (holdsB_mono hl4 (bt' HB0.out HI.out.bel)) (by rw [hl4']; decide))
        have eV : valN ((rest.drop 1).take (5 - 1)) = valN (midN rest 1 5) := rfl
        rw [eV, sg_small (by omega)] at cN
        have SR : Hid (secR rest = if rest.length < 5 + valN (midN rest 1 5) then none else some (midN rest 5 (5 + valN (midN rest 1 5)), rest.drop (5 + valN (midN rest 1 5)))) := by
          unfold Hid; conv => lhs; unfold secR
          rw [if_neg (by omega)]
        generalize valN (midN rest 1 5) = z at cN SR vlt
        clear hl4 hl4' eV hrl h5
        go_wp2_with fail
        refine cN.out.mono ?_
        rintro e wz ⟨rfl, ew⟩
        rw [ew]
        clear ew wz cN hsl
        by_cases hz : m < 5 + z
        · have dz : decide ((m : Int) < 5 + (z : Int)) = true := by simp; omega
          have BAD : Hid (secsN 5 (bs.drop 3) = none) := by
            obtain ⟨ds, hds, -⟩ := HI.out.told
            exact secsN_stop hds (by rw [SR.out, if_pos (by rw [HM.out]; exact hz)]) 5 hk4
          clear hz
          go_wp2_with fail
          obtain ⟨⟨y0, y1, y2, y3, y4⟩, -⟩ := cells_five QC.out
          exact bodyPost_ret (v := .tuple #[.agg #[.slice a0 n0 c0, .slice a1 n1 c1, .slice a2 n2 c2, .slice a3 n3 c3, .slice a4 n4 c4], .bool false]) (by simp [results, Tryz.results188, go_sem, y0, y1, y2, y3, y4]) rfl ⟨QB.out, .inr ⟨.inr BAD.out, _, _, _, _, _, rfl, ⟨_, _, _, rfl⟩, ⟨_, _, _, rfl⟩, ⟨_, _, _, rfl⟩, ⟨_, _, _, rfl⟩, ⟨_, _, _, rfl⟩⟩⟩
        · have dz : decide ((m : Int) < 5 + (z : Int)) = false := by simp; omega
          obtain ⟨pv, hp1, hp2⟩ := midB HI.out.hold 5 (5 + z) (by omega) (by rw [HM.out]; omega)
          obtain ⟨tv, ht1, ht2⟩ := sufB HI.out.hold (5 + z) (by rw [HM.out]; omega)
          have ez : ((5 + z : Nat) : Int) = 5 + (z : Int) := by omega
          rw [ez] at hp1 ht1
          replace hp1 : ∀ W, Sem.run Tryz.prog (Instr.slice 57 (.slice ra m rc) (some (.int .i64 5)) (some (.int .i64 (5 + (z : Int)))) none) W = .ok pv W := hp1
          have ST := hide' (secI_step HI.out hk4 (Nat.ne_of_lt (Nat.lt_succ_self _)) (Nat.le_succ _) (by rw [SR.out, if_neg (by rw [HM.out]; exact hz)]; rfl) hp2 ht2 (by rw [List.length_drop, HM.out]; omega))
          obtain ⟨pa, pn, pc, rfl⟩ := holds_sls hp2
          obtain ⟨ta, tn, tc, rfl⟩ := holds_sls ht2
          obtain ⟨kc, kf⟩ := HI.out.blk.1 k (by simpa using hk4)
          clear hz hp2 ht2 ez
          go_wp2_with fail
          go_region
          all_goals
            go_wp2_with fail
            go_roundw
            case rel => exact ⟨k + 1, _, _, by omega, by go_num, secI_below ST.out (Below.refl _ _).drew⟩
            case measure => simp [intOf]; omega
end Go.Proofs.YtibjcofbhldenaaGreatDoor
