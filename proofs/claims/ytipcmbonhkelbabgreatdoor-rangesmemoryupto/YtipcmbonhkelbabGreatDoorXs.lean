/- The contract of the document's Apply. What the laws of ranges ask of Parse and Apply; their alive; sameSpans; the walks of RangesParses and RangesWithin. The contract of Apply (ranges). -/
import Derived.Test.YtipcmbonhkelbabGreatDoorXo
import Derived.Test.YtipcmbonhkelbabGreatDoorRgE
import Derived.Test.YtipcmbonhkelbabGreatDoorXj
import Derived.Deep.Cut
import Derived.Lib.SlBytesConst
import Derived.Test.YtipcmbonhkelbabGreatDoorRaAa
import Derived.Test.YtipcmbonhkelbabGreatDoorXu
import Derived.Test.YtipcmbonhkelbabGreatDoorXp
import Derived.Test.YtipcmbonhkelbabGreatDoorXi
namespace Go.Proofs.YtipcmbonhkelbabGreatDoor
open Go.RowKit
section
variable {D : List UInt8 → Int} {ask fs : FL} {s k : Int} {zr body : List UInt8}
theorem appR_whole (h : ¬ s = 200 ∨ hasA ask raN = false ∨ (rngP (getJ ask raN) body.length).1 = 190 ∨ rgHeld D ask fs = false) : appR D ask s zr k fs body = (s, zr, k, fs, body) := by
  unfold appR
  rw [if_pos h]
theorem appR_uns (h : ¬ (¬ s = 200 ∨ hasA ask raN = false ∨ (rngP (getJ ask raN) body.length).1 = 190 ∨ rgHeld D ask fs = false)) (h1 : (rngP (getJ ask raN) body.length).1 = 191) : appR D ask s zr k fs body = (416, unsR, k, putOf (withoutOf fs [clH, ctN]) crU (starL ++ Lib.itoa body.length), []) := by
  unfold appR
  rw [if_neg h, if_pos h1]
theorem appR_one (h : ¬ (¬ s = 200 ∨ hasA ask raN = false ∨ (rngP (getJ ask raN) body.length).1 = 190 ∨ rgHeld D ask fs = false)) {p : Int × Int} (h1 : rngP (getJ ask raN) body.length = (0, [p])) : appR D ask s zr k fs body = (206, parR, k, putOf (withoutOf fs [clH]) crU (placeL p.1 p.2 body.length), spanB body p) := by
  unfold appR
  rw [if_neg h, h1, if_neg (by show ¬ (0 : Int) = 191; decide)]
theorem appR_many (h : ¬ (¬ s = 200 ∨ hasA ask raN = false ∨ (rngP (getJ ask raN) body.length).1 = 190 ∨ rgHeld D ask fs = false)) {p q : Int × Int} {r : List (Int × Int)} (h1 : rngP (getJ ask raN) body.length = (0, p :: q :: r)) : appR D ask s zr k fs body = (206, parR, k, withoutOf fs [clH, crH, ctN] ++ [(ctU, mulL ++ markOf body)], manyB fs body (p :: q :: r)) := by
  unfold appR
  rw [if_neg h, h1, if_neg (by show ¬ (0 : Int) = 191; decide)]
end
theorem applyRO (s k : Int) (zr : List UInt8) (av lv v : Value) (ask fs : FL) (body : List UInt8) (D : List UInt8 → Int) (w : World) (ha : HoldsF w av ask) (hv : HoldsF w lv fs) (hB : HoldsB w v body) (hb : bulkF ask + bulkF fs + body.length ≤ 1048576) (hD : DtQ (getJ fs lmN) (D (getJ fs lmN))) (r : RgR) (hr : appR D ask s zr k fs body = r) :
    Calls Tryz.prog 8 #[av, .agg #[.int .i64 s, .string ⟨zr.toArray⟩, .int .i64 k, lv], v] w fun e w' => ∃ u bv, e = .returned (.tuple #[.agg #[.int .i64 r.1, .string ⟨r.2.1.toArray⟩, .int .i64 r.2.2.1, u], bv]) ∧ OwnF w u r.2.2.2.1 w' ∧ HoldsB w' bv r.2.2.2.2 ∧ Below w.heap.size w w' := by
  by_cases hc : ¬ s = 200 ∨ hasA ask raN = false ∨ (rngP (getJ ask raN) body.length).1 = 190 ∨ rgHeld D ask fs = false
  · rw [appR_whole hc] at hr
    subst hr
    exact appRA s k zr av lv v ask fs body D w ha hv hB hb hD hc
  · have h200 : s = 200 := Classical.byContradiction fun h => hc (.inl h)
    have hh : hasA ask raN = true := by
      cases h : hasA ask raN with
      | true => rfl
      | false => exact absurd (.inr (.inl h)) hc
    have h190 : ¬ (rngP (getJ ask raN) body.length).1 = 190 := fun h => hc (.inr (.inr (.inl h)))
    have hd : rgHeld D ask fs = true := by
      cases h : rgHeld D ask fs with
      | true => rfl
      | false => exact absurd (.inr (.inr (.inr h))) hc
    have hin := rngP_in (getJ ask raN) body.length
    have hl8 := rngP_len (getJ ask raN) body.length
    rcases rngP_cases (getJ ask raN) body.length with h | h | h
    · exact absurd h.1 h190
    · rw [appR_uns hc h.1] at hr
      subst hr
      exact appRC s k zr av lv v ask fs body D w ha hv hB hb hD h200 hh hd (Prod.ext h.1 h.2)
    · obtain ⟨P, hP⟩ : ∃ P, P = rngP (getJ ask raN) body.length := ⟨_, rfl⟩
      rw [← hP] at h hin hl8
      obtain ⟨pe, ps⟩ := P
      obtain ⟨rfl, hne⟩ := h
      dsimp only at hin hl8 hne
      match ps, hne with
      | [p], _ =>
        have hp := hin p List.mem_cons_self
        obtain ⟨p1, p2⟩ := p
        dsimp only at hp
        obtain ⟨a, rfl⟩ : ∃ a : Nat, p1 = (a : Int) := ⟨p1.toNat, by omega⟩
        obtain ⟨c, rfl⟩ : ∃ c : Nat, p2 = (c : Int) := ⟨p2.toNat, by omega⟩
        rw [appR_one hc hP.symm] at hr
        subst hr
        have e : spanB body ((a : Int), (c : Int)) = (body.drop a).take (c + 1 - a) := by
          unfold spanB
          simp only [Int.toNat_natCast]
          rw [show ((c : Int) + 1 - (a : Int)).toNat = c + 1 - a by omega]
        rw [e]
        exact appRD s k zr av lv v ask fs body D w ha hv hB hb hD a c (by omega) (by omega) h200 hh hd hP.symm
      | p :: q :: r', _ =>
        rw [appR_many hc hP.symm] at hr
        subst hr
        exact appRE s k zr av lv v ask fs body D w ha hv hB hb hD (p :: q :: r') (by simp) hl8 hin h200 hh hd hP.symm
theorem applyRG (s k : Int) (zr : List UInt8) (av lv v : Value) (ask fs : FL) (body : List UInt8) (D : List UInt8 → Int) (w : World) (ha : HoldsF w av ask) (hv : HoldsF w lv fs) (hB : HoldsB w v body) (hb : bulkF ask + bulkF fs + body.length ≤ 1048576) (hD : DtQ (getJ fs lmN) (D (getJ fs lmN))) (r : RgR) (hr : appR D ask s zr k fs body = r) :
    Calls Tryz.prog 8 #[av, .agg #[.int .i64 s, .string ⟨zr.toArray⟩, .int .i64 k, lv], v] w fun e w' => ∃ u bv, e = .returned (.tuple #[.agg #[.int .i64 r.1, .string ⟨r.2.1.toArray⟩, .int .i64 r.2.2.1, u], bv]) ∧ HoldsF w' u r.2.2.2.1 ∧ HoldsB w' bv r.2.2.2.2 ∧ Below w.heap.size w w' := by
  refine (applyRO s k zr av lv v ask fs body D w ha hv hB hb hD r hr).mono ?_
  rintro e w' ⟨u, bv, rfl, h1, h2, h3⟩
  exact ⟨u, bv, rfl, holdsF_own h1, h2, h3⟩
end Go.Proofs.YtipcmbonhkelbabGreatDoor
namespace Go.Proofs.YtipcmbonhkelbabGreatDoor
open Go.RowKit
/-- Parse answers what the document's does, in every world behind w -/
def ParseIs (w : World) : Prop := ∀ (s : ByteArray) (z : Int) (W : World), Below w.heap.size w W → s.size ≤ 4194304 → -9223372036854775808 ≤ z → z ≤ 9223372036854775807 →
  Calls Tryz.prog 13 #[.string s, .int .i64 z] W fun e w' => ∃ r, e = .returned (.tuple #[r, .int .i64 (rngP s.data.toList z).1]) ∧ HoldsX w' r (rngP s.data.toList z).2 ∧ Below W.heap.size W w'
/-- .. and Apply -/
def ApplyIs (D : List UInt8 → Int) (w : World) : Prop := ∀ (s k : Int) (zr : List UInt8) (av lv v : Value) (ask fs : FL) (body : List UInt8) (r : RgR) (W : World), Below w.heap.size w W → HoldsF W av ask → HoldsF W lv fs → HoldsB W v body → bulkF ask + bulkF fs + body.length ≤ 1100000 → zr.length ≤ 140737488351232 → appR D ask s zr k fs body = r →
  Calls Tryz.prog 7 #[av, .agg #[.int .i64 s, .string ⟨zr.toArray⟩, .int .i64 k, lv], v] W fun e w' => ∃ u bv, e = .returned (.tuple #[.agg #[.int .i64 r.1, .string ⟨r.2.1.toArray⟩, .int .i64 r.2.2.1, u], bv]) ∧ HoldsF w' u r.2.2.2.1 ∧ HoldsB w' bv r.2.2.2.2 ∧ Below W.heap.size W w'
/-- .. with what it answers its own -/
def ApplyOwn (D : List UInt8 → Int) (w : World) : Prop := ∀ (s k : Int) (zr : List UInt8) (av lv v : Value) (ask fs : FL) (body : List UInt8) (r : RgR) (W : World), Below w.heap.size w W → HoldsF W av ask → HoldsF W lv fs → HoldsB W v body → bulkF ask + bulkF fs + body.length ≤ 1100000 → zr.length ≤ 140737488351232 → appR D ask s zr k fs body = r →
  Calls Tryz.prog 7 #[av, .agg #[.int .i64 s, .string ⟨zr.toArray⟩, .int .i64 k, lv], v] W fun e w' => ∃ u bv, e = .returned (.tuple #[.agg #[.int .i64 r.1, .string ⟨r.2.1.toArray⟩, .int .i64 r.2.2.1, u], bv]) ∧ OwnF W u r.2.2.2.1 w' ∧ Own W bv r.2.2.2.2 w'
theorem holdsX_mono' {w w' : World} {v : Value} {ps : XL} (h : HoldsX w v ps) (hb : Below w.heap.size w w') : HoldsX w' v ps := holdsX_mono h hb
theorem rng_alive : rngP [98, 121, 116, 101, 115, 61, 48, 45, 49, 44, 32, 45, 49, 44, 32, 57, 45] 5 = (0, [(0, 1), (4, 4)]) := by decide +kernel
theorem rng_alive2 : rngP (getJ [([82, 97, 110, 103, 101], [98, 121, 116, 101, 115, 61, 49, 45, 50])] raN) ([97, 98, 99, 100] : List UInt8).length = (0, [(1, 2)]) := by decide +kernel
theorem app_alive (D : List UInt8 → Int) : appR D [([82, 97, 110, 103, 101], [98, 121, 116, 101, 115, 61, 49, 45, 50])] 200 [] 0 [] [97, 98, 99, 100] = (206, parR, 0, putOf (withoutOf [] [clH]) crU (placeL 1 2 ([97, 98, 99, 100] : List UInt8).length), [98, 99]) := by
  have hc : ¬ (¬ (200 : Int) = 200 ∨ hasA [([82, 97, 110, 103, 101], [98, 121, 116, 101, 115, 61, 49, 45, 50])] raN = false ∨ (rngP (getJ [([82, 97, 110, 103, 101], [98, 121, 116, 101, 115, 61, 49, 45, 50])] raN) ([97, 98, 99, 100] : List UInt8).length).1 = 190 ∨ rgHeld D [([82, 97, 110, 103, 101], [98, 121, 116, 101, 115, 61, 49, 45, 50])] [] = false) := by
    rw [rng_alive2, held_not (by decide +kernel)]
    rintro (h | h | h | h)
    · exact h rfl
    · revert h; decide +kernel
    · revert h; decide
    · revert h; decide
  have e : spanB [97, 98, 99, 100] (1, 2) = [98, 99] := by decide +kernel
  rw [appR_one hc rng_alive2, e]
theorem markR4 (W : World) (a b c d : Int) (g : Nat) (hg : g = W.heap.size) : Sem.run Tryz.prog (convert 25 25 (.slice (some ⟨g, 0, none⟩) 4 4)) (W.alloc (.cells #[.int .u8 a, .int .u8 b, .int .u8 c, .int .u8 d] 5)) = .ok (.slice (some ⟨g, 0, none⟩) 4 4) (W.alloc (.cells #[.int .u8 a, .int .u8 b, .int .u8 c, .int .u8 d] 5 (4, 5))) := by
  subst hg
  exact Lib.run_convert_bytes_const W 25 5 #[.int .u8 a, .int .u8 b, .int .u8 c, .int .u8 d] 4 4 Tryz.underlying25 Tryz.underlying5
theorem holdsF_lit1R (w : World) (x y : List UInt8) : HoldsF (w.alloc (.cells #[.string ⟨x.toArray⟩, .string ⟨y.toArray⟩] 42)) (.slice (some ⟨w.heap.size, 0, none⟩) 1 1) [(x, y)] := by
  refine ⟨some ⟨w.heap.size, 0, none⟩, 1, rfl, (fun h => by cases h), Nat.le_refl _, fun _ => ⟨w.heap.size, 0, rfl, by simp, fun j hj => ?_⟩⟩
  match j, hj with
  | 0, _ => simp [S]
theorem holdsF_nilR (w : World) : HoldsF w (.slice none 0 0) [] := ⟨none, 0, rfl, fun _ => rfl, Nat.le_refl _, fun h => absurd rfl h⟩
theorem holdsB_lit4 (W : World) (g : Nat) (hg : g = W.heap.size) : HoldsB (W.alloc (.cells #[.int .u8 97, .int .u8 98, .int .u8 99, .int .u8 100] 5 (4, 5))) (.slice (some ⟨g, 0, none⟩) 4 4) [97, 98, 99, 100] := by
  subst hg
  refine ⟨some ⟨W.heap.size, 0, none⟩, 4, rfl, (fun h => by cases h), Nat.le_refl _, fun _ => ⟨W.heap.size, 0, rfl, by simp, fun j hj => ?_⟩⟩
  rw [Nat.zero_add, World.cell?_alloc_mark]
  match j, hj with
  | 0, _ => rfl
  | 1, _ => rfl
  | 2, _ => rfl
  | 3, _ => rfl
set_option maxHeartbeats 4000000 in
set_option maxRecDepth 20000 in
theorem aliveRg (D : List UInt8 → Int) (w : World) (PI : ParseIs w) (AI : ApplyIs D w) : Calls Tryz.prog 4 #[] w fun e w' => e = .returned (.bool true) ∧ Below w.heap.size w w' := by
  have cP := PI ⟨#[98, 121, 116, 101, 115, 61, 48, 45, 49, 44, 32, 45, 49, 44, 32, 57, 45]⟩ 5 w (Below.refl _ _) (by decide) (by decide) (by decide)
  rw [show (⟨#[98, 121, 116, 101, 115, 61, 48, 45, 49, 44, 32, 45, 49, 44, 32, 57, 45]⟩ : ByteArray).data.toList = [98, 121, 116, 101, 115, 61, 48, 45, 49, 44, 32, 45, 49, 44, 32, 57, 45] from rfl, rng_alive] at cP
  dsimp only at cP
  replace cP := hide' cP
  have AI' := hide' AI
  clear PI AI
  go_enter Tryz.func4, Tryz.ntmps4
  go_wp2_with fail
  refine cP.out.mono ?_
  rintro e w1 ⟨u1, rfl, hx, b1⟩
  obtain ⟨xb, xo, xc, ex, _, hat⟩ := xat_of hx (by simp)
  rw [ex]
  have XA := hide' hat
  have B1 := hide' b1
  clear cP hx hat ex b1
  have z1 : w1.heap.size + 1 = (w1.alloc (.cells #[.string ⟨#[82, 97, 110, 103, 101]⟩, .string ⟨#[98, 121, 116, 101, 115, 61, 49, 45, 50]⟩] 42)).heap.size := by simp
  have mk := markR4 (w1.alloc (.cells #[.string ⟨#[82, 97, 110, 103, 101]⟩, .string ⟨#[98, 121, 116, 101, 115, 61, 49, 45, 50]⟩] 42)) 97 98 99 100 (w1.heap.size + 1) z1
  have hB := holdsB_lit4 (w1.alloc (.cells #[.string ⟨#[82, 97, 110, 103, 101]⟩, .string ⟨#[98, 121, 116, 101, 115, 61, 49, 45, 50]⟩] 42)) (w1.heap.size + 1) z1
  have hF := holdsF_mono (holdsF_lit1R w1 [82, 97, 110, 103, 101] [98, 121, 116, 101, 115, 61, 49, 45, 50]) (below_alloc' (w1.alloc (.cells #[.string ⟨#[82, 97, 110, 103, 101]⟩, .string ⟨#[98, 121, 116, 101, 115, 61, 49, 45, 50]⟩] 42)) (.cells #[.int .u8 97, .int .u8 98, .int .u8 99, .int .u8 100] 5 (4, 5)))
  have b2 : Below w1.heap.size w1 ((w1.alloc (.cells #[.string ⟨#[82, 97, 110, 103, 101]⟩, .string ⟨#[98, 121, 116, 101, 115, 61, 49, 45, 50]⟩] 42)).alloc (.cells #[.int .u8 97, .int .u8 98, .int .u8 99, .int .u8 100] 5 (4, 5))) := bt' (below_alloc' w1 _) (below_alloc' _ _)
  have cA := AI'.out 200 0 [] (.slice (some ⟨w1.heap.size, 0, none⟩) 1 1) (.slice none 0 0) (.slice (some ⟨w1.heap.size + 1, 0, none⟩) 4 4) _ _ _ _ _ (bt' B1.out b2) hF (holdsF_nilR _) hB (by decide) (by decide) (app_alive D)
  dsimp only at cA
  replace cA := hide' cA
  have X2 := hide' (xat_below XA.out b2)
  have B2 := hide' (bt' B1.out b2)
  clear hB hF b2 AI' XA B1 z1
  go_wp2_with fail
  clear mk
  refine cA.out.mono ?_
  rintro e w2 ⟨u2, v2, rfl, h2, hb2, b3⟩
  obtain ⟨ua, uc, _, _, eu, -⟩ := holdsF_parts h2
  obtain ⟨va, vc, ev, -⟩ := id hb2
  rw [show ([98, 99] : List UInt8).length = 2 from rfl] at ev
  generalize (putOf (withoutOf [] [clH]) crU (placeL 1 2 (([97, 98, 99, 100] : List UInt8).length : Int))) = fz at eu h2
  generalize hpr : (⟨parR.toArray⟩ : ByteArray) = PR
  have b4 := below_alloc' w2 (.cells #[.int .i64 206, .string PR, .int .i64 0, u2] 24)
  have cv := conv_holds (holdsB_mono hb2 b4)
  have xx := (xat_below (xat_below X2.out b3) b4).2 1 (by simp)
  have B4 := hide' (bt' (bt' B2.out b3) b4)
  rw [eu] at cv xx B4 ⊢
  rw [ev] at cv ⊢
  clear cA h2 hb2 b3 b4 X2 B2 eu ev
  simp only [List.getElem_cons_succ, List.getElem_cons_zero] at xx
  obtain ⟨x0, -⟩ := xx
  rw [Nat.one_mul] at x0
  clear hpr
  go_wp2_with fail
  go_ret
  exact ⟨rfl, B4.out⟩
end Go.Proofs.YtipcmbonhkelbabGreatDoor
namespace Go.Proofs.YtipcmbonhkelbabGreatDoor
open Go.RowKit
theorem applyG (s k : Int) (zr : List UInt8) (av lv v : Value) (ask fs : FL) (body : List UInt8) (D : List UInt8 → Int) (w : World) (ha : HoldsF w av ask) (hv : HoldsF w lv fs) (hB : HoldsB w v body) (hb : bulkF ask + bulkF fs + body.length ≤ 1500000) (hz : zr.length ≤ 140737488351232) (E : EvD w) (T : Tab w) (hD : DtP (getJ fs lmN) (D (getJ fs lmN))) (r : RgR) (hr : appR D ask s zr k fs body = r) :
    Calls Tryz.prog 7 #[av, .agg #[.int .i64 s, .string ⟨zr.toArray⟩, .int .i64 k, lv], v] w fun e w' => ∃ u bv, e = .returned (.tuple #[.agg #[.int .i64 r.1, .string ⟨r.2.1.toArray⟩, .int .i64 r.2.2.1, u], bv]) ∧ OwnF w u r.2.2.2.1 w' ∧ Own w bv r.2.2.2.2 w' := by
  by_cases hc : ¬ s = 200 ∨ hasA ask raN = false ∨ (rngP (getJ ask raN) body.length).1 = 190 ∨ rgHeld D ask fs = false
  · rw [appR_whole hc] at hr
    subst hr
    have hR : (⟨zr.toArray⟩ : ByteArray).size ≤ 140737488351232 := by rw [size_l]; exact hz
    obtain ⟨er, ps, hp⟩ : ∃ er ps, rngP (getJ ask raN) body.length = (er, ps) := ⟨_, _, rfl⟩
    rcases hc with h | h | h | h
    · exact appGa s k _ av lv v ask fs body D w ha hv hB hb E hD er ps hp hR h
    · refine appGb s k _ av lv v ask fs body D w ha hv hB hb E hD er ps hp hR ?_
      have e : valsOf ask raN = [] := List.eq_nil_of_length_eq_zero (by
        unfold hasA at h
        have := of_decide_eq_false h
        omega)
      have e2 : getJ ask raN = [] := by unfold getJ; rw [e]; rfl
      rw [e2, rngP_short [] _ (.inr (by decide))] at hp
      exact (Prod.mk.inj hp).1.symm
    · rw [hp] at h
      exact appGb s k _ av lv v ask fs body D w ha hv hB hb E hD er ps hp hR h
    · exact appGc s k _ av lv v ask fs body D w ha hv hB hb E hD er ps hp hR h
  · have h200 : s = 200 := Classical.byContradiction fun h => hc (.inl h)
    have hh : hasA ask raN = true := by
      cases h : hasA ask raN with
      | true => rfl
      | false => exact absurd (.inr (.inl h)) hc
    have h190 : ¬ (rngP (getJ ask raN) body.length).1 = 190 := fun h => hc (.inr (.inr (.inl h)))
    have hd : rgHeld D ask fs = true := by
      cases h : rgHeld D ask fs with
      | true => rfl
      | false => exact absurd (.inr (.inr (.inr h))) hc
    have hin := rngP_in (getJ ask raN) body.length
    have hl8 := rngP_len (getJ ask raN) body.length
    rcases rngP_cases (getJ ask raN) body.length with h | h | h
    · exact absurd h.1 h190
    · rw [appR_uns hc h.1] at hr
      subst hr
      exact appGd s k _ av lv v ask fs body D w ha hv hB hb E T hD 191 [] (Prod.ext h.1 h.2) h200 hd rfl
    · obtain ⟨P, hP⟩ : ∃ P, P = rngP (getJ ask raN) body.length := ⟨_, rfl⟩
      rw [← hP] at h hin hl8
      obtain ⟨pe, ps⟩ := P
      obtain ⟨rfl, hne⟩ := h
      dsimp only at hin hl8 hne
      match ps, hne with
      | [p], _ =>
        have hp := hin p List.mem_cons_self
        obtain ⟨p1, p2⟩ := p
        dsimp only at hp
        obtain ⟨a, rfl⟩ : ∃ a : Nat, p1 = (a : Int) := ⟨p1.toNat, by omega⟩
        obtain ⟨c, rfl⟩ : ∃ c : Nat, p2 = (c : Int) := ⟨p2.toNat, by omega⟩
        rw [appR_one hc hP.symm] at hr
        subst hr
        have e : spanB body ((a : Int), (c : Int)) = (body.drop a).take (c + 1 - a) := by
          unfold spanB
          simp only [Int.toNat_natCast]
          rw [show ((c : Int) + 1 - (a : Int)).toNat = c + 1 - a by omega]
        rw [e]
        exact appGe s k _ av lv v ask fs body D w ha hv hB hb E T hD 0 _ hP.symm h200 hd rfl a c (by omega) (by omega) rfl
      | p :: q :: r', _ =>
        rw [appR_many hc hP.symm] at hr
        subst hr
        exact appGf s k _ av lv v ask fs body D w ha hv hB hb E T hD 0 _ hP.symm h200 hd rfl (by simp)
/-- the world in which the laws of ranges begin -/
theorem parseIs (w : World) (E : EvD w) : ParseIs w := fun s z W hb hs h0 h1 => by
  refine (parseG s z W hs h0 h1 (E.2.below hb)).mono ?_
  rintro e w' ⟨r, rfl, ho⟩
  exact ⟨r, rfl, holdsX_own ho, ho.2⟩
theorem applyOwn (w : World) (E : EvD w) (T : Tab w) : ApplyOwn dtF w := fun s k zr av lv v ask fs body r W hb ha hv hB hk hz hr =>
  applyG s k zr av lv v ask fs body dtF W ha hv hB (by omega) hz (evD_below E hb) (tab_below T hb) (dtF_spec _ (by have := getJ_len fs lmN; omega)).1 r hr
theorem applyIs (w : World) (E : EvD w) (T : Tab w) : ApplyIs dtF w := fun s k zr av lv v ask fs body r W hb ha hv hB hk hz hr => by
  refine (applyOwn w E T s k zr av lv v ask fs body r W hb ha hv hB hk hz hr).mono ?_
  rintro e w' ⟨u, bv, rfl, h1, h2⟩
  exact ⟨u, bv, rfl, holdsF_own h1, holdsB_own h2, h1.2⟩
end Go.Proofs.YtipcmbonhkelbabGreatDoor
