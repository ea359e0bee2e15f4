/- The contract of alive. -/
import Derived.Test.YtijnjgnckipghaaGreatBw16
import Derived.Test.YtijnjgnckipghaaGreatBdE
namespace Go.Proofs.YtijnjgnckipghaaGreat
open Go.RowKit Go.Shelf
set_option maxRecDepth 20000
def av0 : Dk := newS [] 999 [] (-1)
def rdN (st : LSt) : (LSt × Int) × RL := (beginT st, [])
def avq : OSt × Int := openT rdN av0
def av1 : Dk := avq.1.1.1
def ava : LSt × Int := addT 1 0 [97] (av1, 0)
theorem av_r : remU (av0, 0) = ((av0, 0), 0) := by unfold remU; rw [if_neg (by decide)]
theorem av_read : (av0.read lgN).2 = 90 := by decide
theorem av_q2 : avq.2 = 0 := by decide
theorem av_q1 : avq.1.2 = [] := by decide
theorem av_n : av1.n = 3 := by decide
theorem av_a2 : ava.2 = 0 := by decide
theorem av_ac : ava.1.2 = 1 := by decide
theorem av_an : ava.1.1.n = 5 := by decide
theorem av_au : ava.1.1.used = 16 := by decide
theorem av_b0 : Bd 100 av0 := bd_new _ _ _ _ _ (by decide) (fun f h => by cases h)
set_option maxHeartbeats 4000000 in
theorem aliveL (w : World) : Calls Tryz.prog 4 #[] w fun e w' => e = .returned (.bool true) ∧ Below w.heap.size w w' := by
  have CN := hide' (newC (.slice none 0 0) [] 999 (.slice none 0 0) [] (-1) w ⟨none, 0, rfl, fun _ => rfl, Nat.le_refl _, fun h => absurd rfl h⟩ ⟨none, 0, rfl, fun _ => rfl, Nat.le_refl _, fun h => absurd rfl h⟩ (fun f h => by cases h) (by decide) (by decide) (fun z h => by cases h))
  go_enter Tryz.func4, Tryz.ntmps4
  go_wp2_with fail
  refine CN.out.mono ?_
  intro e w1 np
  obtain ⟨nb, ⟨ne, _⟩ | ⟨_, g, o, rfl, hD, hO⟩⟩ := np
  · exact absurd rfl ne
  have CO := hide' (openC (s := av0) hD 100 6 av_b0 (by decide) (by decide) rdN (fun lb o' w2 hl hb => by
    rw [av_r] at hl hb ⊢
    refine (readNone hl 106 (by decide) hb av_read).mono ?_
    rintro e w3 ⟨p1, p2⟩
    exact ⟨p1, p2⟩))
  have NB := hide' nb
  have HO := hide' hO
  clear CN hD hO nb
  go_wp2_with fail
  refine CO.out.mono ?_
  rintro e w2 ⟨op, hbd⟩
  obtain ⟨ne, _⟩ | ⟨_, lb, lv, o', rfl, hl, hg, hlb, hr⟩ := op
  · exact absurd av_q2 ne
  have hl2 : LogS o' g lb av1 0 w2 := by
    have h := hl
    rw [show (openT rdN av0).1.2 = [] from av_q1] at h
    exact h
  obtain ⟨la, lc, hlv, _⟩ := id hr.1
  rw [show (openT rdN av0).1.2 = [] from av_q1] at hlv
  subst hlv
  have CS := hide' (stepsC hl2.dsk)
  rw [av_n] at CS
  have CA := hide' (addC hl2 112 hbd 1 0 [97] (by decide) (by decide))
  rw [show (addT 1 0 [97] (av1, 0)) = ava from rfl] at CA
  have B2 : Hid (Below w.heap.size w w2) := by
    have h1 := hg.off.below (C := w1.heap.size)
    exact NB.out.trans ((hg.off.below NB.out.size HO.out))
  have HG := hide' hg
  have HLB : Hid (w.heap.size ≤ lb) := Nat.le_trans NB.out.size hlb
  have HO2 : Hid (∀ k, o'.has k → w.heap.size ≤ k) := fun k hk => by
    rcases hg.new k hk with h1 | h1
    · exact HO.out k h1
    · exact Nat.le_trans NB.out.size h1
  clear hl hl2 hg hlb hr hbd CO
  go_wp2_with fail
  refine CS.out.mono ?_
  rintro e w3 ⟨rfl, ew⟩
  rw [ew]
  clear ew w3
  go_wp2_with fail
  refine CA.out.mono ?_
  rintro e w3 ⟨⟨rfl, o2, hl3, hg3⟩, hbd3⟩
  rw [av_a2]
  have CC := hide' (countL hl3)
  rw [av_ac] at CC
  have CT := hide' (stepsC hl3.dsk)
  rw [av_an] at CT
  have CU := hide' (usedC hl3.dsk (bd_mono hbd3 (by decide)))
  rw [av_au] at CU
  have B3 : Hid (Below w.heap.size w w3) := B2.out.trans (hg3.off.below B2.out.size (fun k hk => by
    rcases hk with hk | hk
    · exact HO2.out k hk
    · rw [hk]; exact HLB.out))
  clear hl3 hg3 hbd3 CA CS
  go_wp2_with fail
  refine CC.out.mono ?_
  rintro e w4 ⟨rfl, ew⟩
  rw [ew]
  clear ew w4
  go_wp2_with fail
  refine CT.out.mono ?_
  rintro e w4 ⟨rfl, ew⟩
  rw [ew]
  clear ew w4
  go_wp2_with fail
  refine CU.out.mono ?_
  rintro e w4 ⟨rfl, hb4⟩
  have B4 := hide' (B3.out.trans (hb4.mono B3.out.size))
  clear hb4
  go_wp2_with fail
  go_ret
  exact ⟨rfl, B4.out⟩
end Go.Proofs.YtijnjgnckipghaaGreat
