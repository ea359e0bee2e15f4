/- What Parse says of the texts of the second and third form. -/
import Derived.Test.YtikokjclhpgocabDoorDaR
import Derived.Test.YtikokjclhpgocabDoorDaB
import Derived.Test.YtikokjclhpgocabDoorDaF
namespace Go.Proofs.YtikokjclhpgocabDoor
open Go.RowKit
theorem blank_explicit (n r y d : Int) {m : Int} (m0 : 1 ≤ m) (m1 : m ≤ 12) : ∃ a b c e f g p0 p1, (wkL n).take 3 = [a, b, c] ∧ moL m = [e, f, g] ∧ padL d = [p0, p1] ∧
    blankL n r y m d = [a, b, c, 32, e, f, g, 32, p0, p1, 32, dg (r / 3600 / 10), dg (r / 3600 % 10), 58, dg (r / 60 % 60 / 10), dg (r / 60 % 60 % 10), 58, dg (r % 60 / 10), dg (r % 60 % 10), 32, dg (y / 1000), dg (y / 100 % 10), dg (y / 10 % 10), dg (y % 10)] := by
  obtain ⟨a, b, c, e1⟩ := three (take3 n)
  obtain ⟨e, f, g, e2⟩ := three (moL_len m0 m1)
  have hp : (padL d).length = 2 := by unfold padL; split <;> rfl
  obtain ⟨p0, p1, e3⟩ : ∃ p0 p1, padL d = [p0, p1] := by
    match h : padL d, hp with
    | [p0, p1], _ => exact ⟨p0, p1, rfl⟩
  refine ⟨a, b, c, e, f, g, p0, p1, e1, e2, e3, ?_⟩
  unfold blankL
  rw [e1, e2, e3]
  rfl
def ddL (d : Int) : List UInt8 := if d < 10 then [dg d] else D2 d
set_option maxHeartbeats 1000000 in
theorem split_blank (n r y d : Int) {m : Int} (m0 : 1 ≤ m) (m1 : m ≤ 12) (d0 : 1 ≤ d) (d1 : d ≤ 31) (w : World) :
    Calls Tryd.prog 29 #[.string ⟨(blankL n r y m d).toArray⟩] w fun e w' => e = .returned (.tuple #[partsV (nameB n false) ⟨(ddL d).toArray⟩ ⟨(moL m).toArray⟩ ⟨(D4 y).toArray⟩ ⟨(hmsL r).toArray⟩ false, .bool true]) ∧ Below w.heap.size w w' := by
  obtain ⟨a, b, c, e, f, g, p0, p1, e1, e2, e3, hl⟩ := blank_explicit n r y d m0 m1
  have hd : ((p0.toNat : Int) = 32 ∧ ddL d = [p1]) ∨ (¬ (p0.toNat : Int) = 32 ∧ ¬ (p0.toNat : Int) = 48 ∧ ddL d = [p0, p1]) := by
    unfold padL at e3
    unfold ddL
    by_cases h : d < 10
    · rw [if_pos h] at e3 ⊢
      cases e3
      exact .inl ⟨rfl, rfl⟩
    · rw [if_neg h] at e3 ⊢
      have v := dg_val (a := d / 10) (by omega) (by omega)
      cases e3
      exact .inr ⟨by omega, by omega, rfl⟩
  rw [hl, name3, e1, e2]
  clear hl e1 e2 e3
  have ec : hmsL r = [dg (r / 3600 / 10), dg (r / 3600 % 10), 58, dg (r / 60 % 60 / 10), dg (r / 60 % 60 % 10), 58, dg (r % 60 / 10), dg (r % 60 % 10)] := rfl
  have ey : D4 y = [dg (y / 1000), dg (y / 100 % 10), dg (y / 10 % 10), dg (y % 10)] := rfl
  rw [ec, ey]
  generalize dg (r / 3600 / 10) = h1
  generalize dg (r / 3600 % 10) = h2
  generalize dg (r / 60 % 60 / 10) = i1
  generalize dg (r / 60 % 60 % 10) = i2
  generalize dg (r % 60 / 10) = s1
  generalize dg (r % 60 % 10) = s2
  generalize dg (y / 1000) = y1
  generalize dg (y / 100 % 10) = y2
  generalize dg (y / 10 % 10) = y3
  generalize dg (y % 10) = y4
  generalize ddL d = dl at hd ⊢
  clear ec ey
  refine split24 _ rfl _ _ _ _ _ _ _ w (fun W _ => ?_)
  have h := splitBlank_yes ⟨[a, b, c, 32, e, f, g, 32, p0, p1, 32, h1, h2, 58, i1, i2, 58, s1, s2, 32, y1, y2, y3, y4].toArray⟩ ⟨[p0, p1].toArray⟩ ⟨dl.toArray⟩ rfl rfl rfl rfl rfl (ext_lit _ 8 10 [p0, p1] rfl) rfl (by
    rcases hd with ⟨q1, q2⟩ | ⟨q1, q2, q3⟩
    · exact .inl ⟨q1, by rw [q2, ext_lit _ 1 2 [p1] rfl]⟩
    · exact .inr ⟨q1, q2, by rw [q3]⟩) W
  rw [ext_lit _ 0 3 [a, b, c] rfl, ext_lit _ 4 7 [e, f, g] rfl, ext_lit _ 20 24 [y1, y2, y3, y4] rfl, ext_lit _ 11 19 [h1, h2, 58, i1, i2, 58, s1, s2] rfl] at h
  exact h
theorem num_dd {d : Int} (d0 : 1 ≤ d) (d1 : d ≤ 31) : NumIs ⟨(ddL d).toArray⟩ d true := by
  unfold ddL
  split
  · exact num_D1 (by omega) (by omega)
  · exact num_D2 (by omega) (by omega)
theorem parse_blank (t y m d : Int) (hv : Valid y m d) (hd : dayOf y m d = t / 86400) (w : World) (V : Vars w) :
    Calls Tryd.prog 17 #[.string ⟨(blankL (t / 86400) (t % 86400) y m d).toArray⟩] w fun e w' => e = .returned (.tuple #[.int .i64 t, .int .i64 0]) ∧ Below w.heap.size w w' := by
  have dL := mlen_in y hv.m0 hv.m1
  have := hv.d0; have := hv.d1; have := hv.y0; have := hv.y1
  refine parse_end _ _ _ _ _ _ false y m d (t % 86400) ⟨num_D4 (by omega) (by omega), fun w V => read_month hv.m0 hv.m1 w V, num_dd (by omega) (by omega), fun w => read_clock (by omega) (by omega) w⟩ hv (by omega) (by omega) t 0 (.inl ⟨?_, ?_, rfl⟩) w V (split_blank (t / 86400) (t % 86400) y d hv.m0 hv.m1 (by omega) (by omega) w)
  · rw [hd]
  · rw [hd]; omega
/-- what stands behind the comma and the blank -/
def restL (r y m d : Int) : List UInt8 := D2 d ++ [45] ++ moL m ++ [45] ++ D2 (y % 100) ++ [32] ++ hmsL r ++ [32, 71, 77, 84]
theorem dash_split (n r y m d : Int) : dashL n r y m d = wkL n ++ ([44, 32] ++ restL r y m d) := by simp [dashL, restL]
theorem cut_week (n : Int) (l : List UInt8) : Lib.cut (wkL n ++ ([44, 32] ++ l)) [44, 32] = (wkL n, l, true) := by
  have hi : Lib.index (wkL n ++ ([44, 32] ++ l)) [44, 32] = (wkL n).length := by
    unfold wkL
    rcases seven n with h | h | h | h | h | h | h <;> rw [h] <;> simp [wtab, Lib.index, List.isPrefixOf]
  unfold Lib.cut
  rw [hi, if_pos (by omega), Int.toNat_natCast]
  simp
theorem rest_explicit (r y d : Int) {m : Int} (m0 : 1 ≤ m) (m1 : m ≤ 12) : ∃ e f g, moL m = [e, f, g] ∧
    restL r y m d = [dg (d / 10), dg (d % 10), 45, e, f, g, 45, dg (y % 100 / 10), dg (y % 100 % 10), 32, dg (r / 3600 / 10), dg (r / 3600 % 10), 58, dg (r / 60 % 60 / 10), dg (r / 60 % 60 % 10), 58, dg (r % 60 / 10), dg (r % 60 % 10), 32, 71, 77, 84] := by
  obtain ⟨e, f, g, e2⟩ := three (moL_len m0 m1)
  refine ⟨e, f, g, e2, ?_⟩
  unfold restL
  rw [e2]
  rfl
theorem century {y : Int} (y0 : 1970 ≤ y) (y1 : y < 2070) : (55 ≤ ((dg (y % 100 / 10)).toNat : Int) ∧ D4 y = [49, 57] ++ D2 (y % 100)) ∨ (((dg (y % 100 / 10)).toNat : Int) < 55 ∧ D4 y = [50, 48] ++ D2 (y % 100)) := by
  have v := dg_val (a := y % 100 / 10) (by omega) (by omega)
  by_cases h : y < 2000
  · refine .inl ⟨by omega, ?_⟩
    unfold D4 D2
    rw [show y / 1000 = 1 by omega, show y / 100 % 10 = 9 by omega, show y / 10 % 10 = y % 100 / 10 by omega, show y % 10 = y % 100 % 10 by omega]
    rfl
  · refine .inr ⟨by omega, ?_⟩
    unfold D4 D2
    rw [show y / 1000 = 2 by omega, show y / 100 % 10 = 0 by omega, show y / 10 % 10 = y % 100 / 10 by omega, show y % 10 = y % 100 % 10 by omega]
    rfl
set_option maxHeartbeats 1000000 in
theorem split_dash (n r y d : Int) {m : Int} (m0 : 1 ≤ m) (m1 : m ≤ 12) (y0 : 1970 ≤ y) (y1 : y < 2070) (w : World) (M : MaxVD w) :
    Calls Tryd.prog 29 #[.string ⟨(dashL n r y m d).toArray⟩] w fun e w' => e = .returned (.tuple #[partsV (nameB n true) ⟨(D2 d).toArray⟩ ⟨(moL m).toArray⟩ ⟨(D4 y).toArray⟩ ⟨(hmsL r).toArray⟩ true, .bool true]) ∧ Below w.heap.size w w' := by
  have lw := wkL_len n
  obtain ⟨e, f, g, e2, hl⟩ := rest_explicit r y d m0 m1
  have hz : (dashL n r y m d).length = (wkL n).length + 24 := by rw [dash_split, hl]; simp
  have hsz : (⟨(dashL n r y m d).toArray⟩ : ByteArray).size = (wkL n).length + 24 := hz
  have cC := cutCode ⟨(dashL n r y m d).toArray⟩ (by rw [hsz]; omega)
  rw [show (⟨(dashL n r y m d).toArray⟩ : ByteArray).data.toList = dashL n r y m d from rfl, dash_split, cut_week] at cC
  rw [← dash_split] at cC
  rw [hl] at cC
  have cy := century y0 y1
  refine splitOther _ (by rw [hsz]; omega) (by rw [hsz]; omega) _ _ _ _ _ _ _ w (fun W hW => ?_)
  have cW := cC W (M.below hW)
  rw [e2]
  have en : nameB n true = ⟨(wkL n).toArray⟩ := by unfold nameB; simp
  rw [en]
  have ec : hmsL r = [dg (r / 3600 / 10), dg (r / 3600 % 10), 58, dg (r / 60 % 60 / 10), dg (r / 60 % 60 % 10), 58, dg (r % 60 / 10), dg (r % 60 % 10)] := rfl
  have ed : D2 d = [dg (d / 10), dg (d % 10)] := rfl
  have eq2 : D2 (y % 100) = [dg (y % 100 / 10), dg (y % 100 % 10)] := rfl
  rw [ec, ed]
  rw [eq2] at cy
  generalize dg (r / 3600 / 10) = h1 at *
  generalize dg (r / 3600 % 10) = h2 at *
  generalize dg (r / 60 % 60 / 10) = i1 at *
  generalize dg (r / 60 % 60 % 10) = i2 at *
  generalize dg (r % 60 / 10) = s1 at *
  generalize dg (r % 60 % 10) = s2 at *
  generalize dg (d / 10) = d1 at *
  generalize dg (d % 10) = d2 at *
  generalize dg (y % 100 / 10) = q1 at *
  generalize dg (y % 100 % 10) = q2 at *
  obtain ⟨ce, hc, hce⟩ : ∃ ce : ByteArray, ((55 ≤ (q1.toNat : Int) ∧ ce = ⟨#[49, 57]⟩) ∨ ((q1.toNat : Int) < 55 ∧ ce = ⟨#[50, 48]⟩)) ∧ ce ++ ⟨[q1, q2].toArray⟩ = (⟨(D4 y).toArray⟩ : ByteArray) := by
    rcases cy with ⟨c1, c2⟩ | ⟨c1, c2⟩
    · exact ⟨_, .inl ⟨c1, rfl⟩, by rw [c2]; rfl⟩
    · exact ⟨_, .inr ⟨c1, rfl⟩, by rw [c2]; rfl⟩
  have h := splitDashed_yes ⟨(dashL n r y m d).toArray⟩ ⟨(wkL n).toArray⟩ ⟨[d1, d2, 45, e, f, g, 45, q1, q2, 32, h1, h2, 58, i1, i2, 58, s1, s2, 32, 71, 77, 84].toArray⟩ ce rfl rfl rfl rfl (ext_lit _ 18 22 [32, 71, 77, 84] rfl) hc W cW
  rw [ext_lit _ 0 2 [d1, d2] rfl, ext_lit _ 3 6 [e, f, g] rfl, ext_lit _ 7 9 [q1, q2] rfl, ext_lit _ 10 18 [h1, h2, 58, i1, i2, 58, s1, s2] rfl, hce] at h
  exact h
theorem parse_dash (t y m d : Int) (hv : Valid y m d) (hd : dayOf y m d = t / 86400) (hy : y < 2070) (w : World) (V : Vars w) (M : MaxVD w) :
    Calls Tryd.prog 17 #[.string ⟨(dashL (t / 86400) (t % 86400) y m d).toArray⟩] w fun e w' => e = .returned (.tuple #[.int .i64 t, .int .i64 0]) ∧ Below w.heap.size w w' := by
  have dL := mlen_in y hv.m0 hv.m1
  have := hv.d0; have := hv.d1; have := hv.y0; have := hv.y1
  refine parse_end _ _ _ _ _ _ true y m d (t % 86400) ⟨num_D4 (by omega) (by omega), fun w V => read_month hv.m0 hv.m1 w V, num_D2 (by omega) (by omega), fun w => read_clock (by omega) (by omega) w⟩ hv (by omega) (by omega) t 0 (.inl ⟨?_, ?_, rfl⟩) w V (split_dash (t / 86400) (t % 86400) y d hv.m0 hv.m1 (by omega) hy w M)
  · rw [hd]
  · rw [hd]; omega
end Go.Proofs.YtikokjclhpgocabDoor
