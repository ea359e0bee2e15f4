/- What the document's Parse answers to any text, and the walk of the law DateParses. The contracts of the document's cut, second, has, date, among. Each text says a second or none. -/
import Derived.Test.YtlhhcpbfjjhbfaaGreatDoorDaZ
import Derived.Test.YtlhhcpbfjjhbfaaGreatDoorDaY29
import Derived.Test.YtlhhcpbfjjhbfaaGreatDoorDaY24
import Derived.Test.YtlhhcpbfjjhbfaaGreatDoorDaY30
import Derived.Test.YtlhhcpbfjjhbfaaGreatDoorDaY31
import Derived.Test.YtlhhcpbfjjhbfaaGreatDoorDaY32
import Derived.Test.YtlhhcpbfjjhbfaaGreatDoorDaY33
import Derived.Test.YtlhhcpbfjjhbfaaGreatDoorFhB
import Derived.Test.YtlhhcpbfjjhbfaaGreatDoorKnJ
namespace Go.Proofs.YtlhhcpbfjjhbfaaGreatDoor
open Go.RowKit
theorem refAny29 (s : ByteArray) (hs : s.size = 29) : RefAns s 0 20 ∨ ∃ t, IsForm s.data.toList t ∧ RefAns s t 0 := by
  obtain ⟨j, j0, j1, he, hne⟩ := month_ref (s.extract 8 11)
  obtain ⟨Y, hYY⟩ : ∃ Y, Y = refNum (seg s 12 16) := ⟨_, rfl⟩
  obtain ⟨v, e, ho, hr⟩ := out_ex s (by omega) Y j (refNum (seg s 5 7)) (refNum (seg s 17 19)) (refNum (seg s 20 22)) (refNum (seg s 23 25))
  have h : RefAns s v e := fun w => refP29 s hs _ _ Y _ _ _ j rfl rfl rfl rfl rfl hYY j0 j1 he hne v e ho w
  rcases hr with ⟨rfl, rfl⟩ | ⟨rfl, hf⟩
  · exact .inl h
  · exact .inr ⟨v, hf, h⟩
theorem refAny24 (s : ByteArray) (hs : s.size = 24) : RefAns s 0 20 ∨ ∃ t, IsForm s.data.toList t ∧ RefAns s t 0 := by
  obtain ⟨j, j0, j1, he, hne⟩ := month_ref (s.extract 4 7)
  obtain ⟨Y, hYY⟩ : ∃ Y, Y = refNum (seg s 20 24) := ⟨_, rfl⟩
  obtain ⟨v, e, ho, hr⟩ := out_ex s (by omega) Y j (refNum (seg s 8 10)) (refNum (seg s 11 13)) (refNum (seg s 14 16)) (refNum (seg s 17 19))
  have h : RefAns s v e := fun w => refP24 s hs _ _ Y _ _ _ j rfl rfl rfl rfl rfl hYY j0 j1 he hne v e ho w
  rcases hr with ⟨rfl, rfl⟩ | ⟨rfl, hf⟩
  · exact .inl h
  · exact .inr ⟨v, hf, h⟩
theorem refAny30 (s : ByteArray) (hs : s.size = 30) : RefAns s 0 20 ∨ ∃ t, IsForm s.data.toList t ∧ RefAns s t 0 := by
  obtain ⟨j, j0, j1, he, hne⟩ := month_ref (s.extract 11 14)
  obtain ⟨Y, hYY⟩ : ∃ Y, (70 ≤ refNum (seg s 15 17) ∧ Y = refNum (seg s 15 17) + 1900) ∨ (0 ≤ refNum (seg s 15 17) ∧ refNum (seg s 15 17) < 70 ∧ Y = refNum (seg s 15 17) + 2000) ∨ (refNum (seg s 15 17) < 0 ∧ Y = refNum (seg s 15 17)) := by
    by_cases a : 70 ≤ refNum (seg s 15 17)
    · exact ⟨_, .inl ⟨a, rfl⟩⟩
    · by_cases b : 0 ≤ refNum (seg s 15 17)
      · exact ⟨_, .inr (.inl ⟨b, by omega, rfl⟩)⟩
      · exact ⟨_, .inr (.inr ⟨by omega, rfl⟩)⟩
  obtain ⟨v, e, ho, hr⟩ := out_ex s (by omega) Y j (refNum (seg s 8 10)) (refNum (seg s 18 20)) (refNum (seg s 21 23)) (refNum (seg s 24 26))
  have h : RefAns s v e := fun w => refP30 s hs _ _ Y _ _ _ j rfl rfl rfl rfl rfl hYY j0 j1 he hne v e ho w
  rcases hr with ⟨rfl, rfl⟩ | ⟨rfl, hf⟩
  · exact .inl h
  · exact .inr ⟨v, hf, h⟩
theorem refAny31 (s : ByteArray) (hs : s.size = 31) : RefAns s 0 20 ∨ ∃ t, IsForm s.data.toList t ∧ RefAns s t 0 := by
  obtain ⟨j, j0, j1, he, hne⟩ := month_ref (s.extract 12 15)
  obtain ⟨Y, hYY⟩ : ∃ Y, (70 ≤ refNum (seg s 16 18) ∧ Y = refNum (seg s 16 18) + 1900) ∨ (0 ≤ refNum (seg s 16 18) ∧ refNum (seg s 16 18) < 70 ∧ Y = refNum (seg s 16 18) + 2000) ∨ (refNum (seg s 16 18) < 0 ∧ Y = refNum (seg s 16 18)) := by
    by_cases a : 70 ≤ refNum (seg s 16 18)
    · exact ⟨_, .inl ⟨a, rfl⟩⟩
    · by_cases b : 0 ≤ refNum (seg s 16 18)
      · exact ⟨_, .inr (.inl ⟨b, by omega, rfl⟩)⟩
      · exact ⟨_, .inr (.inr ⟨by omega, rfl⟩)⟩
  obtain ⟨v, e, ho, hr⟩ := out_ex s (by omega) Y j (refNum (seg s 9 11)) (refNum (seg s 19 21)) (refNum (seg s 22 24)) (refNum (seg s 25 27))
  have h : RefAns s v e := fun w => refP31 s hs _ _ Y _ _ _ j rfl rfl rfl rfl rfl hYY j0 j1 he hne v e ho w
  rcases hr with ⟨rfl, rfl⟩ | ⟨rfl, hf⟩
  · exact .inl h
  · exact .inr ⟨v, hf, h⟩
theorem refAny32 (s : ByteArray) (hs : s.size = 32) : RefAns s 0 20 ∨ ∃ t, IsForm s.data.toList t ∧ RefAns s t 0 := by
  obtain ⟨j, j0, j1, he, hne⟩ := month_ref (s.extract 13 16)
  obtain ⟨Y, hYY⟩ : ∃ Y, (70 ≤ refNum (seg s 17 19) ∧ Y = refNum (seg s 17 19) + 1900) ∨ (0 ≤ refNum (seg s 17 19) ∧ refNum (seg s 17 19) < 70 ∧ Y = refNum (seg s 17 19) + 2000) ∨ (refNum (seg s 17 19) < 0 ∧ Y = refNum (seg s 17 19)) := by
    by_cases a : 70 ≤ refNum (seg s 17 19)
    · exact ⟨_, .inl ⟨a, rfl⟩⟩
    · by_cases b : 0 ≤ refNum (seg s 17 19)
      · exact ⟨_, .inr (.inl ⟨b, by omega, rfl⟩)⟩
      · exact ⟨_, .inr (.inr ⟨by omega, rfl⟩)⟩
  obtain ⟨v, e, ho, hr⟩ := out_ex s (by omega) Y j (refNum (seg s 10 12)) (refNum (seg s 20 22)) (refNum (seg s 23 25)) (refNum (seg s 26 28))
  have h : RefAns s v e := fun w => refP32 s hs _ _ Y _ _ _ j rfl rfl rfl rfl rfl hYY j0 j1 he hne v e ho w
  rcases hr with ⟨rfl, rfl⟩ | ⟨rfl, hf⟩
  · exact .inl h
  · exact .inr ⟨v, hf, h⟩
theorem refAny33 (s : ByteArray) (hs : s.size = 33) : RefAns s 0 20 ∨ ∃ t, IsForm s.data.toList t ∧ RefAns s t 0 := by
  obtain ⟨j, j0, j1, he, hne⟩ := month_ref (s.extract 14 17)
  obtain ⟨Y, hYY⟩ : ∃ Y, (70 ≤ refNum (seg s 18 20) ∧ Y = refNum (seg s 18 20) + 1900) ∨ (0 ≤ refNum (seg s 18 20) ∧ refNum (seg s 18 20) < 70 ∧ Y = refNum (seg s 18 20) + 2000) ∨ (refNum (seg s 18 20) < 0 ∧ Y = refNum (seg s 18 20)) := by
    by_cases a : 70 ≤ refNum (seg s 18 20)
    · exact ⟨_, .inl ⟨a, rfl⟩⟩
    · by_cases b : 0 ≤ refNum (seg s 18 20)
      · exact ⟨_, .inr (.inl ⟨b, by omega, rfl⟩)⟩
      · exact ⟨_, .inr (.inr ⟨by omega, rfl⟩)⟩
  obtain ⟨v, e, ho, hr⟩ := out_ex s (by omega) Y j (refNum (seg s 11 13)) (refNum (seg s 21 23)) (refNum (seg s 24 26)) (refNum (seg s 27 29))
  have h : RefAns s v e := fun w => refP33 s hs _ _ Y _ _ _ j rfl rfl rfl rfl rfl hYY j0 j1 he hne v e ho w
  rcases hr with ⟨rfl, rfl⟩ | ⟨rfl, hf⟩
  · exact .inl h
  · exact .inr ⟨v, hf, h⟩
theorem ref_any (s : ByteArray) : RefAns s 0 20 ∨ ∃ t, IsForm s.data.toList t ∧ RefAns s t 0 := by
  by_cases h29 : s.size = 29
  · exact refAny29 s h29
  · by_cases h24 : s.size = 24
    · exact refAny24 s h24
    · by_cases h : s.size < 30 ∨ 33 < s.size
      · exact .inl (refOther s h29 h24 h)
      · have : s.size = 30 ∨ s.size = 31 ∨ s.size = 32 ∨ s.size = 33 := by omega
        rcases this with h | h | h | h
        · exact refAny30 s h
        · exact refAny31 s h
        · exact refAny32 s h
        · exact refAny33 s h
theorem show_explicit (n r y d : Int) {m : Int} (m0 : 1 ≤ m) (m1 : m ≤ 12) : ∃ a b c e f g, (wkL n).take 3 = [a, b, c] ∧ moL m = [e, f, g] ∧
    showL n r y m d = [a, b, c, 44, 32, dg (d / 10), dg (d % 10), 32, e, f, g, 32, dg (y / 1000), dg (y / 100 % 10), dg (y / 10 % 10), dg (y % 10), 32, dg (r / 3600 / 10), dg (r / 3600 % 10), 58, dg (r / 60 % 60 / 10), dg (r / 60 % 60 % 10), 58, dg (r % 60 / 10), dg (r % 60 % 10), 32, 71, 77, 84] := by
  obtain ⟨a, b, c, e1⟩ := three (take3 n)
  obtain ⟨e, f, g, e2⟩ := three (moL_len m0 m1)
  refine ⟨a, b, c, e, f, g, e1, e2, ?_⟩
  unfold showL
  rw [e1, e2]
  rfl
theorem refShow (t y m d : Int) (hv : Valid y m d) (hd : dayOf y m d = t / 86400) : RefAns ⟨(showL (t / 86400) (t % 86400) y m d).toArray⟩ t 0 := by
  have dL := mlen_in y hv.m0 hv.m1
  have a0 := hv.d0
  have a1 := hv.d1
  have a2 := hv.y0
  have a3 := hv.y1
  obtain ⟨a, b, c, e, f, g, e1, e2, hl⟩ := show_explicit (t / 86400) (t % 86400) y d hv.m0 hv.m1
  intro w
  have s1 : seg ⟨(showL (t / 86400) (t % 86400) y m d).toArray⟩ 5 7 = D2 d := by rw [hl]; rfl
  have s2 : seg ⟨(showL (t / 86400) (t % 86400) y m d).toArray⟩ 12 16 = D4 y := by rw [hl]; rfl
  have s3 : seg ⟨(showL (t / 86400) (t % 86400) y m d).toArray⟩ 17 19 = D2 (t % 86400 / 3600) := by rw [hl]; rfl
  have s4 : seg ⟨(showL (t / 86400) (t % 86400) y m d).toArray⟩ 20 22 = D2 (t % 86400 / 60 % 60) := by rw [hl]; rfl
  have s5 : seg ⟨(showL (t / 86400) (t % 86400) y m d).toArray⟩ 23 25 = D2 (t % 86400 % 60) := by rw [hl]; rfl
  have s6 : (⟨(showL (t / 86400) (t % 86400) y m d).toArray⟩ : ByteArray).extract 8 11 = ⟨(moL m).toArray⟩ := by rw [hl, e2]; exact ext_lit _ 8 11 [e, f, g] rfl
  have s7 : (⟨(showL (t / 86400) (t % 86400) y m d).toArray⟩ : ByteArray).size = 29 := by rw [hl]; rfl
  exact refP29 _ s7 d y y _ _ _ m (by rw [s1]; exact ref_D2 (by omega) (by omega)) (by rw [s2]; exact ref_D4 (by omega) (by omega)) (by rw [s3]; exact ref_D2 (by omega) (by omega)) (by rw [s4]; exact ref_D2 (by omega) (by omega)) (by rw [s5]; exact ref_D2 (by omega) (by omega)) rfl (by have := hv.m0; omega) hv.m1 (fun _ => s6) (fun i i0 i1 hi => by rw [s6]; exact moL_ne i0 i1 hv.m0 hv.m1 hi) t 0 (out_of _ t y m d hv hd (.inl rfl)) w
theorem refBlank (t y m d : Int) (hv : Valid y m d) (hd : dayOf y m d = t / 86400) : RefAns ⟨(blankL (t / 86400) (t % 86400) y m d).toArray⟩ t 0 := by
  have dL := mlen_in y hv.m0 hv.m1
  have a0 := hv.d0
  have a1 := hv.d1
  have a2 := hv.y0
  have a3 := hv.y1
  obtain ⟨a, b, c, e, f, g, p0, p1, e1, e2, e3, hl⟩ := blank_explicit (t / 86400) (t % 86400) y d hv.m0 hv.m1
  intro w
  have s1 : seg ⟨(blankL (t / 86400) (t % 86400) y m d).toArray⟩ 8 10 = padL d := by rw [hl]; rw [e3]; rfl
  have s2 : seg ⟨(blankL (t / 86400) (t % 86400) y m d).toArray⟩ 20 24 = D4 y := by rw [hl]; rfl
  have s3 : seg ⟨(blankL (t / 86400) (t % 86400) y m d).toArray⟩ 11 13 = D2 (t % 86400 / 3600) := by rw [hl]; rfl
  have s4 : seg ⟨(blankL (t / 86400) (t % 86400) y m d).toArray⟩ 14 16 = D2 (t % 86400 / 60 % 60) := by rw [hl]; rfl
  have s5 : seg ⟨(blankL (t / 86400) (t % 86400) y m d).toArray⟩ 17 19 = D2 (t % 86400 % 60) := by rw [hl]; rfl
  have s6 : (⟨(blankL (t / 86400) (t % 86400) y m d).toArray⟩ : ByteArray).extract 4 7 = ⟨(moL m).toArray⟩ := by rw [hl, e2]; exact ext_lit _ 4 7 [e, f, g] rfl
  have s7 : (⟨(blankL (t / 86400) (t % 86400) y m d).toArray⟩ : ByteArray).size = 24 := by rw [hl]; rfl
  exact refP24 _ s7 d y y _ _ _ m (by rw [s1]; exact ref_pad (by omega) (by omega)) (by rw [s2]; exact ref_D4 (by omega) (by omega)) (by rw [s3]; exact ref_D2 (by omega) (by omega)) (by rw [s4]; exact ref_D2 (by omega) (by omega)) (by rw [s5]; exact ref_D2 (by omega) (by omega)) rfl (by have := hv.m0; omega) hv.m1 (fun _ => s6) (fun i i0 i1 hi => by rw [s6]; exact moL_ne i0 i1 hv.m0 hv.m1 hi) t 0 (out_of _ t y m d hv hd (.inr (.inr rfl))) w
theorem refDash30 (t y m d : Int) (hv : Valid y m d) (hd : dayOf y m d = t / 86400) (hy : y < 2070) (hw : (wkL (t / 86400)).length = 6) : RefAns ⟨(dashL (t / 86400) (t % 86400) y m d).toArray⟩ t 0 := by
  have dL := mlen_in y hv.m0 hv.m1
  have a0 := hv.d0
  have a1 := hv.d1
  have a2 := hv.y0
  have a3 := hv.y1
  obtain ⟨e, f, g, e2, hr⟩ := rest_explicit (t % 86400) y d hv.m0 hv.m1
  obtain ⟨w0, w1, w2, w3, w4, w5, ew⟩ : ∃ w0 w1 w2 w3 w4 w5, wkL (t / 86400) = [w0, w1, w2, w3, w4, w5] := by
    match h : wkL (t / 86400), hw with
    | [w0, w1, w2, w3, w4, w5], _ => exact ⟨w0, w1, w2, w3, w4, w5, rfl⟩
  have hl := dash_split (t / 86400) (t % 86400) y m d
  rw [hr, ew] at hl
  intro w
  have s1 : seg ⟨(dashL (t / 86400) (t % 86400) y m d).toArray⟩ 8 10 = D2 d := by rw [hl]; rfl
  have s2 : seg ⟨(dashL (t / 86400) (t % 86400) y m d).toArray⟩ 15 17 = D2 (y % 100) := by rw [hl]; rfl
  have s3 : seg ⟨(dashL (t / 86400) (t % 86400) y m d).toArray⟩ 18 20 = D2 (t % 86400 / 3600) := by rw [hl]; rfl
  have s4 : seg ⟨(dashL (t / 86400) (t % 86400) y m d).toArray⟩ 21 23 = D2 (t % 86400 / 60 % 60) := by rw [hl]; rfl
  have s5 : seg ⟨(dashL (t / 86400) (t % 86400) y m d).toArray⟩ 24 26 = D2 (t % 86400 % 60) := by rw [hl]; rfl
  have s6 : (⟨(dashL (t / 86400) (t % 86400) y m d).toArray⟩ : ByteArray).extract 11 14 = ⟨(moL m).toArray⟩ := by rw [hl, e2]; exact ext_lit _ 11 14 [e, f, g] rfl
  have s7 : (⟨(dashL (t / 86400) (t % 86400) y m d).toArray⟩ : ByteArray).size = 30 := by rw [hl]; rfl
  exact refP30 _ s7 d (y % 100) y _ _ _ m (by rw [s1]; exact ref_D2 (by omega) (by omega)) (by rw [s2]; exact ref_D2 (by omega) (by omega)) (by rw [s3]; exact ref_D2 (by omega) (by omega)) (by rw [s4]; exact ref_D2 (by omega) (by omega)) (by rw [s5]; exact ref_D2 (by omega) (by omega)) (by omega) (by have := hv.m0; omega) hv.m1 (fun _ => s6) (fun i i0 i1 hi => by rw [s6]; exact moL_ne i0 i1 hv.m0 hv.m1 hi) t 0 (out_of _ t y m d hv hd (.inr (.inl (by unfold dash2L; rw [if_pos hy])))) w
theorem refDash31 (t y m d : Int) (hv : Valid y m d) (hd : dayOf y m d = t / 86400) (hy : y < 2070) (hw : (wkL (t / 86400)).length = 7) : RefAns ⟨(dashL (t / 86400) (t % 86400) y m d).toArray⟩ t 0 := by
  have dL := mlen_in y hv.m0 hv.m1
  have a0 := hv.d0
  have a1 := hv.d1
  have a2 := hv.y0
  have a3 := hv.y1
  obtain ⟨e, f, g, e2, hr⟩ := rest_explicit (t % 86400) y d hv.m0 hv.m1
  obtain ⟨w0, w1, w2, w3, w4, w5, w6, ew⟩ : ∃ w0 w1 w2 w3 w4 w5 w6, wkL (t / 86400) = [w0, w1, w2, w3, w4, w5, w6] := by
    match h : wkL (t / 86400), hw with
    | [w0, w1, w2, w3, w4, w5, w6], _ => exact ⟨w0, w1, w2, w3, w4, w5, w6, rfl⟩
  have hl := dash_split (t / 86400) (t % 86400) y m d
  rw [hr, ew] at hl
  intro w
  have s1 : seg ⟨(dashL (t / 86400) (t % 86400) y m d).toArray⟩ 9 11 = D2 d := by rw [hl]; rfl
  have s2 : seg ⟨(dashL (t / 86400) (t % 86400) y m d).toArray⟩ 16 18 = D2 (y % 100) := by rw [hl]; rfl
  have s3 : seg ⟨(dashL (t / 86400) (t % 86400) y m d).toArray⟩ 19 21 = D2 (t % 86400 / 3600) := by rw [hl]; rfl
  have s4 : seg ⟨(dashL (t / 86400) (t % 86400) y m d).toArray⟩ 22 24 = D2 (t % 86400 / 60 % 60) := by rw [hl]; rfl
  have s5 : seg ⟨(dashL (t / 86400) (t % 86400) y m d).toArray⟩ 25 27 = D2 (t % 86400 % 60) := by rw [hl]; rfl
  have s6 : (⟨(dashL (t / 86400) (t % 86400) y m d).toArray⟩ : ByteArray).extract 12 15 = ⟨(moL m).toArray⟩ := by rw [hl, e2]; exact ext_lit _ 12 15 [e, f, g] rfl
  have s7 : (⟨(dashL (t / 86400) (t % 86400) y m d).toArray⟩ : ByteArray).size = 31 := by rw [hl]; rfl
  exact refP31 _ s7 d (y % 100) y _ _ _ m (by rw [s1]; exact ref_D2 (by omega) (by omega)) (by rw [s2]; exact ref_D2 (by omega) (by omega)) (by rw [s3]; exact ref_D2 (by omega) (by omega)) (by rw [s4]; exact ref_D2 (by omega) (by omega)) (by rw [s5]; exact ref_D2 (by omega) (by omega)) (by omega) (by have := hv.m0; omega) hv.m1 (fun _ => s6) (fun i i0 i1 hi => by rw [s6]; exact moL_ne i0 i1 hv.m0 hv.m1 hi) t 0 (out_of _ t y m d hv hd (.inr (.inl (by unfold dash2L; rw [if_pos hy])))) w
theorem refDash32 (t y m d : Int) (hv : Valid y m d) (hd : dayOf y m d = t / 86400) (hy : y < 2070) (hw : (wkL (t / 86400)).length = 8) : RefAns ⟨(dashL (t / 86400) (t % 86400) y m d).toArray⟩ t 0 := by
  have dL := mlen_in y hv.m0 hv.m1
  have a0 := hv.d0
  have a1 := hv.d1
  have a2 := hv.y0
  have a3 := hv.y1
  obtain ⟨e, f, g, e2, hr⟩ := rest_explicit (t % 86400) y d hv.m0 hv.m1
  obtain ⟨w0, w1, w2, w3, w4, w5, w6, w7, ew⟩ : ∃ w0 w1 w2 w3 w4 w5 w6 w7, wkL (t / 86400) = [w0, w1, w2, w3, w4, w5, w6, w7] := by
    match h : wkL (t / 86400), hw with
    | [w0, w1, w2, w3, w4, w5, w6, w7], _ => exact ⟨w0, w1, w2, w3, w4, w5, w6, w7, rfl⟩
  have hl := dash_split (t / 86400) (t % 86400) y m d
  rw [hr, ew] at hl
  intro w
  have s1 : seg ⟨(dashL (t / 86400) (t % 86400) y m d).toArray⟩ 10 12 = D2 d := by rw [hl]; rfl
  have s2 : seg ⟨(dashL (t / 86400) (t % 86400) y m d).toArray⟩ 17 19 = D2 (y % 100) := by rw [hl]; rfl
  have s3 : seg ⟨(dashL (t / 86400) (t % 86400) y m d).toArray⟩ 20 22 = D2 (t % 86400 / 3600) := by rw [hl]; rfl
  have s4 : seg ⟨(dashL (t / 86400) (t % 86400) y m d).toArray⟩ 23 25 = D2 (t % 86400 / 60 % 60) := by rw [hl]; rfl
  have s5 : seg ⟨(dashL (t / 86400) (t % 86400) y m d).toArray⟩ 26 28 = D2 (t % 86400 % 60) := by rw [hl]; rfl
  have s6 : (⟨(dashL (t / 86400) (t % 86400) y m d).toArray⟩ : ByteArray).extract 13 16 = ⟨(moL m).toArray⟩ := by rw [hl, e2]; exact ext_lit _ 13 16 [e, f, g] rfl
  have s7 : (⟨(dashL (t / 86400) (t % 86400) y m d).toArray⟩ : ByteArray).size = 32 := by rw [hl]; rfl
  exact refP32 _ s7 d (y % 100) y _ _ _ m (by rw [s1]; exact ref_D2 (by omega) (by omega)) (by rw [s2]; exact ref_D2 (by omega) (by omega)) (by rw [s3]; exact ref_D2 (by omega) (by omega)) (by rw [s4]; exact ref_D2 (by omega) (by omega)) (by rw [s5]; exact ref_D2 (by omega) (by omega)) (by omega) (by have := hv.m0; omega) hv.m1 (fun _ => s6) (fun i i0 i1 hi => by rw [s6]; exact moL_ne i0 i1 hv.m0 hv.m1 hi) t 0 (out_of _ t y m d hv hd (.inr (.inl (by unfold dash2L; rw [if_pos hy])))) w
theorem refDash33 (t y m d : Int) (hv : Valid y m d) (hd : dayOf y m d = t / 86400) (hy : y < 2070) (hw : (wkL (t / 86400)).length = 9) : RefAns ⟨(dashL (t / 86400) (t % 86400) y m d).toArray⟩ t 0 := by
  have dL := mlen_in y hv.m0 hv.m1
  have a0 := hv.d0
  have a1 := hv.d1
  have a2 := hv.y0
  have a3 := hv.y1
  obtain ⟨e, f, g, e2, hr⟩ := rest_explicit (t % 86400) y d hv.m0 hv.m1
  obtain ⟨w0, w1, w2, w3, w4, w5, w6, w7, w8, ew⟩ : ∃ w0 w1 w2 w3 w4 w5 w6 w7 w8, wkL (t / 86400) = [w0, w1, w2, w3, w4, w5, w6, w7, w8] := by
    match h : wkL (t / 86400), hw with
    | [w0, w1, w2, w3, w4, w5, w6, w7, w8], _ => exact ⟨w0, w1, w2, w3, w4, w5, w6, w7, w8, rfl⟩
  have hl := dash_split (t / 86400) (t % 86400) y m d
  rw [hr, ew] at hl
  intro w
  have s1 : seg ⟨(dashL (t / 86400) (t % 86400) y m d).toArray⟩ 11 13 = D2 d := by rw [hl]; rfl
  have s2 : seg ⟨(dashL (t / 86400) (t % 86400) y m d).toArray⟩ 18 20 = D2 (y % 100) := by rw [hl]; rfl
  have s3 : seg ⟨(dashL (t / 86400) (t % 86400) y m d).toArray⟩ 21 23 = D2 (t % 86400 / 3600) := by rw [hl]; rfl
  have s4 : seg ⟨(dashL (t / 86400) (t % 86400) y m d).toArray⟩ 24 26 = D2 (t % 86400 / 60 % 60) := by rw [hl]; rfl
  have s5 : seg ⟨(dashL (t / 86400) (t % 86400) y m d).toArray⟩ 27 29 = D2 (t % 86400 % 60) := by rw [hl]; rfl
  have s6 : (⟨(dashL (t / 86400) (t % 86400) y m d).toArray⟩ : ByteArray).extract 14 17 = ⟨(moL m).toArray⟩ := by rw [hl, e2]; exact ext_lit _ 14 17 [e, f, g] rfl
  have s7 : (⟨(dashL (t / 86400) (t % 86400) y m d).toArray⟩ : ByteArray).size = 33 := by rw [hl]; rfl
  exact refP33 _ s7 d (y % 100) y _ _ _ m (by rw [s1]; exact ref_D2 (by omega) (by omega)) (by rw [s2]; exact ref_D2 (by omega) (by omega)) (by rw [s3]; exact ref_D2 (by omega) (by omega)) (by rw [s4]; exact ref_D2 (by omega) (by omega)) (by rw [s5]; exact ref_D2 (by omega) (by omega)) (by omega) (by have := hv.m0; omega) hv.m1 (fun _ => s6) (fun i i0 i1 hi => by rw [s6]; exact moL_ne i0 i1 hv.m0 hv.m1 hi) t 0 (out_of _ t y m d hv hd (.inr (.inl (by unfold dash2L; rw [if_pos hy])))) w
theorem ref_of_form (s : ByteArray) (t : Int) (h : IsForm s.data.toList t) : RefAns s t 0 := by
  obtain ⟨_, _, y, m, d, hv, hd, hl⟩ := h
  rcases hl with hl | ⟨hy, hl⟩ | hl
  · rw [ba_ofD hl]; exact refShow t y m d hv hd
  · rw [ba_ofD hl]
    have lw := wkL_len (t / 86400)
    have : (wkL (t / 86400)).length = 6 ∨ (wkL (t / 86400)).length = 7 ∨ (wkL (t / 86400)).length = 8 ∨ (wkL (t / 86400)).length = 9 := by omega
    rcases this with q | q | q | q
    · exact refDash30 t y m d hv hd hy q
    · exact refDash31 t y m d hv hd hy q
    · exact refDash32 t y m d hv hd hy q
    · exact refDash33 t y m d hv hd hy q
  · rw [ba_ofD hl]; exact refBlank t y m d hv hd
theorem both (s : ByteArray) (hs : s.size < 4294967281) : ∃ v e, Ans s v e ∧ RefAns s v e := by
  by_cases h : ∃ t, IsForm s.data.toList t
  · obtain ⟨t, h⟩ := h
    exact ⟨t, 0, parse_of_form s t h, ref_of_form s t h⟩
  · rcases parse_any s hs with a | ⟨t, ht, _⟩
    · rcases ref_any s with b | ⟨t, ht, _⟩
      · exact ⟨0, 20, a, b⟩
      · exact absurd ⟨t, ht⟩ h
    · exact absurd ⟨t, ht⟩ h
end Go.Proofs.YtlhhcpbfjjhbfaaGreatDoor
namespace Go.Proofs.YtlhhcpbfjjhbfaaGreatDoor.dateParses
open Go.RowKit
end Go.Proofs.YtlhhcpbfjjhbfaaGreatDoor.dateParses
namespace Go.Proofs.YtlhhcpbfjjhbfaaGreatDoor
open Go.RowKit
theorem cutRC (x y : Int) (hy : 0 ≤ y) (w : World) :
    Calls Tryz.prog 26 #[.int .i64 x, .int .i64 y] w fun e w' => e = .returned (.int .i64 (cN x y)) ∧ w' = w := by
  by_cases h : x < 0
  · have e : cN x y = 0 := by unfold cN; omega
    rw [e]
    clear e
    go_enter Tryz.func26, Tryz.ntmps26
    go_wp2_with fail
    go_ret
    exact ⟨rfl, rfl⟩
  by_cases h2 : y < x
  · have e : cN x y = y := by unfold cN; omega
    rw [e]
    clear e
    go_enter Tryz.func26, Tryz.ntmps26
    go_wp2_with fail
    go_ret
    exact ⟨rfl, rfl⟩
  · have e : cN x y = x := by unfold cN; omega
    rw [e]
    clear e
    go_enter Tryz.func26, Tryz.ntmps26
    go_wp2_with fail
    go_ret
    exact ⟨rfl, rfl⟩
theorem hasRC (v : Value) (fs : FL) (nm : List UInt8) (w : World) (hv : HoldsF w v fs) (hb : bulkF fs ≤ 1048576) (hn : nm.length ≤ 1048576) :
    Calls Tryz.prog 25 #[v, .string ⟨nm.toArray⟩] w fun e w' => e = .returned (.bool (hasN fs nm)) ∧ Below w.heap.size w w' := by
  have cG := hide' (getRef v fs nm w hv hb hn)
  obtain ⟨ao, ca, _, _, rfl, _⟩ := holdsF_parts hv
  clear hv
  unfold hasN
  generalize decide (0 < (valsOf fs nm).length) = pb at cG ⊢
  generalize joinOf (valsOf fs nm) = jl at cG
  go_enter Tryz.func25, Tryz.ntmps25
  go_wp2_with fail
  refine cG.out.mono ?_
  rintro e w1 ⟨rfl, b1⟩
  have B1 := hide' b1
  clear b1 cG
  go_wp2_with fail
  go_ret
  exact ⟨rfl, B1.out⟩
/-- .. and the document reads it so, too -/
def DtQ (l : List UInt8) (d : Int) : Prop := ∃ v e : Int, ((d < 0 ∧ v = 0 ∧ e = 20) ∨ (0 ≤ d ∧ v = d ∧ e = 0)) ∧ RefAns ⟨l.toArray⟩ v e
def DtB (l : List UInt8) (d : Int) : Prop := DtP l d ∧ DtQ l d
set_option maxHeartbeats 1000000 in
theorem secondRC (v : Value) (fs : FL) (nm : List UInt8) (d : Int) (w : World) (hv : HoldsF w v fs) (hb : bulkF fs ≤ 1048576) (hn : nm.length ≤ 1048576) (D : DtB (joinOf (valsOf fs nm)) d) :
    Calls Tryz.prog 27 #[v, .string ⟨nm.toArray⟩] w fun e w' => e = .returned (.int .i64 d) ∧ Below w.heap.size w w' := by
  have cG := hide' (getRef v fs nm w hv hb hn)
  obtain ⟨ao, ca, _, _, rfl, _⟩ := holdsF_parts hv
  clear hv
  generalize decide (0 < (valsOf fs nm).length) = pb at cG
  generalize joinOf (valsOf fs nm) = jl at cG D
  obtain ⟨⟨d0, -, -⟩, v, er, hve, cA⟩ := D
  have CA := hide' cA
  clear cA
  rcases hve with ⟨h1, rfl, rfl⟩ | ⟨h1, rfl, rfl⟩
  · obtain rfl : d = -1 := by omega
    clear h1 d0
    go_enter Tryz.func27, Tryz.ntmps27
    go_wp2_with fail
    refine cG.out.mono ?_
    rintro e w1 ⟨rfl, b1⟩
    have B1 := hide' b1
    clear b1 cG
    go_wp2_with fail
    refine (CA.out _).mono ?_
    rintro e w2 ⟨rfl, b2⟩
    have B2 := hide' (bt' B1.out b2)
    clear b2 CA B1
    go_wp2_with fail
    go_ret
    exact ⟨rfl, B2.out⟩
  · clear h1 d0
    go_enter Tryz.func27, Tryz.ntmps27
    go_wp2_with fail
    refine cG.out.mono ?_
    rintro e w1 ⟨rfl, b1⟩
    have B1 := hide' b1
    clear b1 cG
    go_wp2_with fail
    refine (CA.out _).mono ?_
    rintro e w2 ⟨rfl, b2⟩
    have B2 := hide' (bt' B1.out b2)
    clear b2 CA B1
    go_wp2_with fail
    go_ret
    exact ⟨rfl, B2.out⟩
def dabR : List UInt8 := [100, 97, 116, 101]
def exbR : List UInt8 := [101, 120, 112, 105, 114, 101, 115]
def lmbR : List UInt8 := [108, 97, 115, 116, 45, 109, 111, 100, 105, 102, 105, 101, 100]
def agbR : List UInt8 := [97, 103, 101]
theorem vals_dab (fs : FL) : valsOf fs dabR = valsOf fs dab := by unfold valsOf; rw [show lows dabR = lows dab by decide]
theorem vals_exb (fs : FL) : valsOf fs exbR = valsOf fs exb := by unfold valsOf; rw [show lows exbR = lows exb by decide]
theorem vals_lmb (fs : FL) : valsOf fs lmbR = valsOf fs lmb := by unfold valsOf; rw [show lows lmbR = lows lmb by decide]
theorem vals_agb (fs : FL) : valsOf fs agbR = valsOf fs agb := by unfold valsOf; rw [show lows agbR = lows agb by decide]
set_option maxHeartbeats 1000000 in
theorem dateRC (K V R : ByteArray) (s k a g : Int) (ao ba : Option Addr) (n m ca bc : Nat) (fs : FL) (d : Int) (w : World) (hv : HoldsF w (.slice ao n ca) fs) (hb : bulkF fs ≤ 1048576) (D : DtB (joinOf (valsOf fs dab)) d) :
    Calls Tryz.prog 28 #[.agg #[.string K, .string V, .int .i64 s, .string R, .int .i64 k, .slice ao n ca, .slice ba m bc, .int .i64 a, .int .i64 g]] w fun e w' => e = .returned (.int .i64 (dtN d g)) ∧ Below w.heap.size w w' := by
  have B0 := below_alloc' w (.cells #[.string K, .string V, .int .i64 s, .string R, .int .i64 k, .slice ao n ca, .slice ba m bc, .int .i64 a, .int .i64 g] 27)
  have C0 := hide' (enC_lit w K V R s k a g ao ba n m ca bc)
  have cS := hide' (secondRC (.slice ao n ca) fs dabR d _ (holdsF_mono hv B0) hb (by decide) (by rw [vals_dab]; exact D))
  replace B0 := hide' B0
  clear hv D
  obtain ⟨r, er⟩ : ∃ r, r = dtN d g := ⟨_, rfl⟩
  rw [← er]
  by_cases hd : d < 0
  · have e2 : cN g 253402300799 = r := by rw [er]; unfold dtN; rw [if_pos hd]
    have cC := hide' (cutRC g 253402300799 (by omega))
    rw [e2] at cC
    clear e2 er
    go_enter Tryz.func28, Tryz.ntmps28
    go_wp2_with fail
    refine cS.out.mono ?_
    rintro e w1 ⟨rfl, b1⟩
    have B1 := hide' (bt' B0.out b1)
    obtain ⟨-, i0, i1, i2, i3, i4, i5, i6, i7, i8⟩ := enC_open (enC_below C0.out b1)
    clear b1 cS B0 C0
    go_wp2_with fail
    refine (cC.out _).mono ?_
    rintro e w9 ⟨rfl, ew⟩
    rw [ew]
    clear ew w9
    go_wp2_with fail
    go_ret
    exact ⟨rfl, B1.out⟩
  · have e2 : d = r := by rw [er]; unfold dtN; rw [if_neg hd]
    rw [← e2]
    clear e2 er
    go_enter Tryz.func28, Tryz.ntmps28
    go_wp2_with fail
    refine cS.out.mono ?_
    rintro e w1 ⟨rfl, b1⟩
    have B1 := hide' (bt' B0.out b1)
    clear b1 cS B0 C0
    go_wp2_with fail
    go_ret
    exact ⟨rfl, B1.out⟩
theorem amongRC (s : Int) (l : List Int) (b n : Nat) (w : World) (hn : n = l.length) (hl : n ≤ 1000) (hc : ∀ j (h : j < l.length), w.cell? ⟨b, j, none⟩ = some (.int .i64 l[j])) :
    Calls Tryz.prog 29 #[.int .i64 s, .slice (some ⟨b, 0, none⟩) n n] w fun e w' => e = .returned (.bool (decide (s ∈ l))) ∧ w' = w := by
  have HC := hide' hc
  have HN := hide' hn
  clear hc hn
  obtain ⟨r, er⟩ : ∃ r, r = decide (s ∈ l) := ⟨_, rfl⟩
  have ER := hide' er
  rw [← er]
  clear er
  go_enter Tryz.func29, Tryz.ntmps29
  go_wp2_with fail
  go_loop [5] (fun i => ∃ k : Nat, k ≤ n ∧ i = .int .i64 k ∧ Hid (∀ j (hj : j < l.length), j < k → ¬ l[j] = s)) (fun i => n - (intOf i).toNat)
  case atStart => exact ⟨0, Nat.zero_le _, rfl, fun j h hj => absurd hj (by omega)⟩
  case round =>
    obtain ⟨k, hk, rfl, A⟩ := hrel
    by_cases hlt : k < n
    · have hk' : k < l.length := by rw [← HN.out]; exact hlt
      have hcell := HC.out k hk'
      obtain ⟨x, ex⟩ : ∃ x, x = l[k] := ⟨_, rfl⟩
      have EX := hide' ex
      rw [← ex] at hcell
      clear ex
      by_cases he : x = s
      · have e : Hid (r = true) := by
          unfold Hid
          rw [ER.out]
          exact decide_eq_true (by rw [← he, EX.out]; exact List.getElem_mem _)
        subst he
        go_wp2_with fail
        go_ret
        exact ⟨by rw [e.out]; try rfl, rfl⟩
      · have A2 : Hid (∀ j (hj : j < l.length), j < k + 1 → ¬ l[j] = s) := by
          intro j h hj
          by_cases hjk : j = k
          · subst hjk; rw [← EX.out]; exact he
          · exact A.out j h (by omega)
        clear A EX
        go_wp2_with fail
        go_round
        case rel => exact ⟨k + 1, by omega, by go_num, A2⟩
        case measure => simp [intOf]; omega
    · have e : Hid (r = false) := by
        unfold Hid
        rw [ER.out]
        refine decide_eq_false fun hm => ?_
        obtain ⟨j, hj, ej⟩ := List.getElem_of_mem hm
        exact A.out j hj (by have := HN.out; omega) ej
      go_wp2_with fail
      go_ret
      exact ⟨by rw [e.out]; try rfl, rfl⟩
end Go.Proofs.YtlhhcpbfjjhbfaaGreatDoor
namespace Go.Proofs.YtlhhcpbfjjhbfaaGreatDoor
open Go.RowKit
theorem dt_ex (l : List UInt8) (h : l.length < 4294967281) : ∃ d, DtP l d := by
  by_cases hf : ∃ t, IsForm l t
  · obtain ⟨t, hf⟩ := hf
    exact ⟨t, by have := hf.1; omega, hf.2.1, t, 0, .inr ⟨hf.1, rfl, rfl⟩, parse_of_form ⟨l.toArray⟩ t hf⟩
  · refine ⟨-1, by omega, by omega, 0, 20, .inl ⟨by omega, rfl, rfl⟩, ?_⟩
    rcases parse_any ⟨l.toArray⟩ (by show l.toArray.size < 4294967281; rw [List.size_toArray]; exact h) with c | ⟨t, ht, _⟩
    · exact c
    · exact absurd ⟨t, ht⟩ hf
theorem dt_exB (l : List UInt8) (h : l.length < 4294967281) : ∃ d, DtB l d := by
  by_cases hf : ∃ t, IsForm l t
  · obtain ⟨t, hf⟩ := hf
    exact ⟨t, ⟨by have := hf.1; omega, hf.2.1, t, 0, .inr ⟨hf.1, rfl, rfl⟩, parse_of_form ⟨l.toArray⟩ t hf⟩, t, 0, .inr ⟨hf.1, rfl, rfl⟩, ref_of_form ⟨l.toArray⟩ t hf⟩
  · refine ⟨-1, ⟨by omega, by omega, 0, 20, .inl ⟨by omega, rfl, rfl⟩, ?_⟩, 0, 20, .inl ⟨by omega, rfl, rfl⟩, ?_⟩
    · rcases parse_any ⟨l.toArray⟩ (by show l.toArray.size < 4294967281; rw [List.size_toArray]; exact h) with c | ⟨t, ht, _⟩
      · exact c
      · exact absurd ⟨t, ht⟩ hf
    · rcases ref_any ⟨l.toArray⟩ with c | ⟨t, ht, _⟩
      · exact c
      · exact absurd ⟨t, ht⟩ hf
end Go.Proofs.YtlhhcpbfjjhbfaaGreatDoor
