/- What the document's Parse answers to any text, and the walk of the law DateParses. Each text says a second or none. The second that each text says, as a function. -/
import Derived.Test.YtipcmbonhkelbabGreatDoorXg
import Derived.Test.YtipcmbonhkelbabGreatDoorDaY30
import Derived.Test.YtipcmbonhkelbabGreatDoorDaY31
import Derived.Test.YtipcmbonhkelbabGreatDoorDaY32
import Derived.Test.YtipcmbonhkelbabGreatDoorDaY33
import Derived.Test.YtipcmbonhkelbabGreatDoorXq
namespace Go.Proofs.YtipcmbonhkelbabGreatDoor
open Go.RowKit
theorem refAny29 (s : ByteArray) (hs : s.size = 29) : RefAns s 0 20 ∨ ∃ t, IsForm s.data.toList t ∧ RefAns s t 0 := by
  obtain ⟨j, j0, j1, he, hne⟩ := month_ref (s.extract 8 11)
  obtain ⟨Y, hYY⟩ : ∃ Y, Y = refNum (seg s 12 16) := ⟨_, rfl⟩
  obtain ⟨v, e, ho, hr⟩ := out_ex s (by omega) Y j (refNum (seg s 5 7)) (refNum (seg s 17 19)) (refNum (seg s 20 22)) (refNum (seg s 23 25))
  have h : RefAns s v e := fun w => refP29 s hs _ _ Y _ _ _ j rfl rfl rfl rfl rfl hYY j0 j1 he hne v e ho w
  rcases hr with ⟨rfl, rfl⟩ | ⟨rfl, hf⟩
  · exact .inl h
  · exact .inr ⟨v, hf, h⟩
theorem refAny24 (s : ByteArray) (hs : s.size = 24) : RefAns s 0 20 ∨ ∃ t, IsForm s.data.toList t ∧ RefAns s t 0 := by
  obtain ⟨j, j0, j1, he, hne⟩ := month_ref (s.extract 4 7)
  obtain ⟨Y, hYY⟩ : ∃ Y, Y = refNum (seg s 20 24) := ⟨_, rfl⟩
  obtain ⟨v, e, ho, hr⟩ := out_ex s (by omega) Y j (refNum (seg s 8 10)) (refNum (seg s 11 13)) (refNum (seg s 14 16)) (refNum (seg s 17 19))
  have h : RefAns s v e := fun w => refP24 s hs _ _ Y _ _ _ j rfl rfl rfl rfl rfl hYY j0 j1 he hne v e ho w
  rcases hr with ⟨rfl, rfl⟩ | ⟨rfl, hf⟩
  · exact .inl h
  · exact .inr ⟨v, hf, h⟩
theorem refAny30 (s : ByteArray) (hs : s.size = 30) : RefAns s 0 20 ∨ ∃ t, IsForm s.data.toList t ∧ RefAns s t 0 := by
  obtain ⟨j, j0, j1, he, hne⟩ := month_ref (s.extract 11 14)
  obtain ⟨Y, hYY⟩ : ∃ Y, (70 ≤ refNum (seg s 15 17) ∧ Y = refNum (seg s 15 17) + 1900) ∨ (0 ≤ refNum (seg s 15 17) ∧ refNum (seg s 15 17) < 70 ∧ Y = refNum (seg s 15 17) + 2000) ∨ (refNum (seg s 15 17) < 0 ∧ Y = refNum (seg s 15 17)) := by
    by_cases a : 70 ≤ refNum (seg s 15 17)
    · exact ⟨_, .inl ⟨a, rfl⟩⟩
    · by_cases b : 0 ≤ refNum (seg s 15 17)
      · exact ⟨_, .inr (.inl ⟨b, by omega, rfl⟩)⟩
      · exact ⟨_, .inr (.inr ⟨by omega, rfl⟩)⟩
  obtain ⟨v, e, ho, hr⟩ := out_ex s (by omega) Y j (refNum (seg s 8 10)) (refNum (seg s 18 20)) (refNum (seg s 21 23)) (refNum (seg s 24 26))
  have h : RefAns s v e := fun w => refP30 s hs _ _ Y _ _ _ j rfl rfl rfl rfl rfl hYY j0 j1 he hne v e ho w
  rcases hr with ⟨rfl, rfl⟩ | ⟨rfl, hf⟩
  · exact .inl h
  · exact .inr ⟨v, hf, h⟩
theorem refAny31 (s : ByteArray) (hs : s.size = 31) : RefAns s 0 20 ∨ ∃ t, IsForm s.data.toList t ∧ RefAns s t 0 := by
  obtain ⟨j, j0, j1, he, hne⟩ := month_ref (s.extract 12 15)
  obtain ⟨Y, hYY⟩ : ∃ Y, (70 ≤ refNum (seg s 16 18) ∧ Y = refNum (seg s 16 18) + 1900) ∨ (0 ≤ refNum (seg s 16 18) ∧ refNum (seg s 16 18) < 70 ∧ Y = refNum (seg s 16 18) + 2000) ∨ (refNum (seg s 16 18) < 0 ∧ Y = refNum (seg s 16 18)) := by
    by_cases a : 70 ≤ refNum (seg s 16 18)
    · exact ⟨_, .inl ⟨a, rfl⟩⟩
    · by_cases b : 0 ≤ refNum (seg s 16 18)
      · exact ⟨_, .inr (.inl ⟨b, by omega, rfl⟩)⟩
      · exact ⟨_, .inr (.inr ⟨by omega, rfl⟩)⟩
  obtain ⟨v, e, ho, hr⟩ := out_ex s (by omega) Y j (refNum (seg s 9 11)) (refNum (seg s 19 21)) (refNum (seg s 22 24)) (refNum (seg s 25 27))
  have h : RefAns s v e := fun w => refP31 s hs _ _ Y _ _ _ j rfl rfl rfl rfl rfl hYY j0 j1 he hne v e ho w
  rcases hr with ⟨rfl, rfl⟩ | ⟨rfl, hf⟩
  · exact .inl h
  · exact .inr ⟨v, hf, h⟩
theorem refAny32 (s : ByteArray) (hs : s.size = 32) : RefAns s 0 20 ∨ ∃ t, IsForm s.data.toList t ∧ RefAns s t 0 := by
  obtain ⟨j, j0, j1, he, hne⟩ := month_ref (s.extract 13 16)
  obtain ⟨Y, hYY⟩ : ∃ Y, (70 ≤ refNum (seg s 17 19) ∧ Y = refNum (seg s 17 19) + 1900) ∨ (0 ≤ refNum (seg s 17 19) ∧ refNum (seg s 17 19) < 70 ∧ Y = refNum (seg s 17 19) + 2000) ∨ (refNum (seg s 17 19) < 0 ∧ Y = refNum (seg s 17 19)) := by
    by_cases a : 70 ≤ refNum (seg s 17 19)
    · exact ⟨_, .inl ⟨a, rfl⟩⟩
    · by_cases b : 0 ≤ refNum (seg s 17 19)
      · exact ⟨_, .inr (.inl ⟨b, by omega, rfl⟩)⟩
      · exact ⟨_, .inr (.inr ⟨by omega, rfl⟩)⟩
  obtain ⟨v, e, ho, hr⟩ := out_ex s (by omega) Y j (refNum (seg s 10 12)) (refNum (seg s 20 22)) (refNum (seg s 23 25)) (refNum (seg s 26 28))
  have h : RefAns s v e := fun w => refP32 s hs _ _ Y _ _ _ j rfl rfl rfl rfl rfl hYY j0 j1 he hne v e ho w
  rcases hr with ⟨rfl, rfl⟩ | ⟨rfl, hf⟩
  · exact .inl h
  · exact .inr ⟨v, hf, h⟩
theorem refAny33 (s : ByteArray) (hs : s.size = 33) : RefAns s 0 20 ∨ ∃ t, IsForm s.data.toList t ∧ RefAns s t 0 := by
  obtain ⟨j, j0, j1, he, hne⟩ := month_ref (s.extract 14 17)
  obtain ⟨Y, hYY⟩ : ∃ Y, (70 ≤ refNum (seg s 18 20) ∧ Y = refNum (seg s 18 20) + 1900) ∨ (0 ≤ refNum (seg s 18 20) ∧ refNum (seg s 18 20) < 70 ∧ Y = refNum (seg s 18 20) + 2000) ∨ (refNum (seg s 18 20) < 0 ∧ Y = refNum (seg s 18 20)) := by
    by_cases a : 70 ≤ refNum (seg s 18 20)
    · exact ⟨_, .inl ⟨a, rfl⟩⟩
    · by_cases b : 0 ≤ refNum (seg s 18 20)
      · exact ⟨_, .inr (.inl ⟨b, by omega, rfl⟩)⟩
      · exact ⟨_, .inr (.inr ⟨by omega, rfl⟩)⟩
  obtain ⟨v, e, ho, hr⟩ := out_ex s (by omega) Y j (refNum (seg s 11 13)) (refNum (seg s 21 23)) (refNum (seg s 24 26)) (refNum (seg s 27 29))
  have h : RefAns s v e := fun w => refP33 s hs _ _ Y _ _ _ j rfl rfl rfl rfl rfl hYY j0 j1 he hne v e ho w
  rcases hr with ⟨rfl, rfl⟩ | ⟨rfl, hf⟩
  · exact .inl h
  · exact .inr ⟨v, hf, h⟩
theorem ref_any (s : ByteArray) : RefAns s 0 20 ∨ ∃ t, IsForm s.data.toList t ∧ RefAns s t 0 := by
  by_cases h29 : s.size = 29
  · exact refAny29 s h29
  · by_cases h24 : s.size = 24
    · exact refAny24 s h24
    · by_cases h : s.size < 30 ∨ 33 < s.size
      · exact .inl (refOther s h29 h24 h)
      · have : s.size = 30 ∨ s.size = 31 ∨ s.size = 32 ∨ s.size = 33 := by omega
        rcases this with h | h | h | h
        · exact refAny30 s h
        · exact refAny31 s h
        · exact refAny32 s h
        · exact refAny33 s h
theorem show_explicit (n r y d : Int) {m : Int} (m0 : 1 ≤ m) (m1 : m ≤ 12) : ∃ a b c e f g, (wkL n).take 3 = [a, b, c] ∧ moL m = [e, f, g] ∧
    showL n r y m d = [a, b, c, 44, 32, dg (d / 10), dg (d % 10), 32, e, f, g, 32, dg (y / 1000), dg (y / 100 % 10), dg (y / 10 % 10), dg (y % 10), 32, dg (r / 3600 / 10), dg (r / 3600 % 10), 58, dg (r / 60 % 60 / 10), dg (r / 60 % 60 % 10), 58, dg (r % 60 / 10), dg (r % 60 % 10), 32, 71, 77, 84] := by
  obtain ⟨a, b, c, e1⟩ := three (take3 n)
  obtain ⟨e, f, g, e2⟩ := three (moL_len m0 m1)
  refine ⟨a, b, c, e, f, g, e1, e2, ?_⟩
  unfold showL
  rw [e1, e2]
  rfl
theorem refShow (t y m d : Int) (hv : Valid y m d) (hd : dayOf y m d = t / 86400) : RefAns ⟨(showL (t / 86400) (t % 86400) y m d).toArray⟩ t 0 := by
  have dL := mlen_in y hv.m0 hv.m1
  have a0 := hv.d0
  have a1 := hv.d1
  have a2 := hv.y0
  have a3 := hv.y1
  obtain ⟨a, b, c, e, f, g, e1, e2, hl⟩ := show_explicit (t / 86400) (t % 86400) y d hv.m0 hv.m1
  intro w
  have s1 : seg ⟨(showL (t / 86400) (t % 86400) y m d).toArray⟩ 5 7 = D2 d := by rw [hl]; rfl
  have s2 : seg ⟨(showL (t / 86400) (t % 86400) y m d).toArray⟩ 12 16 = D4 y := by rw [hl]; rfl
  have s3 : seg ⟨(showL (t / 86400) (t % 86400) y m d).toArray⟩ 17 19 = D2 (t % 86400 / 3600) := by rw [hl]; rfl
  have s4 : seg ⟨(showL (t / 86400) (t % 86400) y m d).toArray⟩ 20 22 = D2 (t % 86400 / 60 % 60) := by rw [hl]; rfl
  have s5 : seg ⟨(showL (t / 86400) (t % 86400) y m d).toArray⟩ 23 25 = D2 (t % 86400 % 60) := by rw [hl]; rfl
  have s6 : (⟨(showL (t / 86400) (t % 86400) y m d).toArray⟩ : ByteArray).extract 8 11 = ⟨(moL m).toArray⟩ := by rw [hl, e2]; exact ext_lit _ 8 11 [e, f, g] rfl
  have s7 : (⟨(showL (t / 86400) (t % 86400) y m d).toArray⟩ : ByteArray).size = 29 := by rw [hl]; rfl
  exact refP29 _ s7 d y y _ _ _ m (by rw [s1]; exact ref_D2 (by omega) (by omega)) (by rw [s2]; exact ref_D4 (by omega) (by omega)) (by rw [s3]; exact ref_D2 (by omega) (by omega)) (by rw [s4]; exact ref_D2 (by omega) (by omega)) (by rw [s5]; exact ref_D2 (by omega) (by omega)) rfl (by have := hv.m0; omega) hv.m1 (fun _ => s6) (fun i i0 i1 hi => by rw [s6]; exact moL_ne i0 i1 hv.m0 hv.m1 hi) t 0 (out_of _ t y m d hv hd (.inl rfl)) w
theorem refBlank (t y m d : Int) (hv : Valid y m d) (hd : dayOf y m d = t / 86400) : RefAns ⟨(blankL (t / 86400) (t % 86400) y m d).toArray⟩ t 0 := by
  have dL := mlen_in y hv.m0 hv.m1
  have a0 := hv.d0
  have a1 := hv.d1
  have a2 := hv.y0
  have a3 := hv.y1
  obtain ⟨a, b, c, e, f, g, p0, p1, e1, e2, e3, hl⟩ := blank_explicit (t / 86400) (t % 86400) y d hv.m0 hv.m1
  intro w
  have s1 : seg ⟨(blankL (t / 86400) (t % 86400) y m d).toArray⟩ 8 10 = padL d := by rw [hl]; rw [e3]; rfl
  have s2 : seg ⟨(blankL (t / 86400) (t % 86400) y m d).toArray⟩ 20 24 = D4 y := by rw [hl]; rfl
  have s3 : seg ⟨(blankL (t / 86400) (t % 86400) y m d).toArray⟩ 11 13 = D2 (t % 86400 / 3600) := by rw [hl]; rfl
  have s4 : seg ⟨(blankL (t / 86400) (t % 86400) y m d).toArray⟩ 14 16 = D2 (t % 86400 / 60 % 60) := by rw [hl]; rfl
  have s5 : seg ⟨(blankL (t / 86400) (t % 86400) y m d).toArray⟩ 17 19 = D2 (t % 86400 % 60) := by rw [hl]; rfl
  have s6 : (⟨(blankL (t / 86400) (t % 86400) y m d).toArray⟩ : ByteArray).extract 4 7 = ⟨(moL m).toArray⟩ := by rw [hl, e2]; exact ext_lit _ 4 7 [e, f, g] rfl
  have s7 : (⟨(blankL (t / 86400) (t % 86400) y m d).toArray⟩ : ByteArray).size = 24 := by rw [hl]; rfl
  exact refP24 _ s7 d y y _ _ _ m (by rw [s1]; exact ref_pad (by omega) (by omega)) (by rw [s2]; exact ref_D4 (by omega) (by omega)) (by rw [s3]; exact ref_D2 (by omega) (by omega)) (by rw [s4]; exact ref_D2 (by omega) (by omega)) (by rw [s5]; exact ref_D2 (by omega) (by omega)) rfl (by have := hv.m0; omega) hv.m1 (fun _ => s6) (fun i i0 i1 hi => by rw [s6]; exact moL_ne i0 i1 hv.m0 hv.m1 hi) t 0 (out_of _ t y m d hv hd (.inr (.inr rfl))) w
theorem refDash30 (t y m d : Int) (hv : Valid y m d) (hd : dayOf y m d = t / 86400) (hy : y < 2070) (hw : (wkL (t / 86400)).length = 6) : RefAns ⟨(dashL (t / 86400) (t % 86400) y m d).toArray⟩ t 0 := by
  have dL := mlen_in y hv.m0 hv.m1
  have a0 := hv.d0
  have a1 := hv.d1
  have a2 := hv.y0
  have a3 := hv.y1
  obtain ⟨e, f, g, e2, hr⟩ := rest_explicit (t % 86400) y d hv.m0 hv.m1
  obtain ⟨w0, w1, w2, w3, w4, w5, ew⟩ : ∃ w0 w1 w2 w3 w4 w5, wkL (t / 86400) = [w0, w1, w2, w3, w4, w5] := by
    match h : wkL (t / 86400), hw with
    | [w0, w1, w2, w3, w4, w5], _ => exact ⟨w0, w1, w2, w3, w4, w5, rfl⟩
  have hl := dash_split (t / 86400) (t % 86400) y m d
  rw [hr, ew] at hl
  intro w
  have s1 : seg ⟨(dashL (t / 86400) (t % 86400) y m d).toArray⟩ 8 10 = D2 d := by rw [hl]; rfl
  have s2 : seg ⟨(dashL (t / 86400) (t % 86400) y m d).toArray⟩ 15 17 = D2 (y % 100) := by rw [hl]; rfl
  have s3 : seg ⟨(dashL (t / 86400) (t % 86400) y m d).toArray⟩ 18 20 = D2 (t % 86400 / 3600) := by rw [hl]; rfl
  have s4 : seg ⟨(dashL (t / 86400) (t % 86400) y m d).toArray⟩ 21 23 = D2 (t % 86400 / 60 % 60) := by rw [hl]; rfl
  have s5 : seg ⟨(dashL (t / 86400) (t % 86400) y m d).toArray⟩ 24 26 = D2 (t % 86400 % 60) := by rw [hl]; rfl
  have s6 : (⟨(dashL (t / 86400) (t % 86400) y m d).toArray⟩ : ByteArray).extract 11 14 = ⟨(moL m).toArray⟩ := by rw [hl, e2]; exact ext_lit _ 11 14 [e, f, g] rfl
  have s7 : (⟨(dashL (t / 86400) (t % 86400) y m d).toArray⟩ : ByteArray).size = 30 := by rw [hl]; rfl
  exact refP30 _ s7 d (y % 100) y _ _ _ m (by rw [s1]; exact ref_D2 (by omega) (by omega)) (by rw [s2]; exact ref_D2 (by omega) (by omega)) (by rw [s3]; exact ref_D2 (by omega) (by omega)) (by rw [s4]; exact ref_D2 (by omega) (by omega)) (by rw [s5]; exact ref_D2 (by omega) (by omega)) (by omega) (by have := hv.m0; omega) hv.m1 (fun _ => s6) (fun i i0 i1 hi => by rw [s6]; exact moL_ne i0 i1 hv.m0 hv.m1 hi) t 0 (out_of _ t y m d hv hd (.inr (.inl (by unfold dash2L; rw [if_pos hy])))) w
theorem refDash31 (t y m d : Int) (hv : Valid y m d) (hd : dayOf y m d = t / 86400) (hy : y < 2070) (hw : (wkL (t / 86400)).length = 7) : RefAns ⟨(dashL (t / 86400) (t % 86400) y m d).toArray⟩ t 0 := by
  have dL := mlen_in y hv.m0 hv.m1
  have a0 := hv.d0
  have a1 := hv.d1
  have a2 := hv.y0
  have a3 := hv.y1
  obtain ⟨e, f, g, e2, hr⟩ := rest_explicit (t % 86400) y d hv.m0 hv.m1
  obtain ⟨w0, w1, w2, w3, w4, w5, w6, ew⟩ : ∃ w0 w1 w2 w3 w4 w5 w6, wkL (t / 86400) = [w0, w1, w2, w3, w4, w5, w6] := by
    match h : wkL (t / 86400), hw with
    | [w0, w1, w2, w3, w4, w5, w6], _ => exact ⟨w0, w1, w2, w3, w4, w5, w6, rfl⟩
  have hl := dash_split (t / 86400) (t % 86400) y m d
  rw [hr, ew] at hl
  intro w
  have s1 : seg ⟨(dashL (t / 86400) (t % 86400) y m d).toArray⟩ 9 11 = D2 d := by rw [hl]; rfl
  have s2 : seg ⟨(dashL (t / 86400) (t % 86400) y m d).toArray⟩ 16 18 = D2 (y % 100) := by rw [hl]; rfl
  have s3 : seg ⟨(dashL (t / 86400) (t % 86400) y m d).toArray⟩ 19 21 = D2 (t % 86400 / 3600) := by rw [hl]; rfl
  have s4 : seg ⟨(dashL (t / 86400) (t % 86400) y m d).toArray⟩ 22 24 = D2 (t % 86400 / 60 % 60) := by rw [hl]; rfl
  have s5 : seg ⟨(dashL (t / 86400) (t % 86400) y m d).toArray⟩ 25 27 = D2 (t % 86400 % 60) := by rw [hl]; rfl
  have s6 : (⟨(dashL (t / 86400) (t % 86400) y m d).toArray⟩ : ByteArray).extract 12 15 = ⟨(moL m).toArray⟩ := by rw [hl, e2]; exact ext_lit _ 12 15 [e, f, g] rfl
  have s7 : (⟨(dashL (t / 86400) (t % 86400) y m d).toArray⟩ : ByteArray).size = 31 := by rw [hl]; rfl
  exact refP31 _ s7 d (y % 100) y _ _ _ m (by rw [s1]; exact ref_D2 (by omega) (by omega)) (by rw [s2]; exact ref_D2 (by omega) (by omega)) (by rw [s3]; exact ref_D2 (by omega) (by omega)) (by rw [s4]; exact ref_D2 (by omega) (by omega)) (by rw [s5]; exact ref_D2 (by omega) (by omega)) (by omega) (by have := hv.m0; omega) hv.m1 (fun _ => s6) (fun i i0 i1 hi => by rw [s6]; exact moL_ne i0 i1 hv.m0 hv.m1 hi) t 0 (out_of _ t y m d hv hd (.inr (.inl (by unfold dash2L; rw [if_pos hy])))) w
theorem refDash32 (t y m d : Int) (hv : Valid y m d) (hd : dayOf y m d = t / 86400) (hy : y < 2070) (hw : (wkL (t / 86400)).length = 8) : RefAns ⟨(dashL (t / 86400) (t % 86400) y m d).toArray⟩ t 0 := by
  have dL := mlen_in y hv.m0 hv.m1
  have a0 := hv.d0
  have a1 := hv.d1
  have a2 := hv.y0
  have a3 := hv.y1
  obtain ⟨e, f, g, e2, hr⟩ := rest_explicit (t % 86400) y d hv.m0 hv.m1
  obtain ⟨w0, w1, w2, w3, w4, w5, w6, w7, ew⟩ : ∃ w0 w1 w2 w3 w4 w5 w6 w7, wkL (t / 86400) = [w0, w1, w2, w3, w4, w5, w6, w7] := by
    match h : wkL (t / 86400), hw with
    | [w0, w1, w2, w3, w4, w5, w6, w7], _ => exact ⟨w0, w1, w2, w3, w4, w5, w6, w7, rfl⟩
  have hl := dash_split (t / 86400) (t % 86400) y m d
  rw [hr, ew] at hl
  intro w
  have s1 : seg ⟨(dashL (t / 86400) (t % 86400) y m d).toArray⟩ 10 12 = D2 d := by rw [hl]; rfl
  have s2 : seg ⟨(dashL (t / 86400) (t % 86400) y m d).toArray⟩ 17 19 = D2 (y % 100) := by rw [hl]; rfl
  have s3 : seg ⟨(dashL (t / 86400) (t % 86400) y m d).toArray⟩ 20 22 = D2 (t % 86400 / 3600) := by rw [hl]; rfl
  have s4 : seg ⟨(dashL (t / 86400) (t % 86400) y m d).toArray⟩ 23 25 = D2 (t % 86400 / 60 % 60) := by rw [hl]; rfl
  have s5 : seg ⟨(dashL (t / 86400) (t % 86400) y m d).toArray⟩ 26 28 = D2 (t % 86400 % 60) := by rw [hl]; rfl
  have s6 : (⟨(dashL (t / 86400) (t % 86400) y m d).toArray⟩ : ByteArray).extract 13 16 = ⟨(moL m).toArray⟩ := by rw [hl, e2]; exact ext_lit _ 13 16 [e, f, g] rfl
  have s7 : (⟨(dashL (t / 86400) (t % 86400) y m d).toArray⟩ : ByteArray).size = 32 := by rw [hl]; rfl
  exact refP32 _ s7 d (y % 100) y _ _ _ m (by rw [s1]; exact ref_D2 (by omega) (by omega)) (by rw [s2]; exact ref_D2 (by omega) (by omega)) (by rw [s3]; exact ref_D2 (by omega) (by omega)) (by rw [s4]; exact ref_D2 (by omega) (by omega)) (by rw [s5]; exact ref_D2 (by omega) (by omega)) (by omega) (by have := hv.m0; omega) hv.m1 (fun _ => s6) (fun i i0 i1 hi => by rw [s6]; exact moL_ne i0 i1 hv.m0 hv.m1 hi) t 0 (out_of _ t y m d hv hd (.inr (.inl (by unfold dash2L; rw [if_pos hy])))) w
theorem refDash33 (t y m d : Int) (hv : Valid y m d) (hd : dayOf y m d = t / 86400) (hy : y < 2070) (hw : (wkL (t / 86400)).length = 9) : RefAns ⟨(dashL (t / 86400) (t % 86400) y m d).toArray⟩ t 0 := by
  have dL := mlen_in y hv.m0 hv.m1
  have a0 := hv.d0
  have a1 := hv.d1
  have a2 := hv.y0
  have a3 := hv.y1
  obtain ⟨e, f, g, e2, hr⟩ := rest_explicit (t % 86400) y d hv.m0 hv.m1
  obtain ⟨w0, w1, w2, w3, w4, w5, w6, w7, w8, ew⟩ : ∃ w0 w1 w2 w3 w4 w5 w6 w7 w8, wkL (t / 86400) = [w0, w1, w2, w3, w4, w5, w6, w7, w8] := by
    match h : wkL (t / 86400), hw with
    | [w0, w1, w2, w3, w4, w5, w6, w7, w8], _ => exact ⟨w0, w1, w2, w3, w4, w5, w6, w7, w8, rfl⟩
  have hl := dash_split (t / 86400) (t % 86400) y m d
  rw [hr, ew] at hl
  intro w
  have s1 : seg ⟨(dashL (t / 86400) (t % 86400) y m d).toArray⟩ 11 13 = D2 d := by rw [hl]; rfl
  have s2 : seg ⟨(dashL (t / 86400) (t % 86400) y m d).toArray⟩ 18 20 = D2 (y % 100) := by rw [hl]; rfl
  have s3 : seg ⟨(dashL (t / 86400) (t % 86400) y m d).toArray⟩ 21 23 = D2 (t % 86400 / 3600) := by rw [hl]; rfl
  have s4 : seg ⟨(dashL (t / 86400) (t % 86400) y m d).toArray⟩ 24 26 = D2 (t % 86400 / 60 % 60) := by rw [hl]; rfl
  have s5 : seg ⟨(dashL (t / 86400) (t % 86400) y m d).toArray⟩ 27 29 = D2 (t % 86400 % 60) := by rw [hl]; rfl
  have s6 : (⟨(dashL (t / 86400) (t % 86400) y m d).toArray⟩ : ByteArray).extract 14 17 = ⟨(moL m).toArray⟩ := by rw [hl, e2]; exact ext_lit _ 14 17 [e, f, g] rfl
  have s7 : (⟨(dashL (t / 86400) (t % 86400) y m d).toArray⟩ : ByteArray).size = 33 := by rw [hl]; rfl
  exact refP33 _ s7 d (y % 100) y _ _ _ m (by rw [s1]; exact ref_D2 (by omega) (by omega)) (by rw [s2]; exact ref_D2 (by omega) (by omega)) (by rw [s3]; exact ref_D2 (by omega) (by omega)) (by rw [s4]; exact ref_D2 (by omega) (by omega)) (by rw [s5]; exact ref_D2 (by omega) (by omega)) (by omega) (by have := hv.m0; omega) hv.m1 (fun _ => s6) (fun i i0 i1 hi => by rw [s6]; exact moL_ne i0 i1 hv.m0 hv.m1 hi) t 0 (out_of _ t y m d hv hd (.inr (.inl (by unfold dash2L; rw [if_pos hy])))) w
theorem ref_of_form (s : ByteArray) (t : Int) (h : IsForm s.data.toList t) : RefAns s t 0 := by
  obtain ⟨_, _, y, m, d, hv, hd, hl⟩ := h
  rcases hl with hl | ⟨hy, hl⟩ | hl
  · rw [ba_ofD hl]; exact refShow t y m d hv hd
  · rw [ba_ofD hl]
    have lw := wkL_len (t / 86400)
    have : (wkL (t / 86400)).length = 6 ∨ (wkL (t / 86400)).length = 7 ∨ (wkL (t / 86400)).length = 8 ∨ (wkL (t / 86400)).length = 9 := by omega
    rcases this with q | q | q | q
    · exact refDash30 t y m d hv hd hy q
    · exact refDash31 t y m d hv hd hy q
    · exact refDash32 t y m d hv hd hy q
    · exact refDash33 t y m d hv hd hy q
  · rw [ba_ofD hl]; exact refBlank t y m d hv hd
theorem both (s : ByteArray) (hs : s.size < 4294967281) : ∃ v e, Ans s v e ∧ RefAns s v e := by
  by_cases h : ∃ t, IsForm s.data.toList t
  · obtain ⟨t, h⟩ := h
    exact ⟨t, 0, parse_of_form s t h, ref_of_form s t h⟩
  · rcases parse_any s hs with a | ⟨t, ht, _⟩
    · rcases ref_any s with b | ⟨t, ht, _⟩
      · exact ⟨0, 20, a, b⟩
      · exact absurd ⟨t, ht⟩ h
    · exact absurd ⟨t, ht⟩ h
end Go.Proofs.YtipcmbonhkelbabGreatDoor
namespace Go.Proofs.YtipcmbonhkelbabGreatDoor.dateParses
open Go.RowKit
end Go.Proofs.YtipcmbonhkelbabGreatDoor.dateParses
namespace Go.Proofs.YtipcmbonhkelbabGreatDoor
open Go.RowKit
theorem dt_ex (l : List UInt8) (h : l.length < 4294967281) : ∃ d, DtP l d := by
  by_cases hf : ∃ t, IsForm l t
  · obtain ⟨t, hf⟩ := hf
    exact ⟨t, by have := hf.1; omega, hf.2.1, t, 0, .inr ⟨hf.1, rfl, rfl⟩, parse_of_form ⟨l.toArray⟩ t hf⟩
  · refine ⟨-1, by omega, by omega, 0, 20, .inl ⟨by omega, rfl, rfl⟩, ?_⟩
    rcases parse_any ⟨l.toArray⟩ (by show l.toArray.size < 4294967281; rw [List.size_toArray]; exact h) with c | ⟨t, ht, _⟩
    · exact c
    · exact absurd ⟨t, ht⟩ hf
theorem dt_exB (l : List UInt8) (h : l.length < 4294967281) : ∃ d, DtB l d := by
  by_cases hf : ∃ t, IsForm l t
  · obtain ⟨t, hf⟩ := hf
    exact ⟨t, ⟨by have := hf.1; omega, hf.2.1, t, 0, .inr ⟨hf.1, rfl, rfl⟩, parse_of_form ⟨l.toArray⟩ t hf⟩, t, 0, .inr ⟨hf.1, rfl, rfl⟩, ref_of_form ⟨l.toArray⟩ t hf⟩
  · refine ⟨-1, ⟨by omega, by omega, 0, 20, .inl ⟨by omega, rfl, rfl⟩, ?_⟩, 0, 20, .inl ⟨by omega, rfl, rfl⟩, ?_⟩
    · rcases parse_any ⟨l.toArray⟩ (by show l.toArray.size < 4294967281; rw [List.size_toArray]; exact h) with c | ⟨t, ht, _⟩
      · exact c
      · exact absurd ⟨t, ht⟩ hf
    · rcases ref_any ⟨l.toArray⟩ with c | ⟨t, ht, _⟩
      · exact c
      · exact absurd ⟨t, ht⟩ hf
end Go.Proofs.YtipcmbonhkelbabGreatDoor
namespace Go.Proofs.YtipcmbonhkelbabGreatDoor
open Go.RowKit
open Classical in
/-- the second that a text says, -1 where it says none -/
noncomputable def dtF (l : List UInt8) : Int := if h : ∃ t, IsForm l t then Classical.choose h else -1
theorem dtF_spec (l : List UInt8) (h : l.length < 4294967281) : DtB l (dtF l) := by
  unfold dtF
  by_cases hf : ∃ t, IsForm l t
  · rw [dif_pos hf]
    have hc := Classical.choose_spec hf
    generalize Classical.choose hf = t at hc
    exact ⟨⟨by have := hc.1; omega, hc.2.1, t, 0, .inr ⟨hc.1, rfl, rfl⟩, parse_of_form ⟨l.toArray⟩ t hc⟩, t, 0, .inr ⟨hc.1, rfl, rfl⟩, ref_of_form ⟨l.toArray⟩ t hc⟩
  · rw [dif_neg hf]
    refine ⟨⟨by omega, by omega, 0, 20, .inl ⟨by omega, rfl, rfl⟩, ?_⟩, 0, 20, .inl ⟨by omega, rfl, rfl⟩, ?_⟩
    · rcases parse_any ⟨l.toArray⟩ (by show l.toArray.size < 4294967281; rw [List.size_toArray]; exact h) with c | ⟨t, ht, _⟩
      · exact c
      · exact absurd ⟨t, ht⟩ hf
    · rcases ref_any ⟨l.toArray⟩ with c | ⟨t, ht, _⟩
      · exact c
      · exact absurd ⟨t, ht⟩ hf
theorem no_form (t : Int) : ¬ IsForm [] t := by
  rintro ⟨_, _, y, m, d, _, _, h | ⟨_, h⟩ | h⟩
  · have := congrArg List.length h
    simp [showL] at this
  · have := congrArg List.length h
    simp [dashL] at this
  · have := congrArg List.length h
    simp [blankL] at this
theorem dtF_nil : dtF [] < 0 := by
  unfold dtF
  rw [dif_neg (fun ⟨t, h⟩ => no_form t h)]
  omega
end Go.Proofs.YtipcmbonhkelbabGreatDoor
