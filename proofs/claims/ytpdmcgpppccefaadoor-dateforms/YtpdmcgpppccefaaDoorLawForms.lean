/- The contract of the document's Forms, and the walk of the law DateForms. -/
import Derived.Test.YtpdmcgpppccefaaDoorDaG
namespace Go.Proofs.YtpdmcgpppccefaaDoor
open Go.RowKit
set_option maxHeartbeats 1000000 in
theorem formsRef2 (t y m d : Int) (t0 : 0 ≤ t) (t1 : t ≤ 253402300799) (hv : Valid y m d) (hd : dayOf y m d = t / 86400) (w : World) :
    Calls Tryd.prog 18 #[.int .i64 t] w fun e w' => e = .returned (.agg #[.string ⟨(showL (t / 86400) (t % 86400) y m d).toArray⟩, .string ⟨(dash2L (t / 86400) (t % 86400) y m d).toArray⟩, .string ⟨(blankL (t / 86400) (t % 86400) y m d).toArray⟩]) ∧ Below w.heap.size w w' := by
  have c := hide (fun W => formsRef t y m d t0 t1 hv hd W)
  generalize (showL (t / 86400) (t % 86400) y m d).toArray = A at c ⊢
  generalize (dash2L (t / 86400) (t % 86400) y m d).toArray = B at c ⊢
  generalize (blankL (t / 86400) (t % 86400) y m d).toArray = C at c ⊢
  clear hv hd
  go_enter Tryd.func18, Tryd.ntmps18
  go_wp2_with fail
  refine (c.out _).mono ?_
  rintro e w1 ⟨rfl, b1⟩
  have a0 : Arr3 w.heap.size ⟨#[]⟩ ⟨#[]⟩ ⟨#[]⟩ (w.alloc (.cells #[.string ⟨#[]⟩, .string ⟨#[]⟩, .string ⟨#[]⟩] 34)) := ⟨by simp, by simp, by simp, by simp, by simp, by simp, by simp⟩
  have a1 := hide (arr_below a0 b1)
  have B1 : Hid (Below w.heap.size w w1) := ((Below.refl _ _).alloc (Nat.le_refl _) _).trans (b1.mono (by simp))
  clear b1 a0
  obtain ⟨h1, h2, h3, h4, h5, h6, h7⟩ := a1.out
  go_wp2_with fail
  obtain ⟨q1, q2, q3, _⟩ := arr_set2 (arr_set1 (arr_set0 a1.out ⟨A⟩) ⟨B⟩) ⟨C⟩
  exact bodyPost_ret (v := .agg #[.string ⟨A⟩, .string ⟨B⟩, .string ⟨C⟩]) (by simp [results, Tryd.results18, go_sem, q1, q2, q3]) rfl ⟨rfl, ((B1.out.setCell (Nat.le_refl _) _).setCell (Nat.le_refl _) _).setCell (Nat.le_refl _) _⟩
end Go.Proofs.YtpdmcgpppccefaaDoor
namespace Go.Proofs.YtpdmcgpppccefaaDoor.dateForms
open Go.RowKit
/-- what Parse says of a form: its second, or anything where there is none -/
theorem parse_form (t y m d : Int) (hv : Valid y m d) (hd : dayOf y m d = t / 86400) : ∃ f : Nat → ByteArray,
    f 0 = ⟨(showL (t / 86400) (t % 86400) y m d).toArray⟩ ∧ f 1 = ⟨(dash2L (t / 86400) (t % 86400) y m d).toArray⟩ ∧ f 2 = ⟨(blankL (t / 86400) (t % 86400) y m d).toArray⟩ ∧
    ∀ i, i < 3 → ∃ v e : Int, (f i = ⟨#[]⟩ ∨ ((f i).toList.isEmpty = false ∧ v = t ∧ e = 0)) ∧ ∀ w, Vars w → MaxV w → Calls Tryd.prog 12 #[.string (f i)] w fun x w' => x = .returned (.tuple #[.int .i64 v, .int .i64 e]) ∧ Below w.heap.size w w' := by
  refine ⟨fun i => if i = 0 then ⟨(showL (t / 86400) (t % 86400) y m d).toArray⟩ else if i = 1 then ⟨(dash2L (t / 86400) (t % 86400) y m d).toArray⟩ else ⟨(blankL (t / 86400) (t % 86400) y m d).toArray⟩, rfl, rfl, rfl, fun i hi => ?_⟩
  have ne : ∀ l : List UInt8, l ≠ [] → (⟨l.toArray⟩ : ByteArray).toList.isEmpty = false := fun l hl => by
    rw [Lib.toList_data]; cases l with
    | nil => exact absurd rfl hl
    | cons a b => rfl
  have : i = 0 ∨ i = 1 ∨ i = 2 := by omega
  rcases this with rfl | rfl | rfl
  · exact ⟨t, 0, .inr ⟨ne _ (by unfold showL; simp), rfl, rfl⟩, fun w V _ => parse_show t y m d hv hd w V⟩
  · by_cases hy : y < 2070
    · refine ⟨t, 0, .inr ⟨ne _ (by unfold dash2L; rw [if_pos hy]; unfold dashL; simp), rfl, rfl⟩, fun w V M => ?_⟩
      have := parse_dash t y m d hv hd hy w V M
      simp only [dash2L, if_pos hy]
      exact this
    · refine ⟨0, 20, .inl ?_, fun w _ M => ?_⟩
      · simp only [dash2L, if_neg hy]; rfl
      · simp only [dash2L, if_neg hy]
        have hc : Lib.cut [] [44, 32] = ([], [], false) := by decide
        have cC := cutCode ⟨#[]⟩ (by decide)
        rw [show (⟨#[]⟩ : ByteArray).data.toList = [] from rfl, hc] at cC
        exact parse_no1 ⟨#[]⟩ _ _ _ _ _ _ w (splitOther ⟨#[]⟩ (by decide) (by decide) _ _ _ _ _ _ _ w (fun W hW => splitDashed_no0 ⟨#[]⟩ _ _ false (.inl rfl) W (cC W (M.below hW))))
  · exact ⟨t, 0, .inr ⟨ne _ (by unfold blankL; simp), rfl, rfl⟩, fun w V _ => parse_blank t y m d hv hd w V⟩
set_option maxHeartbeats 2000000 in
theorem walk (t : Int) (w : World) (V : Vars w) (hsh : w.ShapedOpen Tryd.prog) :
    Calls Tryd.prog 7 #[.int .i64 t] w fun e w' => e = .returned (.bool true) ∧ Below w.heap.size w w' := by
  have cA := hide (alive w V)
  have M := hide (maxV_of hsh)
  clear hsh
  by_cases ht : t < 0 ∨ 253402300799 < t
  · clear V M
    rcases ht with h | h
    · go_enter Tryd.func7, Tryd.ntmps7
      go_wp2_with fail
      refine cA.out.mono ?_
      rintro e w1 ⟨rfl, b1⟩
      replace b1 := hide b1
      go_wp2_with fail
      go_ret
      exact ⟨rfl, b1.out⟩
    · have h0 : 0 ≤ t := by omega
      go_enter Tryd.func7, Tryd.ntmps7
      go_wp2_with fail
      refine cA.out.mono ?_
      rintro e w1 ⟨rfl, b1⟩
      replace b1 := hide b1
      go_wp2_with fail
      go_ret
      exact ⟨rfl, b1.out⟩
  · have t0 : 0 ≤ t := by omega
    have t1 : t ≤ 253402300799 := by omega
    obtain ⟨y, m, d, hv, hd⟩ := dateOf (t := t) t0 t1
    obtain ⟨f, f0, f1, f2, hf⟩ := parse_form t y m d hv hd
    have cF := hide (fun W => formsRef2 t y m d t0 t1 hv hd W)
    rw [← f0, ← f1, ← f2] at cF
    replace hf := hide hf
    replace V := hide V
    clear f0 f1 f2 hv hd ht
    go_enter Tryd.func7, Tryd.ntmps7
    go_wp2_with fail
    refine cA.out.mono ?_
    rintro e w1 ⟨rfl, b1⟩
    replace b1 := hide b1
    go_wp2_with fail
    refine (cF.out _).mono ?_
    rintro e w2 ⟨rfl, b2⟩
    have B2 : Hid (Below w.heap.size w w2) := b1.out.trans (b2.mono b1.out.size)
    clear b2
    go_wp2_with fail
    have A3 : Hid (Arr3 w2.heap.size (f 0) (f 1) (f 2) (w2.alloc (.cells #[.string (f 0), .string (f 1), .string (f 2)] 34))) := ⟨by simp, by simp, by simp, by simp, by simp, by simp, by simp⟩
    have B3 : Hid (Below w.heap.size w (w2.alloc (.cells #[.string (f 0), .string (f 1), .string (f 2)] 34))) := B2.out.alloc B2.out.size _
    generalize w2.alloc (.cells #[.string (f 0), .string (f 1), .string (f 2)] 34) = w3 at A3 B3 ⊢
    generalize w2.heap.size = g at A3 ⊢
    clear B2 b1 cF cA
    go_loopw [4, 5, 6] (fun iv _ _ wr => ∃ k : Nat, k ≤ 3 ∧ iv = .int .i64 k ∧ Hid (Arr3 g (f 0) (f 1) (f 2) wr) ∧ Hid (Below w.heap.size w wr)) (fun iv _ _ _ => 3 - (intOf iv).toNat)
    case atStart => exact ⟨0, by omega, rfl, A3, B3⟩
    case round =>
      obtain ⟨k, hk, rfl, hA, hB⟩ := hrel
      clear A3 B3
      by_cases hlt : k < 3
      · obtain ⟨v, e, hq, hc⟩ := hf.out k hlt
        have hc2 := hide (hc wr (V.out.below hB.out) (M.out.below hB.out))
        have k1 : wr.cell? ⟨g, k, none⟩ = some (.string (f k)) := by
          obtain ⟨a0, a1, a2, _⟩ := hA.out
          have : k = 0 ∨ k = 1 ∨ k = 2 := by omega
          rcases this with rfl | rfl | rfl
          · exact a0
          · exact a1
          · exact a2
        have hgz : g < wr.heap.size := hA.out.2.2.2.2.2.2
        generalize f k = x at hq hc2 k1
        have g1 : (k : Int) < (3 : Int) := by omega
        clear hc
        go_wp2_with fail
        refine hc2.out.mono ?_
        rintro e' w4 ⟨rfl, b4⟩
        have k2 : w4.cell? ⟨g, k, none⟩ = some (.string x) := by rw [b4.cell (p := ⟨g, k, none⟩) hgz]; exact k1
        have A4 := hide (arr_below hA.out b4)
        have B4 : Hid (Below w.heap.size w w4) := hB.out.trans (b4.mono hB.out.size)
        clear b4 k1 hc2
        rcases hq with rfl | ⟨h1, rfl, rfl⟩
        · go_wp2_with fail
          go_roundw
          case rel => exact ⟨k + 1, by omega, by go_num, A4, B4⟩
          case measure => simp [intOf]; omega
        · go_wp2_with fail
          go_roundw
          case rel => exact ⟨k + 1, by omega, by go_num, A4, B4⟩
          case measure => simp [intOf]; omega
      · go_wp2_with fail
        go_ret
        exact ⟨rfl, hB.out⟩
end Go.Proofs.YtpdmcgpppccefaaDoor.dateForms
