/- The walk of ObjectIds. -/
import Derived.Test.YtnlehfondhegbaaGen
import Derived.Lib.AppendStr
import Derived.Lib.Strings
namespace Go.Proofs.Ytnlehfondhegbaa
open Go.RowKit
theorem addS (x y : ByteArray) (h : x.size + y.size ≤ 1000000000000000) : ∃ s : ByteArray, (∀ W, (Op.stringOp .add x y).run Try.prog W = .ok (.string s) W) ∧ s.data.toList = x.data.toList ++ y.data.toList ∧ s.size = x.size + y.size :=
  ⟨x ++ y, fun W => run_string_add_sum W _ _ (by omega), by simp [ByteArray.data_append], ByteArray.size_append⟩
theorem ba_of {s t : ByteArray} (h : s.data.toList = t.data.toList) : s = t := by cases s; cases t; simp at h; simp [h]
theorem toL (s : ByteArray) : s.toList = s.data.toList := Lib.toList_data s
theorem eqS {s t : ByteArray} (h : ¬ s.data.toList = t.data.toList) : (s.toList == t.toList) = false := by rw [toL, toL]; simpa using h
/-- no 10 in it -/
def no10 (l : List UInt8) : Prop := ∀ c ∈ l, c ≠ 10
theorem id_inj {x x' y y' : List UInt8} (hx : no10 x) (hx' : no10 x') (h : x ++ 10 :: y = x' ++ 10 :: y') : x = x' ∧ y = y' := by
  induction x generalizing x' with
  | nil =>
    cases x' with
    | nil => simpa using h
    | cons c r =>
      simp only [List.nil_append, List.cons_append, List.cons.injEq] at h
      exact absurd h.1.symm (hx' c (List.mem_cons_self ..))
  | cons c r ih =>
    cases x' with
    | nil =>
      simp only [List.nil_append, List.cons_append, List.cons.injEq] at h
      exact absurd h.1 (hx c (List.mem_cons_self ..))
    | cons c' r' =>
      simp only [List.cons_append, List.cons.injEq] at h
      obtain ⟨rfl, h⟩ := h
      obtain ⟨rfl, rfl⟩ := ih (fun z hz => hx z (List.mem_cons_of_mem _ hz)) (fun z hz => hx' z (List.mem_cons_of_mem _ hz)) h
      exact ⟨rfl, rfl⟩
theorem idC2 (k v : ByteArray) (hk : k.size ≤ 140737488351232) (hv : v.size ≤ 140737488351232) : ∃ X : ByteArray, X.data.toList = k.data.toList ++ 10 :: v.data.toList ∧ ∀ w, Calls Try.prog 4 #[.string k, .string v] w fun e w' => e = .returned (.string X) ∧ w' = w := by
  have z3 : (⟨#[10]⟩ : ByteArray).size = 1 := rfl
  obtain ⟨X1, a1, l1, s1⟩ := addS k ⟨#[10]⟩ (by omega)
  obtain ⟨X2, a2, l2, s2⟩ := addS X1 v (by omega)
  refine ⟨X2, by rw [l2, l1]; simp, fun w => ?_⟩
  clear l1 l2
  go_enter Try.func4, Try.ntmps4
  go_wp2
  go_ret
  exact ⟨rfl, rfl⟩
theorem no10_take {s : ByteArray} {k : Nat} (h : ∀ j, j < k → ∀ hj : j < s.size, s[j] ≠ 10) (hk : s.size ≤ k) : no10 s.data.toList := by
  intro c hc
  obtain ⟨j, hj, rfl⟩ := List.mem_iff_getElem.1 hc
  have hs : s.data.toList.length = s.size := by simp
  exact h j (by omega) (by omega)
set_option maxRecDepth 20000 in
set_option maxHeartbeats 4000000 in
theorem idsW (a b c d : ByteArray) (w : World) (ha : a.size ≤ 140737488351232) (hb : b.size ≤ 140737488351232) (hc : c.size ≤ 140737488351232) (hd : d.size ≤ 140737488351232) :
    Calls Try.prog 3 #[.string a, .string b, .string c, .string d] w fun e w' => e = .returned (.bool true) ∧ Below w.heap.size w w' := by
  obtain ⟨X0, hX0, c0⟩ := idC2 ⟨#[107]⟩ ⟨#[118]⟩ (by decide) (by decide)
  have eX : X0 = ⟨#[107, 10, 118]⟩ := ba_of hX0
  subst eX
  obtain ⟨X, hX, cX⟩ := idC2 a b (by omega) (by omega)
  obtain ⟨Y, hY, cY⟩ := idC2 c d (by omega) (by omega)
  have C0 := hide' c0
  have CX := hide' cX
  have CY := hide' cY
  have HX := hide' hX
  have HY := hide' hY
  clear c0 cX cY hX hY hX0
  go_enter Try.func3, Try.ntmps3
  go_wp2_with fail
  refine (C0.out _).mono ?_
  rintro x w9 ⟨rfl, ew⟩
  rw [ew]
  clear ew w9 C0
  go_wp2_with fail
  go_loopw [9] (fun iv wr => ∃ k : Nat, k ≤ a.size ∧ iv = .int .i64 k ∧ Hid (wr = w) ∧ Hid (∀ j, j < k → ∀ hj : j < a.size, a[j] ≠ 10)) (fun i _ => a.size - (intOf i).toNat)
  case atStart => exact ⟨0, by omega, rfl, rfl, fun j hj => absurd hj (Nat.not_lt_zero _)⟩
  case round =>
    obtain ⟨k, hk, rfl, hw, hn⟩ := hrel
    have hw' := hw.out.symm
    subst hw'
    by_cases hlt : k < a.size
    · by_cases h10 : a[k] = 10
      · have d10 : ((a[k].toNat : Int) == 10) = true := by rw [h10]; rfl
        have e10 : a[k].toNat = 10 := by rw [h10]; rfl
        clear h10
        go_wp2_with fail
        go_ret
        exact ⟨rfl, Below.refl _ _⟩
      · have e10 : ¬ a[k].toNat = 10 := fun h => h10 (UInt8.toNat_inj.1 h)
        have d10 : (a[k].toNat == 10) = false := by simpa using e10
        have HN : Hid (∀ j, j < k + 1 → ∀ hj : j < a.size, a[j] ≠ 10) := fun j hj hs => by
          by_cases e : j = k
          · subst e; exact h10
          · exact hn.out j (by omega) hs
        clear h10
        go_wp2_with fail
        go_roundw
        case rel => exact ⟨k + 1, by omega, by go_num, (by unfold Hid; first | trivial | rfl), HN⟩
        case measure => simp [intOf]; omega
    · have NA := hide' (no10_take hn.out (by omega))
      clear hn hw
      go_wp2_with fail
      go_loopw [10] (fun iv wr => ∃ k : Nat, k ≤ c.size ∧ iv = .int .i64 k ∧ Hid (wr = w) ∧ Hid (∀ j, j < k → ∀ hj : j < c.size, c[j] ≠ 10)) (fun i _ => c.size - (intOf i).toNat)
      case atStart => exact ⟨0, by omega, rfl, rfl, fun j hj => absurd hj (Nat.not_lt_zero _)⟩
      case round =>
        obtain ⟨m, hm, rfl, hw2, hn2⟩ := hrel
        have hw2' := hw2.out.symm
        subst hw2'
        by_cases hlt2 : m < c.size
        · by_cases h10 : c[m] = 10
          · have e10 : c[m].toNat = 10 := by rw [h10]; rfl
            clear h10
            go_wp2_with fail
            go_ret
            exact ⟨rfl, Below.refl _ _⟩
          · have e10 : ¬ c[m].toNat = 10 := fun h => h10 (UInt8.toNat_inj.1 h)
            have d10 : (c[m].toNat == 10) = false := by simpa using e10
            have HN : Hid (∀ j, j < m + 1 → ∀ hj : j < c.size, c[j] ≠ 10) := fun j hj hs => by
              by_cases e : j = m
              · subst e; exact h10
              · exact hn2.out j (by omega) hs
            clear h10
            go_wp2_with fail
            go_roundw
            case rel => exact ⟨m + 1, by omega, by go_num, (by unfold Hid; first | trivial | rfl), HN⟩
            case measure => simp [intOf]; omega
        · have NC := hide' (no10_take hn2.out (by omega))
          clear hn2 hw2
          by_cases q1 : a.data.toList = c.data.toList
          · have ea := ba_of q1
            subst ea
            by_cases q2 : b.data.toList = d.data.toList
            · have eb := ba_of q2
              subst eb
              have exy : X = Y := ba_of (by rw [HX.out, HY.out])
              subst exy
              clear q1 q2
              go_wp2_with fail
              refine (CX.out _).mono ?_
              rintro x w9 ⟨rfl, ew⟩
              rw [ew]
              clear ew w9
              go_wp2_with fail
              refine (CY.out _).mono ?_
              rintro x w9 ⟨rfl, ew⟩
              rw [ew]
              clear ew w9
              go_wp2_with fail
              go_ret
              exact ⟨rfl, Below.refl _ _⟩
            · have n1 := eqS q2
              have n2 := eqS (s := X) (t := Y) (by rw [HX.out, HY.out]; intro h; exact q2 (by simpa using h))
              clear q1 q2
              go_wp2_with fail
              refine (CX.out _).mono ?_
              rintro x w9 ⟨rfl, ew⟩
              rw [ew]
              clear ew w9
              go_wp2_with fail
              refine (CY.out _).mono ?_
              rintro x w9 ⟨rfl, ew⟩
              rw [ew]
              clear ew w9
              go_wp2_with fail
              go_ret
              exact ⟨rfl, Below.refl _ _⟩
          · have n1 := eqS q1
            have n2 := eqS (s := X) (t := Y) (by rw [HX.out, HY.out]; intro h; exact q1 (id_inj NA.out NC.out h).1)
            clear q1
            go_wp2_with fail
            refine (CX.out _).mono ?_
            rintro x w9 ⟨rfl, ew⟩
            rw [ew]
            clear ew w9
            go_wp2_with fail
            refine (CY.out _).mono ?_
            rintro x w9 ⟨rfl, ew⟩
            rw [ew]
            clear ew w9
            go_wp2_with fail
            go_ret
            exact ⟨rfl, Below.refl _ _⟩
end Go.Proofs.Ytnlehfondhegbaa
