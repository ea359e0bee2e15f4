/- The contracts of CopyFields and SameFields. -/
import Derived.Test.YtikokjclhpgocaaFdO
import Derived.Lib.Bytealg
namespace Go.Proofs.Ytikokjclhpgocaa
open Go.RowKit
set_option maxHeartbeats 400000 in
theorem copyF (v : Value) (fs : FL) (w : World) (hv : HoldsF w v fs) (hl : fs.length * 32 ≤ 140737488355328) :
    Calls Try.prog 11 #[v] w fun e w' => ∃ u, e = .returned u ∧ OwnF w u fs w' := by
  have hv2 := holdsF_mono hv (below_alloc' w (.cells #[] 32))
  have HV : Hid _ := hv2
  clear hv hv2
  go_enter Try.func11, Try.ntmps11
  go_wp2_with (at_builtin; refine appAllF rfl (.tmp 5) (.tmp 6) rfl w _ [] rfl (ownF_empty w) v fs rfl HV.out (by simpa using hl) ?_; intro v2 w2 hown2)
  go_ret
  exact ⟨v2, rfl, hown2⟩
set_option maxHeartbeats 1000000 in
theorem sameF (va vb : Value) (xs ys : FL) (w : World) (ha : HoldsF w va xs) (hb : HoldsF w vb ys) (la : xs.length ≤ 1000000000000000) (lb : ys.length ≤ 1000000000000000) :
    Calls Try.prog 12 #[va, vb] w fun e w' => e = .returned (.bool (decide (xs = ys))) ∧ ∃ n, w' = w.drewN n := by
  obtain ⟨ao, ca, rfl, _, _, hca⟩ := ha
  obtain ⟨bo, cb, rfl, _, _, hcb⟩ := hb
  by_cases hl : xs.length = ys.length
  · by_cases hz : xs.length = 0
    · have e1 : xs = [] := List.eq_nil_of_length_eq_zero hz
      have e2 : ys = [] := List.eq_nil_of_length_eq_zero (by omega)
      subst e1 e2
      clear hca hcb hl hz la lb
      go_enter Try.func12, Try.ntmps12
      go_wp2
      go_rounds 1
      go_ret
      exact ⟨rfl, 0, rfl⟩
    · obtain ⟨b1, o1, rfl, hlt1, c1⟩ := hca (fun e => hz (by rw [e]; rfl))
      obtain ⟨b2, o2, rfl, hlt2, c2⟩ := hcb (fun e => hz (by rw [hl, e]; rfl))
      have C1 : Hid _ := c1
      have C2 : Hid _ := c2
      obtain ⟨n, hn⟩ : ∃ n, n = xs.length := ⟨_, rfl⟩
      have N1 : Hid (xs.length = n) := hn.symm
      have N2 : Hid (ys.length = n) := by unfold Hid; omega
      have ln : n ≤ 1000000000000000 := by omega
      rw [N1.out, N2.out]
      clear hca hcb c1 c2 hl hz la lb hn
      go_enter Try.func12, Try.ntmps12
      go_wp2
      go_loopw [5] (fun i wr => ∃ k : Nat, k ≤ n ∧ i = .int .i64 k ∧ Hid (xs.take k = ys.take k) ∧ ∃ m, Hid (wr = w.drewN m)) (fun i _ => n - (intOf i).toNat)
      case atStart => exact ⟨0, by omega, rfl, rfl, 0, rfl⟩
      case round =>
        obtain ⟨k, hk, rfl, hE, m, hw⟩ := hrel
        have hw' := hw.out
        subst hw'
        by_cases hlt : k < n
        · have x1 := C1.out k (by rw [N1.out]; exact hlt)
          have x2 := C2.out k (by rw [N2.out]; exact hlt)
          unfold S at x1 x2
          have G1 : Hid (k < xs.length) := by unfold Hid; rw [N1.out]; exact hlt
          have G2 : Hid (k < ys.length) := by unfold Hid; rw [N2.out]; exact hlt
          by_cases he : xs[k]'G1.out = ys[k]'G2.out
          · have E : Hid (xs.take (k + 1) = ys.take (k + 1)) := by
              unfold Hid; rw [List.take_succ_eq_append_getElem G1.out, List.take_succ_eq_append_getElem G2.out, hE.out, he]
            rw [he] at x1
            generalize (ys[k]'G2.out).1.toArray = y1 at x1 x2
            generalize (ys[k]'G2.out).2.toArray = y2 at x1 x2
            clear he
            obtain ⟨x11, x12⟩ := x1
            obtain ⟨x21, x22⟩ := x2
            go_wp2
            go_quiet (fail)
            go_wp2
            go_roundw
            case rel => exact ⟨k + 1, by omega, by go_num, E, _, rfl⟩
            case measure => simp [intOf]; omega
          · have F : Hid (decide (xs = ys) = false) := by
              unfold Hid; rw [decide_eq_false_iff_not]; intro e; subst e; exact he rfl
            by_cases he1 : (xs[k]'G1.out).1 = (ys[k]'G2.out).1
            · have he2 : ¬ (xs[k]'G1.out).2 = (ys[k]'G2.out).2 := fun e2 => he (Prod.ext he1 e2)
              have hne : ((⟨(xs[k]'G1.out).2.toArray⟩ : ByteArray).toList == (⟨(ys[k]'G2.out).2.toArray⟩ : ByteArray).toList) = false := by
                rw [Lib.toList_data, Lib.toList_data]; simpa using he2
              rw [he1] at x1
              generalize (ys[k]'G2.out).1.toArray = y1 at x1 x2
              generalize (xs[k]'G1.out).2.toArray = x' at x1 hne
              generalize (ys[k]'G2.out).2.toArray = y' at x2 hne
              clear he he1 he2
              obtain ⟨x11, x12⟩ := x1
              obtain ⟨x21, x22⟩ := x2
              go_wp2
              go_quiet (fail)
              go_wp2
              go_ret
              rw [F.out]
              exact ⟨rfl, _, World.drewN_drewN _ _ _⟩
            · have hne : ((⟨(xs[k]'G1.out).1.toArray⟩ : ByteArray).toList == (⟨(ys[k]'G2.out).1.toArray⟩ : ByteArray).toList) = false := by
                rw [Lib.toList_data, Lib.toList_data]; simpa using he1
              generalize (xs[k]'G1.out).1.toArray = x at x1 hne
              generalize (ys[k]'G2.out).1.toArray = y at x2 hne
              generalize (xs[k]'G1.out).2.toArray = x' at x1
              generalize (ys[k]'G2.out).2.toArray = y' at x2
              clear he he1
              obtain ⟨x11, x12⟩ := x1
              obtain ⟨x21, x22⟩ := x2
              go_wp2
              go_quiet (fail)
              go_wp2
              go_ret
              rw [F.out]
              exact ⟨rfl, _, World.drewN_drewN _ _ _⟩
        · have F : Hid (decide (xs = ys) = true) := by
            unfold Hid; rw [decide_eq_true_iff]
            have := hE.out
            rwa [List.take_of_length_le (by rw [N1.out]; omega), List.take_of_length_le (by rw [N2.out]; omega)] at this
          go_wp2
          go_ret
          rw [F.out]
          exact ⟨rfl, m, rfl⟩
  · have F : Hid (decide (xs = ys) = false) := by
      unfold Hid; rw [decide_eq_false_iff_not]; intro e; subst e; exact hl rfl
    have hl' : ((xs.length : Int) != (ys.length : Int)) = true := by simp; omega
    clear hca hcb hl
    generalize xs.length = n1 at la hl' ⊢
    generalize ys.length = n2 at lb hl' ⊢
    go_enter Try.func12, Try.ntmps12
    go_wp2
    go_ret
    rw [F.out]
    exact ⟨rfl, 0, rfl⟩
end Go.Proofs.Ytikokjclhpgocaa
