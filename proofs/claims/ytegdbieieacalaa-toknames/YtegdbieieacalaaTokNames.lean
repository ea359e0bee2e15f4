/- The law TokNames holds: at the landed commit, every call of it returns true (each error and each limit has its number) and changes nothing that was there. No conditions. -/
import Derived.Test.YtegdbieieacalaaRows
import Derived.WalkKit
import Derived.ProofKit
import Derived.OpenShut
import Derived.Deep.QuietTactic
import Derived.BigQuiet
namespace Go.Proofs.Ytegdbieieacalaa.tokNames
open Go.ChangeShapes Go.WideShapes Go.ChangeAt Go.RowKit
set_option linter.unusedVariables false

theorem own : ownKnob Try.prog.godebug = none := by kernel_rfl

set_option maxHeartbeats 400000 in
theorem unq (w : World) :
    Calls Try.prog 5 #[.string ⟨#[120]⟩] w fun e w' => e = .returned (.tuple #[.string ⟨#[]⟩, .int .i64 11]) ∧ w' = w := by
  go_enter Try.func5, Try.ntmps5
  go_wp2
  go_ret2
  exact ⟨rfl, rfl⟩
def errL : List Int := [10, 11, 12, 20, 30, 31, 32, 33, 40, 41, 42, 50, 51, 52, 53, 60, 61, 62, 70, 71, 80, 90, 91, 92, 93, 94, 95, 100, 101, 110, 120, 130, 131, 190, 191, 210, 250, 251]
/-- what two blocks of a world hold: the same numbers -/
def Two (l : List Int) (b : Nat) (w : World) : Prop :=
  (∀ k, k < l.length → w.cell? ⟨b, k, none⟩ = some (.int .i64 (l.getD k 0))) ∧ (∀ k, k < l.length → w.cell? ⟨b + 1, k, none⟩ = some (.int .i64 (l.getD k 0)))
theorem cell_arr (l : List Int) (w : World) (t : TypeId) (k : Nat) (h : k < l.length) : (w.alloc (.cells (l.map (Value.int .i64)).toArray t)).cell? ⟨w.heap.size, k, none⟩ = some (.int .i64 (l.getD k 0)) := by
  simp [h]
theorem two_mk (l : List Int) (w : World) (t u : TypeId) : Two l w.heap.size ((w.alloc (.cells (l.map (Value.int .i64)).toArray t)).alloc (.cells (l.map (Value.int .i64)).toArray u)) := by
  refine ⟨fun k h => ?_, fun k h => ?_⟩
  · have := cell_arr l w t k h
    simpa using this
  · have := cell_arr l (w.alloc (.cells (l.map (Value.int .i64)).toArray t)) u k h
    simpa using this
def limL : List Int := [8192, 100, 65536, 255, 4096, 64, 8192, 1073741824, 4096, 200, 253402300799, 2147483648, 64, 1000, 65536, 1048576, 262144, 1, 9, 1, 8, 1, 2, 0, 1, 2, 3]
theorem errL_len : errL.length = 38 := rfl
theorem limL_len : limL.length = 27 := rfl
theorem Two.drewN {l : List Int} {b : Nat} {w : World} (h : Two l b w) (n : Nat) : Two l b (w.drewN n) := by
  refine ⟨fun k hk => ?_, fun k hk => ?_⟩
  · simpa using h.1 k hk
  · simpa using h.2 k hk
theorem grown_drewN {w w' : World} (h : Grown w w') (n : Nat) : Grown w (w'.drewN n) := by
  induction n with
  | zero => exact h
  | succ n ih => exact ih.drew
set_option maxHeartbeats 1000000 in
theorem walk  (w : World) :
    Calls Try.prog 3 #[] w fun e w' => e = .returned (.bool true) ∧ Grown w w' := by
  go_enter Try.func3, Try.ntmps3
  go_wp2_with (go_at_call 5; refine (unq _).mono ?_; rintro e w' ⟨rfl, rfl⟩)
  go_loopw [5] (fun i wr => ∃ k : Nat, k ≤ 38 ∧ i = .int .i64 k ∧ Hid (Two errL w'.heap.size wr) ∧ Hid (Grown w' wr)) (fun i _ => 38 - (intOf i).toNat)
  case atStart => exact ⟨0, by omega, rfl, two_mk errL w' 22 3, ((Grown.refl _).alloc _ _).alloc _ _⟩
  case round =>
    obtain ⟨k, hk, rfl, h2, hg⟩ := hrel
    by_cases hlt : k < 38
    · have c1 := h2.out.1 k (by rw [errL_len]; exact hlt)
      have c2 := h2.out.2 k (by rw [errL_len]; exact hlt)
      have g1 : decide ((38 : Int) ≤ k) = false := by simp; omega
      go_wp2
      go_quiet (fail)
      go_wp2
      go_roundw
      case rel => exact ⟨k + 1, by omega, by go_num, h2.out.drewN _, grown_drewN hg.out _⟩
      case measure => simp [intOf]; omega
    · go_wp2
      obtain ⟨wo, ewo⟩ : ∃ wo : World, wo = wr := ⟨_, rfl⟩
      go_loopw [8] (fun i wr => ∃ k : Nat, k ≤ 27 ∧ i = .int .i64 k ∧ Hid (Two limL wo.heap.size wr) ∧ Hid (Grown w' wr)) (fun i _ => 27 - (intOf i).toNat)
      case atStart => subst ewo; exact ⟨0, by omega, rfl, two_mk limL wo 3 3, (hg.out.alloc _ _).alloc _ _⟩
      case round =>
        subst ewo
        clear h2 hg
        rename_i wr
        obtain ⟨j, hj, rfl, h2, hg⟩ := hrel
        by_cases hjt : j < 27
        · have c1 := h2.out.1 j (by rw [limL_len]; exact hjt)
          have c2 := h2.out.2 j (by rw [limL_len]; exact hjt)
          have g1 : decide ((27 : Int) ≤ j) = false := by simp; omega
          go_wp2
          go_quiet (fail)
          go_wp2
          go_roundw
          case rel => exact ⟨j + 1, by omega, by go_num, h2.out.drewN _, grown_drewN hg.out _⟩
          case measure => simp [intOf]; omega
        · go_wp2
          go_ret
          exact ⟨rfl, hg.out⟩
set_option maxRecDepth 100000 in
theorem lifted (os : Os) (started : os.Started) (H : Type) (enc : TypeId × Value → H) :
    ReturnsInHanded {} Try.checked os 3 .any (Rows.tokNamesSpec.pre6 enc Try.prog Try.f3 Rows.tokNamesRow.domain false) (Rows.tokNamesSpec.post enc Try.prog Try.f3 false true false false) := by
  refine returnsInHanded_of_change (C := Try.checked) own started (by kernel_rfl) Try.func3
    (ChangeSpec.witness6 (enc := enc) (C := Try.checked) false ⟨#[], #[], []⟩ 8 (by kernel_rfl) (by kernel_rfl) (by kernel_rfl) (by kernel_rfl)) ?_
  intro W base args ds gs before hval0 hW hcnd _
  have hval : ∀ (j : Nat) t v, Try.f3.params[j]? = some t → args[j]? = some v → Value.okWide Try.prog W .any base t v := hval0
  have hW' := hW
  obtain ⟨p, q, hA0, hV, rfl, hfz, hnd⟩ := hW
  have hA : DataW.TrodAll enc Try.prog W 0 (fun _ => true) true Try.f3.params.toList args.toList ds p := hA0
  rw [Try.params3] at hA hval
  obtain ⟨rfl, rfl, rfl⟩ := trodAll_none hA
  obtain ⟨rfl, rfl⟩ := trodVars_none hV
  clear hA0 hval0
  simp only [List.append_nil] at hW'
  refine (walk  W).mono fun e W' ⟨he, hg⟩ => ?_
  subst he
  exact ⟨_, rfl, post_of_same (pa := []) (pv := []) hW' (fun _ _ _ => (trodAll_cons_mk (shut_bool Try.underlying4 _) trodAll_mk0)) (fun sp _ => rfl) (fun _ _ => rfl) rfl
    (hg.frame _) hg.2.1 (ok_one (by kernel_rfl) rfl (okWide_bool_mk Try.underlying4 _))⟩

theorem over : Rows.tokNamesRow.holds Try.pinned (OpenSpec.ofChange Rows.tokNamesSpec) :=
  OpenClaim.holds_of_wide 3 Try.f3 rfl rfl rfl rfl rfl rfl rfl ⟨rfl, rfl, rfl, rfl, rfl⟩ rfl rfl rfl rfl rfl (by kernel_rfl) Try.func3 (by kernel_rfl)
    (of_decide_eq_true (by kernel_rfl)) (by unfold Func.isWrapper; first | (rw [if_pos (by decide +kernel)]; kernel_rfl) | (rw [if_neg (by decide +kernel)]; exact ⟨rfl, rfl⟩))
    (fun os started H enc _ => lifted os started H enc)

end Go.Proofs.Ytegdbieieacalaa.tokNames
namespace Go.Proofs.Ytegdbieieacalaa
theorem tokNames_holds : Rows.TokNamesSaid := tokNames.over
#print axioms tokNames_holds
end Go.Proofs.Ytegdbieieacalaa
