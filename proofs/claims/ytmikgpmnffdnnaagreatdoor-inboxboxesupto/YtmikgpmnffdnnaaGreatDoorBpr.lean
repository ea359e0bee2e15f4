/- A box of pairs of bytes: pair, Feed told by blocks, ask, Next. -/
import Derived.Test.YtmikgpmnffdnnaaGreatDoorByI
import Derived.Test.YtmikgpmnffdnnaaGreatDoorFdMk
import Derived.ArgAppend
import Derived.RegionTactic
namespace Go.Proofs.YtmikgpmnffdnnaaGreatDoor
open Go.RowKit
/-- two bytes as a number: the number, how many bytes it takes, the error -/
def prOf : List UInt8 → Int × Nat × Int
  | a :: b :: _ => if a = 255 ∧ b = 255 then (0, 0, 80) else ((a.toNat : Int) * 256 + (b.toNat : Int), 2, 0)
  | _ => (0, 0, 0)
theorem pr_cons (a b : UInt8) (r : List UInt8) : prOf (a :: b :: r) = if a = 255 ∧ b = 255 then (0, 0, 80) else ((a.toNat : Int) * 256 + (b.toNat : Int), 2, 0) := rfl
def prV (p : Int × Nat × Int) : Value := .tuple #[.int .i64 p.1, .int .i64 (p.2.1 : Int), .int .i64 p.2.2]
theorem pr_facts (l : List UInt8) : (prOf l).2.1 ≤ l.length ∧ ((prOf l).2.2 = 0 ∨ ((prOf l) = (0, 0, 80))) ∧ ((prOf l).2.1 = 0 ∨ (prOf l).2.1 = 2) ∧ ((prOf l).2.1 = 0 → (prOf l).1 = 0) ∧ 0 ≤ (prOf l).1 ∧ (prOf l).1 ≤ 70000 := by
  match l with
  | [] => simp [prOf]
  | [_] => simp [prOf]
  | a :: b :: r =>
    have h1 := a.toNat_lt
    have h2 := b.toNat_lt
    rw [pr_cons]
    by_cases h : a = 255 ∧ b = 255
    · rw [if_pos h]; simp
    · rw [if_neg h]
      refine ⟨by simp only [List.length_cons]; omega, .inl rfl, .inr rfl, fun h => by simp at h, by simp only; omega, by simp only; omega⟩
set_option maxRecDepth 20000 in
set_option maxHeartbeats 2000000 in
theorem pairC (v : Value) (bs : List UInt8) (w : World) (hv : HoldsB w v bs) (hl : bs.length ≤ 1000000000) :
    Calls Tryz.prog 26 #[v] w fun e w' => e = .returned (prV (prOf bs)) ∧ Below w.heap.size w w' := by
  obtain ⟨ao, cap, rfl, h0, hcp, hc⟩ := hv
  match bs, hc, hl, hcp with
  | [], _, _, _ =>
    unfold prOf prV
    go_enter Tryz.func26, Tryz.ntmps26
    go_wp2_with fail
    exact bodyPost_ret (v := .tuple #[.int .i64 0, .int .i64 0, .int .i64 0]) (by simp [results, Tryz.results26, go_sem]) rfl ⟨rfl, Below.refl _ _⟩
  | [_], _, _, _ =>
    unfold prOf prV
    go_enter Tryz.func26, Tryz.ntmps26
    go_wp2_with fail
    exact bodyPost_ret (v := .tuple #[.int .i64 0, .int .i64 0, .int .i64 0]) (by simp [results, Tryz.results26, go_sem]) rfl ⟨rfl, Below.refl _ _⟩
  | a :: b :: r, hc, hl, hcp =>
    obtain ⟨bb, off, rfl, hlt, hcell⟩ := hc (by simp)
    have ca := hcell 0 (by simp)
    have cb := hcell 1 (by simp)
    simp only [Nat.add_zero, List.getElem_cons_zero, List.getElem_cons_succ] at ca cb
    unfold B at ca cb
    have h1 := a.toNat_lt
    have h2 := b.toNat_lt
    obtain ⟨n, hn⟩ : ∃ n, n = (a :: b :: r).length := ⟨_, rfl⟩
    have hn2 : 2 ≤ n := by rw [hn]; simp
    rw [← hn] at hl hcp ⊢
    have hn2' : ¬ (n : Int) < 2 := by omega
    rw [pr_cons]
    unfold prV
    clear hcell hc hn
    by_cases ha : a = 255
    · subst ha
      by_cases hb : b = 255
      · subst hb
        rw [if_pos ⟨rfl, rfl⟩]
        go_enter Tryz.func26, Tryz.ntmps26
        go_wp2_with fail
        exact bodyPost_ret (v := .tuple #[.int .i64 0, .int .i64 0, .int .i64 80]) (by simp [results, Tryz.results26, go_sem]) rfl ⟨rfl, Below.refl _ _⟩
      · have hb' : ((b.toNat : Int) == 255) = false := by
          have : b.toNat ≠ 255 := fun e => hb (UInt8.toNat_inj.1 e)
          simp; omega
        rw [if_neg (fun h => hb h.2)]
        go_enter Tryz.func26, Tryz.ntmps26
        go_wp2_with fail
        go_quiet (fail)
        go_wp2_with fail
        exact bodyPost_ret (v := .tuple #[.int .i64 (255 * 256 + (b.toNat : Int)), .int .i64 2, .int .i64 0]) (by simp [results, Tryz.results26, go_sem]) rfl ⟨rfl, below_drewN _ _⟩
    · have ha' : ((a.toNat : Int) == 255) = false := by
        have : a.toNat ≠ 255 := fun e => ha (UInt8.toNat_inj.1 e)
        simp; omega
      rw [if_neg (fun h => ha h.1)]
      go_enter Tryz.func26, Tryz.ntmps26
      go_wp2_with fail
      go_quiet (fail)
      go_wp2_with fail
      exact bodyPost_ret (v := .tuple #[.int .i64 ((a.toNat : Int) * 256 + (b.toNat : Int)), .int .i64 2, .int .i64 0]) (by simp [results, Tryz.results26, go_sem]) rfl ⟨rfl, below_drewN _ _⟩
end Go.Proofs.YtmikgpmnffdnnaaGreatDoor
