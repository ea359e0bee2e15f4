/- What the document's Parse answers to any text, and the walk of the law DateParses. The contracts of the document's cut, second, has, date, among. Each text says a second or none. -/
import Derived.Test.YtlhhcpbfjjhbfaaDoorDaZ
import Derived.Test.YtlhhcpbfjjhbfaaDoorDaY29
import Derived.Test.YtlhhcpbfjjhbfaaDoorDaY24
import Derived.Test.YtlhhcpbfjjhbfaaDoorDaY30
import Derived.Test.YtlhhcpbfjjhbfaaDoorDaY31
import Derived.Test.YtlhhcpbfjjhbfaaDoorDaY32
import Derived.Test.YtlhhcpbfjjhbfaaDoorDaY33
import Derived.Test.YtlhhcpbfjjhbfaaDoorFhB
import Derived.Test.YtlhhcpbfjjhbfaaDoorKnJ
namespace Go.Proofs.YtlhhcpbfjjhbfaaDoor
open Go.RowKit
theorem show_explicit (n r y d : Int) {m : Int} (m0 : 1 ≤ m) (m1 : m ≤ 12) : ∃ a b c e f g, (wkL n).take 3 = [a, b, c] ∧ moL m = [e, f, g] ∧
    showL n r y m d = [a, b, c, 44, 32, dg (d / 10), dg (d % 10), 32, e, f, g, 32, dg (y / 1000), dg (y / 100 % 10), dg (y / 10 % 10), dg (y % 10), 32, dg (r / 3600 / 10), dg (r / 3600 % 10), 58, dg (r / 60 % 60 / 10), dg (r / 60 % 60 % 10), 58, dg (r % 60 / 10), dg (r % 60 % 10), 32, 71, 77, 84] := by
  obtain ⟨a, b, c, e1⟩ := three (take3 n)
  obtain ⟨e, f, g, e2⟩ := three (moL_len m0 m1)
  refine ⟨a, b, c, e, f, g, e1, e2, ?_⟩
  unfold showL
  rw [e1, e2]
  rfl
end Go.Proofs.YtlhhcpbfjjhbfaaDoor
namespace Go.Proofs.YtlhhcpbfjjhbfaaDoor.dateParses
open Go.RowKit
end Go.Proofs.YtlhhcpbfjjhbfaaDoor.dateParses
namespace Go.Proofs.YtlhhcpbfjjhbfaaDoor
open Go.RowKit
theorem hasRC (v : Value) (fs : FL) (nm : List UInt8) (w : World) (hv : HoldsF w v fs) (hb : bulkF fs ≤ 1048576) (hn : nm.length ≤ 1048576) :
    Calls Tryd.prog 27 #[v, .string ⟨nm.toArray⟩] w fun e w' => e = .returned (.bool (hasN fs nm)) ∧ Below w.heap.size w w' := by
  have cG := hide' (getRef v fs nm w hv hb hn)
  obtain ⟨ao, ca, _, _, rfl, _⟩ := holdsF_parts hv
  clear hv
  unfold hasN
  generalize decide (0 < (valsOf fs nm).length) = pb at cG ⊢
  generalize joinOf (valsOf fs nm) = jl at cG
  go_enter Tryd.func27, Tryd.ntmps27
  go_wp2_with fail
  refine cG.out.mono ?_
  rintro e w1 ⟨rfl, b1⟩
  have B1 := hide' b1
  clear b1 cG
  go_wp2_with fail
  go_ret
  exact ⟨rfl, B1.out⟩
def dabR : List UInt8 := [100, 97, 116, 101]
def exbR : List UInt8 := [101, 120, 112, 105, 114, 101, 115]
def lmbR : List UInt8 := [108, 97, 115, 116, 45, 109, 111, 100, 105, 102, 105, 101, 100]
def agbR : List UInt8 := [97, 103, 101]
theorem vals_dab (fs : FL) : valsOf fs dabR = valsOf fs dab := by unfold valsOf; rw [show lows dabR = lows dab by decide]
theorem vals_exb (fs : FL) : valsOf fs exbR = valsOf fs exb := by unfold valsOf; rw [show lows exbR = lows exb by decide]
theorem vals_lmb (fs : FL) : valsOf fs lmbR = valsOf fs lmb := by unfold valsOf; rw [show lows lmbR = lows lmb by decide]
theorem vals_agb (fs : FL) : valsOf fs agbR = valsOf fs agb := by unfold valsOf; rw [show lows agbR = lows agb by decide]
theorem amongRC (s : Int) (l : List Int) (b n : Nat) (w : World) (hn : n = l.length) (hl : n ≤ 1000) (hc : ∀ j (h : j < l.length), w.cell? ⟨b, j, none⟩ = some (.int .i64 l[j])) :
    Calls Tryd.prog 28 #[.int .i64 s, .slice (some ⟨b, 0, none⟩) n n] w fun e w' => e = .returned (.bool (decide (s ∈ l))) ∧ w' = w := by
  have HC := hide' hc
  have HN := hide' hn
  clear hc hn
  obtain ⟨r, er⟩ : ∃ r, r = decide (s ∈ l) := ⟨_, rfl⟩
  have ER := hide' er
  rw [← er]
  clear er
  go_enter Tryd.func28, Tryd.ntmps28
  go_wp2_with fail
  go_loop [5] (fun i => ∃ k : Nat, k ≤ n ∧ i = .int .i64 k ∧ Hid (∀ j (hj : j < l.length), j < k → ¬ l[j] = s)) (fun i => n - (intOf i).toNat)
  case atStart => exact ⟨0, Nat.zero_le _, rfl, fun j h hj => absurd hj (by omega)⟩
  case round =>
    obtain ⟨k, hk, rfl, A⟩ := hrel
    by_cases hlt : k < n
    · have hk' : k < l.length := by rw [← HN.out]; exact hlt
      have hcell := HC.out k hk'
      obtain ⟨x, ex⟩ : ∃ x, x = l[k] := ⟨_, rfl⟩
      have EX := hide' ex
      rw [← ex] at hcell
      clear ex
      by_cases he : x = s
      · have e : Hid (r = true) := by
          unfold Hid
          rw [ER.out]
          exact decide_eq_true (by rw [← he, EX.out]; exact List.getElem_mem _)
        subst he
        go_wp2_with fail
        go_ret
        exact ⟨by rw [e.out]; try rfl, rfl⟩
      · have A2 : Hid (∀ j (hj : j < l.length), j < k + 1 → ¬ l[j] = s) := by
          intro j h hj
          by_cases hjk : j = k
          · subst hjk; rw [← EX.out]; exact he
          · exact A.out j h (by omega)
        clear A EX
        go_wp2_with fail
        go_round
        case rel => exact ⟨k + 1, by omega, by go_num, A2⟩
        case measure => simp [intOf]; omega
    · have e : Hid (r = false) := by
        unfold Hid
        rw [ER.out]
        refine decide_eq_false fun hm => ?_
        obtain ⟨j, hj, ej⟩ := List.getElem_of_mem hm
        exact A.out j hj (by have := HN.out; omega) ej
      go_wp2_with fail
      go_ret
      exact ⟨by rw [e.out]; try rfl, rfl⟩
end Go.Proofs.YtlhhcpbfjjhbfaaDoor
namespace Go.Proofs.YtlhhcpbfjjhbfaaDoor
open Go.RowKit
theorem dt_ex (l : List UInt8) (h : l.length < 4294967281) : ∃ d, DtP l d := by
  by_cases hf : ∃ t, IsForm l t
  · obtain ⟨t, hf⟩ := hf
    exact ⟨t, by have := hf.1; omega, hf.2.1, t, 0, .inr ⟨hf.1, rfl, rfl⟩, parse_of_form ⟨l.toArray⟩ t hf⟩
  · refine ⟨-1, by omega, by omega, 0, 20, .inl ⟨by omega, rfl, rfl⟩, ?_⟩
    rcases parse_any ⟨l.toArray⟩ (by show l.toArray.size < 4294967281; rw [List.size_toArray]; exact h) with c | ⟨t, ht, _⟩
    · exact c
    · exact absurd ⟨t, ht⟩ hf
end Go.Proofs.YtlhhcpbfjjhbfaaDoor
