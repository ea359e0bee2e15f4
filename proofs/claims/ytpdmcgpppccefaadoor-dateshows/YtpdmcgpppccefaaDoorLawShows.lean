/- The contract of the document's Show, and the walk of the law DateShows. -/
import Derived.Test.YtpdmcgpppccefaaDoorDaF
namespace Go.Proofs.YtpdmcgpppccefaaDoor
open Go.RowKit
theorem idx3 (a b c : ByteArray) (w : World) : Sem.run Tryd.prog (Instr.index 34 (.agg #[.string a, .string b, .string c]) (.int .i64 0)) w = .ok (.string a) w := by
  simp [Instr.index, run_underlying Tryd.underlying34, asIntOf, go_sem]
set_option maxHeartbeats 1000000 in
theorem showRef (t y m d : Int) (t0 : 0 ≤ t) (t1 : t ≤ 253402300799) (hv : Valid y m d) (hd : dayOf y m d = t / 86400) (w : World) :
    Calls Tryd.prog 11 #[.int .i64 t] w fun e w' => e = .returned (.tuple #[.string ⟨(showL (t / 86400) (t % 86400) y m d).toArray⟩, .int .i64 0]) ∧ Below w.heap.size w w' := by
  have c := hide (formsRef t y m d t0 t1 hv hd w)
  generalize (showL (t / 86400) (t % 86400) y m d).toArray = A at c ⊢
  generalize (dash2L (t / 86400) (t % 86400) y m d).toArray = B at c
  generalize (blankL (t / 86400) (t % 86400) y m d).toArray = C at c
  clear hv hd
  have hI := idx3 ⟨A⟩ ⟨B⟩ ⟨C⟩
  go_enter Tryd.func11, Tryd.ntmps11
  go_wp2_with fail
  refine c.out.mono ?_
  rintro e w1 ⟨rfl, b1⟩
  replace b1 := hide b1
  go_wp2_with fail
  go_ret2
  exact ⟨rfl, b1.out⟩
set_option maxHeartbeats 1000000 in
theorem showRef_no (t : Int) (h : t < 0 ∨ 253402300799 < t) (w : World) :
    Calls Tryd.prog 11 #[.int .i64 t] w fun e w' => e = .returned (.tuple #[.string ⟨#[]⟩, .int .i64 20]) ∧ w' = w := by
  rcases h with h | h
  · go_enter Tryd.func11, Tryd.ntmps11
    go_wp2_with fail
    go_ret2
    exact ⟨rfl, rfl⟩
  · have h0 : 0 ≤ t := by omega
    go_enter Tryd.func11, Tryd.ntmps11
    go_wp2_with fail
    go_ret2
    exact ⟨rfl, rfl⟩
/-- what Show answers -/
theorem show_both (t : Int) : ∃ (s : ByteArray) (e : Int), (∀ w, Vars w → Calls Tryd.prog 10 #[.int .i64 t] w fun x w' => x = .returned (.tuple #[.string s, .int .i64 e]) ∧ Below w.heap.size w w') ∧
    (∀ w, Calls Tryd.prog 11 #[.int .i64 t] w fun x w' => x = .returned (.tuple #[.string s, .int .i64 e]) ∧ Below w.heap.size w w') := by
  by_cases h : t < 0 ∨ 253402300799 < t
  · refine ⟨⟨#[]⟩, 20, fun w _ => ?_, fun w => ?_⟩
    · refine (showCode_no t h w).mono ?_
      rintro x w' ⟨rfl, rfl⟩
      exact ⟨rfl, Below.refl _ _⟩
    · refine (showRef_no t h w).mono ?_
      rintro x w' ⟨rfl, rfl⟩
      exact ⟨rfl, Below.refl _ _⟩
  · obtain ⟨y, m, d, hv, hd⟩ := dateOf (t := t) (by omega) (by omega)
    exact ⟨_, _, fun w V => showCode t y m d (by omega) (by omega) hv hd w V, fun w => showRef t y m d (by omega) (by omega) hv hd w⟩
end Go.Proofs.YtpdmcgpppccefaaDoor
namespace Go.Proofs.YtpdmcgpppccefaaDoor.dateShows
open Go.RowKit
set_option maxHeartbeats 1000000 in
theorem walk (t : Int) (w : World) (V : Vars w) :
    Calls Tryd.prog 3 #[.int .i64 t] w fun e w' => e = .returned (.bool true) ∧ Below w.heap.size w w' := by
  have cA := hide (alive w V)
  obtain ⟨s, e, c1, c2⟩ := show_both t
  replace c1 := hide c1
  replace c2 := hide c2
  replace V := hide V
  go_enter Tryd.func3, Tryd.ntmps3
  go_wp2_with fail
  refine cA.out.mono ?_
  rintro x w1 ⟨rfl, b1⟩
  replace b1 := hide b1
  go_wp2_with fail
  refine (c1.out _ (V.out.below b1.out)).mono ?_
  rintro x w2 ⟨rfl, b2⟩
  have B2 : Hid (Below w.heap.size w w2) := b1.out.trans (b2.mono b1.out.size)
  clear b2
  go_wp2_with fail
  refine (c2.out _).mono ?_
  rintro x w3 ⟨rfl, b3⟩
  have B3 : Hid (Below w.heap.size w w3) := B2.out.trans (b3.mono B2.out.size)
  clear b3
  go_wp2_with fail
  go_ret
  exact ⟨rfl, B3.out⟩
end Go.Proofs.YtpdmcgpppccefaaDoor.dateShows
