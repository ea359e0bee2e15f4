/- The contract of the document's Show, and the walk of the law DateShows. -/
import Derived.Test.YtlhhcpbfjjhbfabDoorDaF
namespace Go.Proofs.YtlhhcpbfjjhbfabDoor
open Go.RowKit
theorem idx3 (a b c : ByteArray) (w : World) : Sem.run Tryd.prog (Instr.index 67 (.agg #[.string a, .string b, .string c]) (.int .i64 0)) w = .ok (.string a) w := by
  simp [Instr.index, run_underlying Tryd.underlying67, asIntOf, go_sem]
set_option maxHeartbeats 1000000 in
theorem showRef (t y m d : Int) (t0 : 0 ≤ t) (t1 : t ≤ 253402300799) (hv : Valid y m d) (hd : dayOf y m d = t / 86400) (w : World) :
    Calls Tryd.prog 14 #[.int .i64 t] w fun e w' => e = .returned (.tuple #[.string ⟨(showL (t / 86400) (t % 86400) y m d).toArray⟩, .int .i64 0]) ∧ Below w.heap.size w w' := by
  have c := hide (formsRef t y m d t0 t1 hv hd w)
  generalize (showL (t / 86400) (t % 86400) y m d).toArray = A at c ⊢
  generalize (dash2L (t / 86400) (t % 86400) y m d).toArray = B at c
  generalize (blankL (t / 86400) (t % 86400) y m d).toArray = C at c
  clear hv hd
  have hI := idx3 ⟨A⟩ ⟨B⟩ ⟨C⟩
  go_enter Tryd.func14, Tryd.ntmps14
  go_wp2_with fail
  refine c.out.mono ?_
  rintro e w1 ⟨rfl, b1⟩
  replace b1 := hide b1
  go_wp2_with fail
  go_ret2
  exact ⟨rfl, b1.out⟩
set_option maxHeartbeats 1000000 in
theorem showRef_no (t : Int) (h : t < 0 ∨ 253402300799 < t) (w : World) :
    Calls Tryd.prog 14 #[.int .i64 t] w fun e w' => e = .returned (.tuple #[.string ⟨#[]⟩, .int .i64 20]) ∧ w' = w := by
  rcases h with h | h
  · go_enter Tryd.func14, Tryd.ntmps14
    go_wp2_with fail
    go_ret2
    exact ⟨rfl, rfl⟩
  · have h0 : 0 ≤ t := by omega
    go_enter Tryd.func14, Tryd.ntmps14
    go_wp2_with fail
    go_ret2
    exact ⟨rfl, rfl⟩
end Go.Proofs.YtlhhcpbfjjhbfabDoor
namespace Go.Proofs.YtlhhcpbfjjhbfabDoor.dateShows
open Go.RowKit
end Go.Proofs.YtlhhcpbfjjhbfabDoor.dateShows
