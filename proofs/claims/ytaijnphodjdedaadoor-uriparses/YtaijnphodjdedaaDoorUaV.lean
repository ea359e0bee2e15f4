/- The contract of alive. -/
import Derived.Test.YtaijnphodjdedaaDoorUaQ
namespace Go.Proofs.YtaijnphodjdedaaDoor
open Go.RowKit
def aliveIn : List UInt8 := [72, 84, 84, 80, 58, 47, 47, 69, 120, 46, 99, 111, 109, 58, 48, 56, 48, 47, 37, 55, 101, 117, 115, 101, 114, 47, 97, 47, 46, 46, 47, 98, 63, 113, 61, 37, 50, 102]
theorem alive_plain : parseP aliveIn = (⟨[101, 120, 46, 99, 111, 109], 80, [47, 126, 117, 115, 101, 114, 47, 98, 63, 113, 61, 37, 50, 70]⟩, 0) := by kernel_rfl
set_option maxHeartbeats 1000000 in
theorem aliveCode (w : World) (M : MaxV w) :
    Calls Tryd.prog 5 #[] w fun e w' => e = .returned (.bool true) ∧ Below w.heap.size w w' := by
  have c := parseCode ⟨#[72, 84, 84, 80, 58, 47, 47, 69, 120, 46, 99, 111, 109, 58, 48, 56, 48, 47, 37, 55, 101, 117, 115, 101, 114, 47, 97, 47, 46, 46, 47, 98, 63, 113, 61, 37, 50, 102]⟩ w (by decide) M
  rw [show (⟨#[72, 84, 84, 80, 58, 47, 47, 69, 120, 46, 99, 111, 109, 58, 48, 56, 48, 47, 37, 55, 101, 117, 115, 101, 114, 47, 97, 47, 46, 46, 47, 98, 63, 113, 61, 37, 50, 102]⟩ : ByteArray).data.toList = aliveIn from rfl, alive_plain,
    show ansV (⟨[101, 120, 46, 99, 111, 109], 80, [47, 126, 117, 115, 101, 114, 47, 98, 63, 113, 61, 37, 50, 70]⟩, 0) = .tuple #[.agg #[.string ⟨#[101, 120, 46, 99, 111, 109]⟩, .int .i64 80, .string ⟨#[47, 126, 117, 115, 101, 114, 47, 98, 63, 113, 61, 37, 50, 70]⟩], .int .i64 0] from rfl] at c
  replace c := hide c
  clear M
  go_enter Tryd.func5, Tryd.ntmps5
  go_wp2_with fail
  refine c.out.mono ?_
  rintro e w1 ⟨rfl, b1⟩
  replace b1 := hide b1
  go_wp2_with fail
  go_ret
  exact ⟨rfl, b1.out.alloc b1.out.size _⟩
theorem lit_cells (w : World) (a c : ByteArray) (p : Int) : (w.alloc (.cells #[.string a, .int .i64 p, .string c] 24)).cell? ⟨w.heap.size, 0, none⟩ = some (.string a) ∧ (w.alloc (.cells #[.string a, .int .i64 p, .string c] 24)).cell? ⟨w.heap.size, 1, none⟩ = some (.int .i64 p) ∧ (w.alloc (.cells #[.string a, .int .i64 p, .string c] 24)).cell? ⟨w.heap.size, 2, none⟩ = some (.string c) :=
  ⟨by simp, by simp, by simp⟩
end Go.Proofs.YtaijnphodjdedaaDoor
