/- The contract of the document's Step, of every op. -/
import Derived.Test.YtijnjgnckipghaaGreatDrS1
import Derived.Test.YtijnjgnckipghaaGreatDrS2
import Derived.Test.YtijnjgnckipghaaGreatBdK
import Derived.Test.YtijnjgnckipghaaGreatBdJ
namespace Go.Proofs.YtijnjgnckipghaaGreat
open Go.RowKit
theorem stepRC {S : Nat → Prop} {w : World} (hS : ∀ k, S k → k < w.heap.size) {v : Value} {s : Dk} (h : RefS (mask S w) v s) (hw : Wf s) (hB : Bd 80000000 s) (a : Int) (ha : 1 ≤ a ∧ a ≤ 6) (nm to : ByteArray) (da : Option Addr) (dl dc : Nat) (d : List UInt8) (hd : HoldsB w (.slice da dl dc) d) (hs : nm.size ≤ 140737488351232) (ht : to.size ≤ 140737488351232) (hdl : d.length ≤ 1000000000) (hfl : s.fails.length ≤ 1000000000) :
    Calls Tryz.prog 29 #[v, .agg #[.int .i64 a, .string nm, .string to, .slice da dl dc]] w fun e w' => ∃ v', e = .returned (.tuple #[v', .int .i64 (s.step ⟨a, nm.data.toList, to.data.toList, d⟩).2]) ∧ RefS (mask S w') v' (s.step ⟨a, nm.data.toList, to.data.toList, d⟩).1 ∧ Below w.heap.size w w' := by
  obtain ⟨x0, x1, x2, x3, x4, x6, rfl, h⟩ := h
  have key : ∀ a, (Calls Tryz.prog 29 #[stV x0 x1 x2 x3 x4 x6 s.room s.power s.n, .agg #[.int .i64 a, .string nm, .string to, .slice da dl dc]] w fun e w' => StepR S s ⟨a, nm.data.toList, to.data.toList, d⟩ w e w') → Calls Tryz.prog 29 #[stV x0 x1 x2 x3 x4 x6 s.room s.power s.n, .agg #[.int .i64 a, .string nm, .string to, .slice da dl dc]] w fun e w' => ∃ v', e = .returned (.tuple #[v', .int .i64 (s.step ⟨a, nm.data.toList, to.data.toList, d⟩).2]) ∧ RefS (mask S w') v' (s.step ⟨a, nm.data.toList, to.data.toList, d⟩).1 ∧ Below w.heap.size w w' := by
    intro a hc
    refine hc.mono ?_
    rintro e w' ⟨z0, z1, z2, z3, z4, z6, rfl, hr, hb⟩
    exact ⟨_, rfl, ⟨z0, z1, z2, z3, z4, z6, rfl, hr⟩, hb⟩
  have hcase : a = 1 ∨ a = 2 ∨ a = 3 ∨ a = 4 ∨ a = 5 ∨ a = 6 := by omega
  rcases hcase with rfl | rfl | rfl | rfl | rfl | rfl
  · exact key 1 (step1RC hS h hw hB nm to da dl dc d hd hs ht hdl hfl)
  · exact key 2 (step2RC hS h hw hB nm to da dl dc d hd hs ht hdl hfl)
  · exact key 3 (step3RC hS h hw hB nm to da dl dc d hd hs ht hdl hfl)
  · exact key 4 (step4RC hS h hw hB nm to da dl dc d hd hs ht hdl hfl)
  · exact key 5 (step5RC hS h hw hB nm to da dl dc d hd hs ht hdl hfl)
  · exact key 6 (step6RC hS h hw hB nm to da dl dc d hd hs ht hdl hfl)
end Go.Proofs.YtijnjgnckipghaaGreat
