/- The walk of UriParses. -/
import Derived.Test.YtaijnphodjdedaaDoorUaV
import Derived.Test.YtaijnphodjdedaaDoorUrN
namespace Go.Proofs.YtaijnphodjdedaaDoor.uriParses
open Go.RowKit
set_option maxHeartbeats 2000000 in
theorem walk (s : ByteArray) (w : World) (hs : s.size ≤ 140737488351232) (hsh : w.ShapedOpen Tryd.prog) :
    Calls Tryd.prog 3 #[.string s] w fun e w' => e = .returned (.bool true) ∧ Below w.heap.size w w' := by
  have M := hide (maxV_of hsh)
  clear hsh
  have cl := hide (aliveCode w M.out)
  have c2 := fun w M => parseCode s w hs M
  have c3 := fun w => parseRef s w hs
  simp only [show ansV (parseP s.data.toList) = .tuple #[.agg #[.string ⟨(parseP s.data.toList).1.host.toArray⟩, .int .i64 (parseP s.data.toList).1.port, .string ⟨(parseP s.data.toList).1.path.toArray⟩], .int .i64 (parseP s.data.toList).2] from rfl] at c2 c3
  generalize (⟨(parseP s.data.toList).1.host.toArray⟩ : ByteArray) = h at c2 c3
  generalize (⟨(parseP s.data.toList).1.path.toArray⟩ : ByteArray) = q at c2 c3
  generalize (parseP s.data.toList).1.port = p at c2 c3
  generalize (parseP s.data.toList).2 = n at c2 c3
  replace c2 := hide c2
  replace c3 := hide c3
  go_enter Tryd.func3, Tryd.ntmps3
  go_wp2_with fail
  refine cl.out.mono ?_
  rintro e w1 ⟨rfl, b1⟩
  have M1 := hide (maxV_below M.out b1)
  have B1 := hide b1
  clear b1 cl M
  go_wp2_with fail
  refine (c2.out _ M1.out).mono ?_
  rintro e w2 ⟨rfl, b2⟩
  have B2 : Hid (Below w.heap.size w w2) := B1.out.trans (b2.mono B1.out.size)
  clear b2 c2 M1 B1
  go_wp2_with fail
  refine (c3.out _).mono ?_
  rintro e w3 ⟨rfl, b3⟩
  obtain ⟨d0, d1, d2⟩ := cells_below (lit_cells w2 h q p) (by simp) b3
  have B3 : Hid (Below w.heap.size w w3) := (B2.out.alloc B2.out.size _).trans (b3.mono (by have := B2.out.size; simp; omega))
  have L3 : w2.heap.size < w3.heap.size := by have := b3.size; simp at this; omega
  clear b3 c3 B2
  go_wp2_with fail
  go_ret
  exact ⟨rfl, B3.out.alloc B3.out.size _⟩
end Go.Proofs.YtaijnphodjdedaaDoor.uriParses
