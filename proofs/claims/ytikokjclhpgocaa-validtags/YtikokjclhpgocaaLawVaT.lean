/- The walk of ValidTags. -/
import Derived.Test.YtikokjclhpgocaaVaV
import Derived.Test.YtikokjclhpgocaaVaRt
namespace Go.Proofs.Ytikokjclhpgocaa
open Go.RowKit
set_option maxHeartbeats 4000000 in
set_option maxRecDepth 20000 in
theorem tagsWl (a b : List UInt8) (w : World) (ha : a.length ≤ 140737488351232) (hb : b.length ≤ 140737488351232) :
    Calls Try.prog 3 #[.string ⟨a.toArray⟩, .string ⟨b.toArray⟩] w fun e w' => e = .returned (.bool true) ∧ Below w.heap.size w w' := by
  have c0 := hide' (aliveVa w)
  have c1 := hide' (fun W => tagC a W ha)
  have c2 := hide' (fun W => tagRC a W ha)
  have s1 := hide' (fun W => sameC a b true W ha)
  have s2 := hide' (fun W => sameRC a b true W ha hb)
  have s3 := hide' (fun W => sameC a b false W ha)
  have s4 := hide' (fun W => sameRC a b false W ha hb)
  clear ha hb
  generalize tagS a = ta at c1 c2
  generalize tagK a = ka at c1 c2
  generalize tagB a = ba at c1 c2
  generalize sameG a b true = g1 at s1 s2
  generalize sameG a b false = g2 at s3 s4
  go_enter Try.func3, Try.ntmps3
  go_wp2_with fail
  refine c0.out.mono ?_
  rintro e w1 ⟨rfl, b1⟩
  have B1 := hide' b1
  clear c0 b1
  go_wp2_with fail
  refine (c1.out _).mono ?_
  rintro e w2 ⟨rfl, b2⟩
  have B2 := hide' (bt' B1.out b2)
  clear b2 B1 c1
  go_wp2_with fail
  refine (c2.out _).mono ?_
  rintro e w9 ⟨rfl, ew⟩
  rw [ew]
  clear ew w9
  go_wp2_with fail
  refine (s1.out _).mono ?_
  rintro e w9 ⟨rfl, ew⟩
  rw [ew]
  clear ew w9
  go_wp2_with fail
  refine (s2.out _).mono ?_
  rintro e w9 ⟨rfl, ew⟩
  rw [ew]
  clear ew w9
  go_wp2_with fail
  refine (s3.out _).mono ?_
  rintro e w9 ⟨rfl, ew⟩
  rw [ew]
  clear ew w9
  go_wp2_with fail
  refine (s4.out _).mono ?_
  rintro e w9 ⟨rfl, ew⟩
  rw [ew]
  clear ew w9
  go_wp2_with fail
  go_ret
  exact ⟨by simp, B2.out⟩
theorem tagsW (a b : ByteArray) (w : World) (ha : a.size ≤ 140737488351232) (hb : b.size ≤ 140737488351232) :
    Calls Try.prog 3 #[.string a, .string b] w fun e w' => e = .returned (.bool true) ∧ Below w.heap.size w w' := by
  have h := tagsWl a.data.toList b.data.toList w (by simpa using ha) (by simpa using hb)
  rw [ba_eta, ba_eta] at h
  exact h
end Go.Proofs.Ytikokjclhpgocaa
