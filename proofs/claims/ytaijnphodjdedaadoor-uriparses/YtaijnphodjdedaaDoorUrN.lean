/- The contract of the document's Parse. -/
import Derived.Test.YtaijnphodjdedaaDoorUrJ1
import Derived.Test.YtaijnphodjdedaaDoorUrJ2e
import Derived.Test.YtaijnphodjdedaaDoorUrJ2n
import Derived.Test.YtaijnphodjdedaaDoorUrJ3
import Derived.Test.YtaijnphodjdedaaDoorUrJ4e
import Derived.Test.YtaijnphodjdedaaDoorUrJ4n
import Derived.Test.YtaijnphodjdedaaDoorUrJ5
import Derived.Test.YtaijnphodjdedaaDoorUrJ6e
import Derived.Test.YtaijnphodjdedaaDoorUrJ6n
namespace Go.Proofs.YtaijnphodjdedaaDoor
open Go.RowKit
theorem parseRef (s : ByteArray) (w : World) (hs : s.size ≤ 140737488351232) :
    Calls Tryd.prog 7 #[.string s] w fun e w' => e = .returned (ansV (parseP s.data.toList)) ∧ Below w.heap.size w w' := by
  by_cases hlt : endK s < s.size
  · rcases end_cases s[endK s] with ⟨t0, _, _⟩ | ⟨_, t1⟩ | ⟨_, t1, t2⟩
    · exfalso
      have hn : (auT (s.extract 7 s.size)).size = ((s.data.toList.drop 7).takeWhile noEnd).length := by rw [size_list, auT_list, ext_from]
      have h1 := while_drop noEnd (s.data.toList.drop 7) 0
      rw [List.drop_drop, List.drop_zero, Nat.add_zero, ← hn] at h1
      have h2 : s.data.toList.drop (endK s) = (s.data.toList.drop 7).dropWhile noEnd := h1
      rw [drop_cons s (endK s) hlt] at h2
      have h3 := drop_head noEnd (s.data.toList.drop 7) _ _ h2.symm
      rw [t0] at h3
      cases h3
    · cases hc : (auT (s.extract 7 s.size)).data.toList.all noCol with
      | true => exact parseRef_b_no s w hs ⟨hlt, t1⟩ hc
      | false => exact (by by_cases hg : (digsT (auT (s.extract 7 s.size))).size = 0; exact parseRef_b_e s w hs ⟨hlt, t1⟩ hc hg; exact parseRef_b_n s w hs ⟨hlt, t1⟩ hc hg)
    · cases hc : (auT (s.extract 7 s.size)).data.toList.all noCol with
      | true => exact parseRef_c_no s w hs ⟨hlt, t1, t2⟩ hc
      | false => exact (by by_cases hg : (digsT (auT (s.extract 7 s.size))).size = 0; exact parseRef_c_e s w hs ⟨hlt, t1, t2⟩ hc hg; exact parseRef_c_n s w hs ⟨hlt, t1, t2⟩ hc hg)
  · cases hc : (auT (s.extract 7 s.size)).data.toList.all noCol with
    | true => exact parseRef_a_no s w hs (show s.size ≤ endK s by omega) hc
    | false => exact (by by_cases hg : (digsT (auT (s.extract 7 s.size))).size = 0; exact parseRef_a_e s w hs (show s.size ≤ endK s by omega) hc hg; exact parseRef_a_n s w hs (show s.size ≤ endK s by omega) hc hg)
end Go.Proofs.YtaijnphodjdedaaDoor
