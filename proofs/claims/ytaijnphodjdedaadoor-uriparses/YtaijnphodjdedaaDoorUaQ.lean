/- The contract of Parse. -/
import Derived.Test.YtaijnphodjdedaaDoorUaP
namespace Go.Proofs.YtaijnphodjdedaaDoor
open Go.RowKit
set_option maxRecDepth 20000 in
set_option maxHeartbeats 1000000 in
theorem parseCode (s : ByteArray) (w : World) (hs : s.size ≤ 140737488351232) (M : MaxV w) :
    Calls Tryd.prog 6 #[.string s] w fun e w' => e = .returned (ansV (parseP s.data.toList)) ∧ Below w.heap.size w w' := by
  have B0 := hide (alloc_below w (.cells #[.string ⟨#[]⟩, .int .i64 0, .string ⟨#[]⟩] 24))
  by_cases hl : 4096 < s.size
  · have R : Hid (parseP s.data.toList = (Tgt.none, 101)) := parse_long s hl
    have hl' : (4096 : Int) < s.size := by omega
    clear M hl
    go_enter Tryd.func6, Tryd.ntmps6
    go_wp2_with fail
    exact bodyPost_ret (v := ansV (Tgt.none, 101)) (by simp [results, Tryd.results6, go_sem, ansV, tgV, Tgt.none]) rfl ⟨by rw [R.out], B0.out⟩
  · have hl' : (s.size : Int) ≤ 4096 := by omega
    have c1 := addressCode s (by omega)
    cases ha : allAddr s.data.toList with
    | false =>
      have R : Hid (parseP s.data.toList = (Tgt.none, 30)) := parse_bytes s hl ha
      rw [ha] at c1
      replace c1 := hide c1
      clear M hl ha
      go_enter Tryd.func6, Tryd.ntmps6
      go_wp2_with fail
      refine (c1.out _).mono ?_
      rintro e w9 ⟨rfl, rfl⟩
      go_wp2_with fail
      exact bodyPost_ret (v := ansV (Tgt.none, 30)) (by simp [results, Tryd.results6, go_sem, ansV, tgV, Tgt.none]) rfl ⟨by rw [R.out], B0.out⟩
    | true =>
      by_cases h7 : s.size < 7
      · have R : Hid (parseP s.data.toList = (Tgt.none, 31)) := parse_scheme s hl ha (short_scheme _ (by rw [len_list]; exact h7))
        have h7' : (s.size : Int) < 7 := by omega
        rw [ha] at c1
        replace c1 := hide c1
        clear M hl ha
        go_enter Tryd.func6, Tryd.ntmps6
        go_wp2_with fail
        refine (c1.out _).mono ?_
        rintro e w9 ⟨rfl, rfl⟩
        go_wp2_with fail
        exact bodyPost_ret (v := ansV (Tgt.none, 31)) (by simp [results, Tryd.results6, go_sem, ansV, tgV, Tgt.none]) rfl ⟨by rw [R.out], B0.out⟩
      · by_cases hm : lows (s.data.toList.take 7) = http
        · exact parseTail s w hl M ha (by omega) hm
        · have R : Hid (parseP s.data.toList = (Tgt.none, 31)) := parse_scheme s hl ha hm
          have h7' : (7 : Int) ≤ s.size := by omega
          rw [ha] at c1
          replace c1 := hide c1
          have zt : (s.extract 0 7).size = 7 := by rw [size_list, ext_to, List.length_take, len_list]; omega
          have c2 := fun w => foldTok (s.extract 0 7) w (by omega)
          rw [ext_to] at c2
          have hne : ¬ (⟨(lows (s.data.toList.take 7)).toArray⟩ : ByteArray) = ⟨http.toArray⟩ := by
            intro e
            apply hm
            have := congrArg (fun b : ByteArray => b.data.toList) e
            simpa using this
          have q1 := ne_lit hne
          have q2 := ne_list hne
          rw [show http = [104, 116, 116, 112, 58, 47, 47] from rfl] at q1
          rw [show (⟨http.toArray⟩ : ByteArray) = ⟨#[104, 116, 116, 112, 58, 47, 47]⟩ from rfl] at q2
          generalize (⟨(lows (s.data.toList.take 7)).toArray⟩ : ByteArray) = y at c2 q1 q2
          replace c2 := hide c2
          have S0 := hide (tri_new w)
          clear M hl ha hm hne zt
          go_enter Tryd.func6, Tryd.ntmps6
          go_wp2_with fail
          refine (c1.out _).mono ?_
          rintro e w9 ⟨rfl, rfl⟩
          go_wp2_with fail
          refine (c2.out _).mono ?_
          rintro e w1 ⟨rfl, b1⟩
          have B1 : Hid (Below w.heap.size w w1) := B0.out.trans (b1.mono B0.out.size)
          have S1 := hide (tri_below S0.out b1)
          clear b1
          obtain ⟨⟨x0, h0⟩, ⟨x1, h1⟩, ⟨x2, h2⟩, f0, f1, f2, hz⟩ := S1.out
          go_wp2_with fail
          obtain ⟨q0, q1, q2⟩ := tri_store S1.out (.string ⟨#[]⟩) (.int .i64 0) (.string ⟨#[]⟩)
          have qb := put3_below B1.out (Nat.le_refl _) (.string ⟨#[]⟩) (.int .i64 0) (.string ⟨#[]⟩)
          unfold put3 at q0 q1 q2 qb
          exact bodyPost_ret (v := .tuple #[.agg #[(.string ⟨#[]⟩), (.int .i64 0), (.string ⟨#[]⟩)], .int .i64 31]) (by simp [results, Tryd.results6, go_sem, q0, q1, q2]) rfl ⟨by rw [R.out]; rfl, qb⟩
end Go.Proofs.YtaijnphodjdedaaDoor
