/- The contract of the document's Authority. -/
import Derived.Test.YtjnkpfjkmgcmlaaUrB
import Derived.Test.YtjnkpfjkmgcmlaaLowR
import Derived.Test.YtjnkpfjkmgcmlaaUaT
namespace Go.Proofs.Ytjnkpfjkmgcmlaa
open Go.RowKit
theorem colon_no (s : ByteArray) (h : s.data.toList.all noCol = true) : colonAt s.data.toList = -1 ∧ hostT s = s ∧ digsT s = ⟨#[]⟩ := by
  have hw := while_all noCol _ h
  refine ⟨by unfold colonAt; rw [if_pos h], ?_, ?_⟩
  · unfold hostT hostOf; rw [hw.1, ba_eta]
  · unfold digsT digsOf; rw [hw.2]; rfl
theorem colon_yes (s : ByteArray) (h : ¬ s.data.toList.all noCol = true) : ∃ k : Nat, k < s.size ∧ colonAt s.data.toList = k ∧ s.extract 0 k = hostT s ∧ s.extract (k + 1) s.size = digsT s := by
  have hl := while_len noCol _ h
  refine ⟨(s.data.toList.takeWhile noCol).length, by rw [← len_list]; exact hl, by unfold colonAt; rw [if_neg h], ba_ext ?_, ba_ext ?_⟩
  · rw [hostT_list, Lib.extract_from_zero, while_take]; rfl
  · rw [digsT_list]
    have : (s.extract ((s.data.toList.takeWhile noCol).length + 1) s.size).data.toList = s.data.toList.drop ((s.data.toList.takeWhile noCol).length + 1) := by
      simp [ByteArray.data_extract, List.extract_eq_take_drop]
      exact List.take_of_length_le (by simp)
    rw [this, while_drop]; rfl
set_option maxHeartbeats 1000000 in
theorem authRef (s : ByteArray) (w : World) (hs : s.size ≤ 140737488351232) :
    Calls Try.prog 5 #[.string s] w fun e w' => e = .returned (ansV (authP s.data.toList)) ∧ Below w.heap.size w w' := by
  have S1 := hide (tri_new w)
  have B1 := hide (alloc_below w (.cells #[.string ⟨#[]⟩, .int .i64 0, .string ⟨#[]⟩] 23))
  by_cases hl : 4096 < s.size
  · have R : Hid (authP s.data.toList = (Tgt.none, 101)) := auth_long s hl
    have hl' : (4096 : Int) < s.size := by omega
    clear hl
    go_enter Try.func5, Try.ntmps5
    go_wp2_with fail
    exact bodyPost_ret (v := ansV (Tgt.none, 101)) (by simp [results, Try.results5, go_sem, ansV, tgV, Tgt.none]) rfl ⟨by rw [R.out], B1.out⟩
  · have hl' : (s.size : Int) ≤ 4096 := by omega
    have z1 := hostT_size s
    have z2 := digsT_size s
    have c1 := colonRef s (by omega)
    have c2 := hostRef (hostT s) (by omega)
    have c3 := portRef (digsT s) (by omega)
    have c4 := hide (fun w => lowerRef (hostT s) w (by omega))
    cases hh : isHost (hostT s).data.toList with
    | false =>
      have R : Hid (authP s.data.toList = (Tgt.none, 32)) := auth_host s hl hh
      simp only [hh] at c2
      replace c2 := hide c2
      clear c3 c4 hh hl z1 z2
      by_cases hc : s.data.toList.all noCol = true
      · obtain ⟨e1, e2, e3⟩ := colon_no s hc
        simp only [e1] at c1
        rw [e2] at c2
        replace c1 := hide c1
        clear e1 e2 e3 hc
        go_enter Try.func5, Try.ntmps5
        go_wp2_with fail
        refine (c1.out _).mono ?_
        rintro e w2 ⟨rfl, rfl⟩
        go_wp2_with fail
        refine (c2.out _).mono ?_
        rintro e w2 ⟨rfl, rfl⟩
        go_wp2_with fail
        exact bodyPost_ret (v := ansV (Tgt.none, 32)) (by simp [results, Try.results5, go_sem, ansV, tgV, Tgt.none]) rfl ⟨by rw [R.out], B1.out⟩
      · obtain ⟨k, hk, e1, e2, e3⟩ := colon_yes s hc
        simp only [e1] at c1
        rw [← e2] at c2
        replace c1 := hide c1
        have hk0 : (0 : Int) ≤ k := by omega
        clear e1 e2 e3 hc
        go_enter Try.func5, Try.ntmps5
        go_wp2_with fail
        refine (c1.out _).mono ?_
        rintro e w2 ⟨rfl, rfl⟩
        go_wp2_with fail
        refine (c2.out _).mono ?_
        rintro e w2 ⟨rfl, rfl⟩
        go_wp2_with fail
        exact bodyPost_ret (v := ansV (Tgt.none, 32)) (by simp [results, Try.results5, go_sem, ansV, tgV, Tgt.none]) rfl ⟨by rw [R.out], B1.out⟩
    | true =>
      simp only [hh] at c2
      replace c2 := hide c2
      by_cases hc : s.data.toList.all noCol = true
      · obtain ⟨e1, e2, e3⟩ := colon_no s hc
        have R : Hid (authP s.data.toList = (Tgt.none, 33)) := auth_port s hl hh (by rw [e3]; rfl)
        simp only [e1] at c1
        rw [e2] at c2
        replace c1 := hide c1
        clear e1 e2 e3 hc hh z1 z2 c3 c4
        go_enter Try.func5, Try.ntmps5
        go_wp2_with fail
        refine (c1.out _).mono ?_
        rintro e w2 ⟨rfl, rfl⟩
        go_wp2_with fail
        refine (c2.out _).mono ?_
        rintro e w2 ⟨rfl, rfl⟩
        go_wp2_with fail
        exact bodyPost_ret (v := ansV (Tgt.none, 33)) (by simp [results, Try.results5, go_sem, ansV, tgV, Tgt.none]) rfl ⟨by rw [R.out], B1.out⟩
      · obtain ⟨k, hk, e1, e2, e3⟩ := colon_yes s hc
        have hk0 : (0 : Int) ≤ k := by omega
        by_cases hp : portOf (digsT s).data.toList = 0
        · have R : Hid (authP s.data.toList = (Tgt.none, 33)) := auth_port s hl hh hp
          simp only [e1] at c1
          simp only [hp] at c3
          rw [← e2] at c2
          rw [← e3] at c3
          replace c1 := hide c1
          replace c3 := hide c3
          clear e1 e2 e3 hc hh z1 z2 c4 hp
          go_enter Try.func5, Try.ntmps5
          go_wp2_with fail
          refine (c1.out _).mono ?_
          rintro e w2 ⟨rfl, rfl⟩
          go_wp2_with fail
          refine (c2.out _).mono ?_
          rintro e w2 ⟨rfl, rfl⟩
          go_wp2_with fail
          refine (c3.out _).mono ?_
          rintro e w2 ⟨rfl, rfl⟩
          go_wp2_with fail
          exact bodyPost_ret (v := ansV (Tgt.none, 33)) (by simp [results, Try.results5, go_sem, ansV, tgV, Tgt.none]) rfl ⟨by rw [R.out], B1.out⟩
        · have R : Hid (authP s.data.toList = (⟨lows (hostT s).data.toList, portOf (digsT s).data.toList, []⟩, 0)) := auth_ok s hl hh _ rfl hp
          generalize portOf (digsT s).data.toList = p at hp c3 R
          have q1 : (p == 0) = false := by simpa using hp
          simp only [e1] at c1
          rw [← e2] at c2 c4
          rw [← e3] at c3
          replace c1 := hide c1
          replace c3 := hide c3
          rw [show lows (s.extract 0 k).data.toList = lows (hostT s).data.toList by rw [e2]] at c4
          generalize lows (hostT s).data.toList = lx at c4 R
          clear e1 e2 e3 hc hh z1 z2 hp
          go_enter Try.func5, Try.ntmps5
          go_wp2_with fail
          refine (c1.out _).mono ?_
          rintro e w2 ⟨rfl, rfl⟩
          go_wp2_with fail
          refine (c2.out _).mono ?_
          rintro e w2 ⟨rfl, rfl⟩
          go_wp2_with fail
          refine (c3.out _).mono ?_
          rintro e w2 ⟨rfl, rfl⟩
          go_wp2_with fail
          refine (c4.out _).mono ?_
          rintro e w3 ⟨rfl, b3⟩
          have B3 : Hid (Below w.heap.size w w3) := B1.out.trans (b3.mono B1.out.size)
          have S3 := hide (tri_below S1.out b3)
          clear b3
          obtain ⟨⟨x0, h0⟩, ⟨x1, h1⟩, ⟨x2, h2⟩, f0, f1, f2, hz⟩ := S3.out
          go_wp2_with fail
          obtain ⟨q0, q1, q2⟩ := tri_store S3.out (.string ⟨lx.toArray⟩) (.int .i64 p) (.string ⟨#[]⟩)
          have qb := put3_below B3.out (Nat.le_refl _) (.string ⟨lx.toArray⟩) (.int .i64 p) (.string ⟨#[]⟩)
          unfold put3 at q0 q1 q2 qb
          exact bodyPost_ret (v := .tuple #[.agg #[(.string ⟨lx.toArray⟩), (.int .i64 p), (.string ⟨#[]⟩)], .int .i64 0]) (by simp [results, Try.results5, go_sem, q0, q1, q2]) rfl ⟨by rw [R.out]; rfl, qb⟩
end Go.Proofs.Ytjnkpfjkmgcmlaa
