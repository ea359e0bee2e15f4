/- The walk of the law DateRound. -/
import Derived.Test.YtpdmcgpppccefaaDoorDaR
namespace Go.Proofs.YtpdmcgpppccefaaDoor.dateRound
open Go.RowKit
theorem showL_len (n r y d : Int) {m : Int} (m0 : 1 ≤ m) (m1 : m ≤ 12) : (showL n r y m d).length = 29 := by
  have a := wkL_len n
  have b := moL_len m0 m1
  simp [showL, hmsL, D2, D4, b]
  omega
set_option maxHeartbeats 2000000 in
theorem walk (t : Int) (w : World) (V : Vars w) :
    Calls Tryd.prog 6 #[.int .i64 t] w fun e w' => e = .returned (.bool true) ∧ Below w.heap.size w w' := by
  have cA := hide (alive w V)
  by_cases ht : t < 0 ∨ 253402300799 < t
  · have c1 := hide (showCode_no t ht)
    clear V
    rcases ht with h | h
    · go_enter Tryd.func6, Tryd.ntmps6
      go_wp2_with fail
      refine cA.out.mono ?_
      rintro e w1 ⟨rfl, b1⟩
      replace b1 := hide b1
      go_wp2_with fail
      refine (c1.out _).mono ?_
      rintro e w2 ⟨rfl, rfl⟩
      go_wp2_with fail
      go_ret
      exact ⟨rfl, b1.out⟩
    · have h0 : 0 ≤ t := by omega
      go_enter Tryd.func6, Tryd.ntmps6
      go_wp2_with fail
      refine cA.out.mono ?_
      rintro e w1 ⟨rfl, b1⟩
      replace b1 := hide b1
      go_wp2_with fail
      refine (c1.out _).mono ?_
      rintro e w2 ⟨rfl, rfl⟩
      go_wp2_with fail
      go_ret
      exact ⟨rfl, b1.out⟩
  · have t0 : 0 ≤ t := by omega
    have t1 : t ≤ 253402300799 := by omega
    obtain ⟨y, m, d, hv, hd⟩ := dateOf (t := t) t0 t1
    have c1 := hide (fun W V => showCode t y m d t0 t1 hv hd W V)
    have c2 := hide (fun W V => parse_show t y m d hv hd W V)
    have c3 := hide (fun W V => civilCode y m d hv W V)
    have c4 := hide (fun W V => dayCode y m d hv W V)
    have l1 := showL_len (t / 86400) (t % 86400) y d hv.m0 hv.m1
    rw [hd] at c3 c4
    obtain ⟨a, ha⟩ : ∃ x : ByteArray, x = ⟨(showL (t / 86400) (t % 86400) y m d).toArray⟩ := ⟨_, rfl⟩
    have za : a.size = 29 := by rw [ha]; exact l1
    rw [← ha] at c1 c2
    clear l1 ha hv hd ht
    replace V := hide V
    go_enter Tryd.func6, Tryd.ntmps6
    go_wp2_with fail
    refine cA.out.mono ?_
    rintro e w1 ⟨rfl, b1⟩
    replace b1 := hide b1
    go_wp2_with fail
    refine (c1.out _ (V.out.below b1.out)).mono ?_
    rintro e w2 ⟨rfl, b2⟩
    have B2 : Hid (Below w.heap.size w w2) := b1.out.trans (b2.mono b1.out.size)
    clear b2
    go_wp2_with fail
    refine (c2.out _ (V.out.below B2.out)).mono ?_
    rintro e w3 ⟨rfl, b3⟩
    have B3 : Hid (Below w.heap.size w w3) := B2.out.trans (b3.mono B2.out.size)
    clear b3
    go_wp2_with fail
    refine (c3.out _ (V.out.below B3.out).len).mono ?_
    rintro e w4 ⟨rfl, rfl⟩
    go_wp2_with fail
    refine (c4.out _ (V.out.below B3.out).len).mono ?_
    rintro e w4 ⟨rfl, rfl⟩
    go_wp2_with fail
    go_ret
    exact ⟨rfl, B3.out⟩
end Go.Proofs.YtpdmcgpppccefaaDoor.dateRound
