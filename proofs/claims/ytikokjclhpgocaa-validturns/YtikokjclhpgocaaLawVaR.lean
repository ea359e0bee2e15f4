/- The walk of ValidTurns. -/
import Derived.Test.YtikokjclhpgocaaVaV
namespace Go.Proofs.Ytikokjclhpgocaa
open Go.RowKit
set_option maxHeartbeats 4000000 in
set_option maxRecDepth 20000 in
theorem turnsWl (a b : List UInt8) (w : World) (ha : a.length ≤ 140737488351232) (hb : b.length ≤ 140737488351232) :
    Calls Try.prog 5 #[.string ⟨a.toArray⟩, .string ⟨b.toArray⟩] w fun e w' => e = .returned (.bool true) ∧ Below w.heap.size w w' := by
  have c0 := hide' (aliveVa w)
  have c1 := hide' (fun W => tagC a W ha)
  have s1 := hide' (fun W => sameC a b true W ha)
  have s2 := fun W => sameC b a true W hb
  have s3 := hide' (fun W => sameC a b false W ha)
  have s4 := fun W => sameC b a false W hb
  have s5 := fun W => sameC a a false W ha
  have s6 := fun W => sameC a a true W ha
  rw [sameG_comm b a] at s2 s4
  rw [sameG_self] at s5
  rw [sameG_strong] at s6
  replace s2 := hide' s2
  replace s4 := hide' s4
  replace s5 := hide' s5
  replace s6 := hide' s6
  have wk := sameG_weak a b
  generalize tagS a = ta at c1
  generalize sameG a b false = g2 at s3 s4 wk
  generalize sameG a b true = g1 at s1 s2 wk
  generalize tagK a = ka at c1 s6
  generalize tagB a = oa at c1 s5 s6
  clear ha hb
  cases oa <;> cases ka
  all_goals
    go_enter Try.func5, Try.ntmps5
    go_wp2_with fail
    refine c0.out.mono ?_
    rintro e w1 ⟨rfl, b1⟩
    have B1 := hide' b1
    clear c0 b1
    go_wp2_with fail
    refine (c1.out _).mono ?_
    rintro e w2 ⟨rfl, b2⟩
    have B2 := hide' (bt' B1.out b2)
    clear b2 B1 c1
    go_wp2_with fail
    refine (s1.out _).mono ?_
    rintro e w9 ⟨rfl, ew⟩
    rw [ew]
    clear ew w9
    go_wp2_with fail
    refine (s2.out _).mono ?_
    rintro e w9 ⟨rfl, ew⟩
    rw [ew]
    clear ew w9
    go_wp2_with fail
    refine (s3.out _).mono ?_
    rintro e w9 ⟨rfl, ew⟩
    rw [ew]
    clear ew w9
    go_wp2_with fail
    refine (s4.out _).mono ?_
    rintro e w9 ⟨rfl, ew⟩
    rw [ew]
    clear ew w9
    go_wp2_with fail
    refine (s5.out _).mono ?_
    rintro e w9 ⟨rfl, ew⟩
    rw [ew]
    clear ew w9
    go_wp2_with fail
    refine (s6.out _).mono ?_
    rintro e w9 ⟨rfl, ew⟩
    rw [ew]
    clear ew w9
    cases g1 with
    | false =>
      go_wp2_with fail
      refine (s1.out _).mono ?_
      rintro e w9 ⟨rfl, ew⟩
      rw [ew]
      clear ew w9
      go_wp2_with fail
      go_ret
      exact ⟨rfl, B2.out⟩
    | true =>
      obtain rfl := wk rfl
      go_wp2_with fail
      refine (s1.out _).mono ?_
      rintro e w9 ⟨rfl, ew⟩
      rw [ew]
      clear ew w9
      go_wp2_with fail
      refine (s3.out _).mono ?_
      rintro e w9 ⟨rfl, ew⟩
      rw [ew]
      clear ew w9
      go_wp2_with fail
      go_ret
      exact ⟨rfl, B2.out⟩
theorem turnsW (a b : ByteArray) (w : World) (ha : a.size ≤ 140737488351232) (hb : b.size ≤ 140737488351232) :
    Calls Try.prog 5 #[.string a, .string b] w fun e w' => e = .returned (.bool true) ∧ Below w.heap.size w w' := by
  have h := turnsWl a.data.toList b.data.toList w (by simpa using ha) (by simpa using hb)
  rw [ba_eta, ba_eta] at h
  exact h
end Go.Proofs.Ytikokjclhpgocaa
