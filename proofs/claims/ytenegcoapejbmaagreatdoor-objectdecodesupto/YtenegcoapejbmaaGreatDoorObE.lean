/- The contract of object.timesOf. -/
import Derived.Test.YtenegcoapejbmaaGreatDoorObD
import Derived.Deep.RegionHeld3
namespace Go.Proofs.YtenegcoapejbmaaGreatDoor
open Go.RowKit
set_option maxRecDepth 20000 in
set_option maxHeartbeats 4000000 in
theorem timesC (e : En) (a g : Nat) (lv bv : Value) (w : World) (hF : HoldsF w lv e.r.fs) (hB : HoldsB w bv e.body) (ha : (a : Int) = e.a) (hg : (g : Int) = e.g) :
    Calls Tryz.prog 21 #[entV e lv bv] w fun x w' => ∃ u, x = .returned u ∧ Own w u (beN 8 a ++ beN 8 g) w' := by
  obtain ⟨la, lc, _, _, e1, _⟩ := holdsF_parts hF
  obtain ⟨ba, bc, e2, _⟩ := holdsB_parts hB
  subst e1 e2
  unfold entV
  obtain ⟨key, vary, ⟨s, r, k, fs⟩, body, a', g'⟩ := e
  dsimp only at *
  subst ha hg
  obtain ⟨W0, hW0⟩ : ∃ W0, W0 = w.alloc (.cells #[.string ⟨key.toArray⟩, .string ⟨vary.toArray⟩, .int .i64 s, .string ⟨r.toArray⟩, .int .i64 k, .slice la fs.length lc, .slice ba body.length bc, .int .i64 (a : Int), .int .i64 (g : Int)] 29) := ⟨_, rfl⟩
  have HW0 := hide' hW0
  have BB := below_alloc' w (.cells #[.string ⟨key.toArray⟩, .string ⟨vary.toArray⟩, .int .i64 s, .string ⟨r.toArray⟩, .int .i64 k, .slice la fs.length lc, .slice ba body.length bc, .int .i64 (a : Int), .int .i64 (g : Int)] 29)
  have QQ := cells_lit w #[.string ⟨key.toArray⟩, .string ⟨vary.toArray⟩, .int .i64 s, .string ⟨r.toArray⟩, .int .i64 k, .slice la fs.length lc, .slice ba body.length bc, .int .i64 (a : Int), .int .i64 (g : Int)] 29
  rw [← hW0] at BB QQ
  obtain ⟨q, hq⟩ : ∃ q, q = w.heap.size := ⟨_, rfl⟩
  have HQ := hide' hq
  have B0 := hide' BB
  rw [← hq] at QQ
  have hlt : Hid (q < W0.heap.size) := by unfold Hid; rw [hq, hW0]; simp
  have C0 : Hid (∀ W, Below W0.heap.size W0 W → W.cell? ⟨q, 7, none⟩ = some (.int .i64 (a : Int)) ∧ W.cell? ⟨q, 8, none⟩ = some (.int .i64 (g : Int))) := fun W hb => by
    have h := (cells_nine (cells_below QQ hb)).1
    exact ⟨h.2.2.2.2.2.2.2.1, h.2.2.2.2.2.2.2.2⟩
  have N1 : Hid (∀ W, Below W0.heap.size W0 W → Calls Tryz.prog 22 #[.slice none 0 0, .int .i64 (a : Int), .int .i64 8] W fun x w' => ∃ u, x = .returned u ∧ Hid (Own W0 u (beN 8 a) w') ∧ w'.cell? ⟨q, 7, none⟩ = some (.int .i64 (a : Int)) ∧ w'.cell? ⟨q, 8, none⟩ = some (.int .i64 (g : Int))) := fun W hb => by
    refine (appNumC (.slice none 0 0) [] W a 8 (rw_nil W) (by decide) (by decide)).mono ?_
    rintro x w' ⟨u, rfl, hr, hA⟩
    have hb2 : Below W.heap.size W w' := below_far hA.1 _ (Nat.le_refl _) (fun k e => by cases e)
    have hO : Own W0 u (beN 8 a) w' := own_rw hr (bt' hb hb2) (fun k e => by
      rcases hA.2 k e with h | h
      · cases h
      · have := hb.size; omega)
    exact ⟨u, rfl, hO, C0.out _ hO.2⟩
  have N2 : Hid (∀ W u, Hid (Own W0 u (beN 8 a) W) → Calls Tryz.prog 22 #[u, .int .i64 (g : Int), .int .i64 8] W fun x w' => ∃ u', x = .returned u' ∧ Hid (Own W0 u' (beN 8 a ++ beN 8 g) w') ∧ w'.cell? ⟨q, 7, none⟩ = some (.int .i64 (a : Int)) ∧ w'.cell? ⟨q, 8, none⟩ = some (.int .i64 (g : Int))) := fun W u ho => by
    refine (appNumC u (beN 8 a) W g 8 (rw_own ho.out) (by decide) (by rw [beN_len]; decide)).mono ?_
    rintro x w' ⟨u', rfl, hr, hA⟩
    have hlo := ho.out.1.lt
    have hb2 : Below W0.heap.size W0 w' := (ho.out.2).trans (below_far hA.1 _ ho.out.2.size (fun k e => (hlo k e).1))
    have hO : Own W0 u' (beN 8 a ++ beN 8 g) w' := own_rw hr hb2 (fun k e => by
      rcases hA.2 k e with h | h
      · exact (hlo k h).1
      · have := ho.out.2.size; omega)
    exact ⟨u', rfl, hO, C0.out _ hO.2⟩
  obtain ⟨c7, c8⟩ := C0.out W0 (Below.refl _ _)
  clear hW0 BB QQ hq hF hB C0
  go_enter Tryz.func21, Tryz.ntmps21
  go_wp2_with fail
  rw [← HW0.out, ← HQ.out]
  go_region_held3 (fun w' => w'.cell? ⟨q, 7, none⟩ = some (.int .i64 (a : Int)) ∧ w'.cell? ⟨q, 8, none⟩ = some (.int .i64 (g : Int))) (go_keep)
    (first
      | (go_at_call_of 22 (Value.slice none 0 0); refine (N1.out _ ?_).mono ?_; (first | exact (Below.refl _ _).drew | exact Below.refl _ _); rintro x w2 ⟨u1, rfl, O2, k0, k1⟩)
      | (go_at_call 22; refine (N2.out _ _ O2).mono ?_; rintro x w3 ⟨u2, rfl, O3, k2, k3⟩))
  all_goals
    go_wp2_with fail
    go_ret
    exact ⟨u2, rfl, own_base O3.out B0.out⟩
end Go.Proofs.YtenegcoapejbmaaGreatDoor
