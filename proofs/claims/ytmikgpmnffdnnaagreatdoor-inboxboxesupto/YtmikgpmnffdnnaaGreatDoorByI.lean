/- The contracts of New, Feed, Rest, take and the deferred closure (a box of integers). -/
import Derived.Test.YtmikgpmnffdnnaaGreatDoorBx
import Derived.Test.YtmikgpmnffdnnaaGreatDoorInC
import Derived.Deep.RegionHeld3
import Derived.Deep.RegionWith
import Derived.Recover
namespace Go.Proofs.YtmikgpmnffdnnaaGreatDoor
open Go.RowKit
set_option maxHeartbeats 400000 in
theorem newI (k : Nat) (w : World) : Calls Tryz.prog 25 #[.func (.func k) #[] #[]] w fun e w' => e = .returned (.pointer (some ⟨w.heap.size, 0, none⟩)) ∧ w' = w.alloc (.cells #[.func (.func k) #[] #[], .slice none 0 0, .int .i64 0] 81) := by
  go_enter Tryz.func25, Tryz.ntmps25
  go_wp2_with fail
  go_ret
  exact ⟨rfl, rfl⟩
theorem idleI (w : World) : CallsD Tryz.prog 76 #[] .returning w fun e u' w' => e = .returned (.tuple #[]) ∧ u' = .returning ∧ w' = w := by
  refine callsD_of_wpS Tryz.func76 rfl fun c₀ cs hu => ?_
  apply wpS_region
  simp [wpOpsS, go_sem, recoverD, hu, Tryz.ntmps76, bodyPostS, results, Tryz.results76]
  cases c₀
  simp_all
set_option maxRecDepth 20000 in
set_option maxHeartbeats 2000000 in
theorem feedI (g base k : Nat) (held ps : List UInt8) (v : Value) (W : World) (P : BoxP g base (.func (.func k) #[] #[]) held 0 W) (hv : HoldsB W v ps) (hl : held.length + ps.length ≤ 140737488355328) :
    Calls Tryz.prog 28 #[.pointer (some ⟨g, 0, none⟩), v] W fun e W' => e = .returned (.tuple #[]) ∧ BoxP g base (.func (.func k) #[] #[]) (held ++ ps) 0 W' ∧ BelowBut g base W W' := by
  obtain ⟨ca, cc, bk, ro⟩ := box_slice P
  obtain ⟨_, _, _, hgb, hbs⟩ := P
  have BK := hide' bk
  have RO := hide' ro
  have HV := hide' hv
  obtain ⟨⟨c0, c1, c2⟩, ⟨f0, f1, f2⟩⟩ := cells_three bk
  obtain ⟨ao, cap, rfl, _⟩ := hv
  clear bk ro
  go_enter Tryz.func28, Tryz.ntmps28
  go_wp2_with (at_builtin; refine appRowB rfl (.tmp 13) (.tmp 14) rfl base _ held rfl RO.out hbs _ ps rfl HV.out hl ?_; intro v2 w2 row2 bel2; have BK2 := hide' (cells_base BK.out bel2 hgb); obtain ⟨⟨d0, d1, d2⟩, ⟨e0, e1, e2⟩⟩ := cells_three BK2.out; obtain ⟨va, vc, hv2⟩ := row_slice row2; rw [List.length_append] at hv2; subst hv2; have RW := hide' row2; have BL := hide' bel2; clear row2 bel2 c0 c1 c2 f0 f1 f2)
  go_end0
  have q := cells_set BK2.out (j := 1) (by simp) (.slice va (held.length + ps.length) vc)
  exact ⟨rfl, ⟨_, q, row_poke RW.out hgb, hgb, by simpa using Nat.le_trans hbs BL.out.size⟩, (but_of BL.out).poke 1 _⟩
set_option maxHeartbeats 1000000 in
theorem feedBadI (g base k : Nat) (held : List UInt8) (er : Int) (he : er ≠ 0) (v : Value) (ps : List UInt8) (W : World) (P : BoxP g base (.func (.func k) #[] #[]) held er W) (hv : HoldsB W v ps) :
    Calls Tryz.prog 28 #[.pointer (some ⟨g, 0, none⟩), v] W fun e W' => e = .returned (.tuple #[]) ∧ W' = W := by
  obtain ⟨ca, cc, bk, _⟩ := box_slice P
  obtain ⟨⟨c0, c1, c2⟩, _⟩ := cells_three bk
  obtain ⟨ao, cap, rfl, _⟩ := hv
  have he' : (er == 0) = false := by simpa using he
  clear bk P
  go_enter Tryz.func28, Tryz.ntmps28
  go_wp2_with fail
  go_end0
  exact ⟨rfl, rfl⟩
set_option maxHeartbeats 1000000 in
theorem restI (g base k : Nat) (held : List UInt8) (er : Int) (W : World) (P : BoxP g base (.func (.func k) #[] #[]) held er W) (hl : held.length ≤ 140737488355328) :
    Calls Tryz.prog 27 #[.pointer (some ⟨g, 0, none⟩)] W fun e W' => ∃ u, e = .returned u ∧ Own W u held W' := by
  obtain ⟨ca, cc, bk, ro⟩ := box_slice P
  obtain ⟨⟨c0, c1, c2⟩, _⟩ := cells_three bk
  have C := hide' (bcloneC _ held W (row_holds ro) hl)
  clear bk P ro
  go_enter Tryz.func27, Tryz.ntmps27
  go_wp2_with fail
  refine C.out.mono ?_
  rintro e w1 ⟨u, rfl, ho⟩
  have HO := hide' ho
  clear ho
  go_wp2_with fail
  go_ret
  exact ⟨u, rfl, HO.out⟩
set_option maxRecDepth 100000 in
set_option maxHeartbeats 4000000 in
theorem takeI (g base k : Nat) (held : List UInt8) (er : Int) (n : Nat) (W : World) (P : BoxP g base (.func (.func k) #[] #[]) held er W) (hn : n ≤ held.length) (hl : held.length < 4294967281) :
    Calls Tryz.prog 49 #[.pointer (some ⟨g, 0, none⟩), .int .i64 (n : Int)] W fun e W' => e = .returned (.tuple #[]) ∧ BoxP g W.heap.size (.func (.func k) #[] #[]) (held.drop n) er W' ∧ BelowBut g W.heap.size W W' := by
  obtain ⟨ca, cc, bk, ro⟩ := box_slice P
  obtain ⟨_, _, _, hgb, hbs⟩ := P
  have hH := row_holds ro
  obtain ⟨_, _, e9, _, hcp, _⟩ := hH
  cases e9
  have hH := row_holds ro
  have sl := fun W => from_run ca held.length cc n hn hcp W
  have HS := holdsB_suf hH n hn
  have BK := hide' bk
  obtain ⟨⟨c0, c1, c2⟩, ⟨f0, f1, f2⟩⟩ := cells_three bk
  have dl : (held.drop n).length ≤ 4294967281 := by rw [List.length_drop]; omega
  have C := hide' (fun W2 (h : Below W.heap.size W W2) => (bcloneC _ (held.drop n) W2 (holdsB_mono HS h) (by omega)).mono (R' := fun e w' => ∃ u, e = .returned u ∧ Hid (Own W u (held.drop n) w') ∧ w'.cell? ⟨g, 1, none⟩ = some (.slice ca held.length cc) ∧ w'.frozen? ⟨g, 1, none⟩ = false) (by
    rintro e w' ⟨u, rfl, ho⟩
    have q := cells_below bk (bt' h ho.2)
    obtain ⟨⟨_, k1, _⟩, ⟨_, k2, _⟩⟩ := cells_three q
    exact ⟨u, rfl, own_base ho h, k1, k2⟩))
  have hmin : min (n : Int) (held.length : Int) = (n : Int) := by omega
  generalize Lib.fromV ca held.length cc n = sv at sl C
  obtain ⟨cs, hcs⟩ : ∃ cs, cs = held.drop n := ⟨_, rfl⟩
  rw [← hcs] at C ⊢
  obtain ⟨N, hN⟩ : ∃ N, N = held.length := ⟨_, rfl⟩
  rw [← hN] at sl c1 C BK hl hn hmin
  clear bk ro hH HS dl hcs hN hcp
  go_enter Tryz.func49, Tryz.ntmps49
  go_region_with
    (first
      | (go_at_call 47; refine (C.out _ ?_).mono ?_; (first | exact (Below.refl _ _).drew | exact Below.refl _ _); rintro e w2 ⟨u, rfl, O2, k1, k2⟩; obtain ⟨xa, xc, hu, _⟩ := holdsB_own O2.out; subst hu))
  all_goals
    go_wp2_with fail
    go_end0
    have q := cells_set (cells_below BK.out O2.out.2) (j := 1) (by simp) (.slice xa cs.length xc)
    exact ⟨rfl, ⟨_, q, row_poke O2.out.1 (by omega), by omega, by simpa using O2.out.2.size⟩, (but_of O2.out.2).poke 1 _⟩
end Go.Proofs.YtmikgpmnffdnnaaGreatDoor
