/- The contract of the laws' alive (layer 12). -/
import Derived.Test.YtenegcoapejbmaaGreatDoorObF
namespace Go.Proofs.YtenegcoapejbmaaGreatDoor
open Go.RowKit
def enA : En := ⟨[107], [], ⟨200, [], 1, []⟩, [], 0, 0⟩
theorem prA : prR enA.r = ([72, 84, 84, 80, 47, 49, 46, 49, 32, 50, 48, 48, 32, 13, 10, 13, 10], 0) := by decide
theorem objA : ∃ L, objOf enA = (L, 0) ∧ L.length = 66 ∧ L.take 3 = [67, 79, 49] := by
  refine ⟨objL enA (prR enA.r).1, ?_, ?_, ?_⟩
  · exact obj_yes (by decide) (by rw [prA])
  · rw [objL_len, prA]; rfl
  · exact obj_first (e := enA) (obj_yes (by decide) (by rw [prA]))
set_option maxRecDepth 20000 in
set_option maxHeartbeats 2000000 in
theorem aliveOC (w : World) (T : Tab w) : Calls Tryz.prog 4 #[] w fun e w' => e = .returned (.bool true) ∧ Below w.heap.size w w' := by
  have c1 := encOC enA (.slice none 0 0) (.slice none 0 0) w (holdsF_own (ownF_nil w w (Below.refl _ _))) (holdsB_own (own_nil w w (Below.refl _ _))) T (fun f hf => absurd hf (List.not_mem_nil)) (by decide) (by decide) (by decide) (by decide) (by decide) (by decide)
  obtain ⟨L, h1, h2, h3⟩ := objA
  rw [h1] at c1
  dsimp only [] at c1
  have C1 : Hid (Calls Tryz.prog 10 #[.agg #[.string ⟨#[107]⟩, .string ⟨#[]⟩, .int .i64 200, .string ⟨#[]⟩, .int .i64 1, .slice none 0 0, .slice none 0 0, .int .i64 0, .int .i64 0]] w fun x w' => ∃ u, x = .returned (.tuple #[u, .int .i64 0]) ∧ Own w u L w') := c1
  have H2 := hide' h2
  have H3 := hide' h3
  clear c1 h1 h2 h3 T
  go_enter Tryz.func4, Tryz.ntmps4
  go_wp2_with fail
  refine C1.out.mono ?_
  rintro x w1 ⟨u, rfl, ho⟩
  have B1 := hide' ho.2
  obtain ⟨pv, hs, hp⟩ := takeB (holdsB_own ho) 3 (by rw [H2.out]; decide)
  replace hs : ∀ W, Sem.run Tryz.prog (Instr.slice 22 u none (some (.int .i64 3)) none) W = .ok pv W := hs
  rw [H3.out] at hp
  have hc := conv_holds hp
  obtain ⟨ua, uc, eu, _⟩ := holdsB_parts (holdsB_own ho)
  rw [H2.out] at eu
  subst eu
  clear ho hp C1
  go_wp2_with fail
  go_ret
  exact ⟨rfl, B1.out⟩
end Go.Proofs.YtenegcoapejbmaaGreatDoor
