/- The contract of bytes.Clone. -/
import Derived.Test.YtenegcoapejbmaaGreatDoorBa
import Derived.Lib.SliceRun
namespace Go.Proofs.YtenegcoapejbmaaGreatDoor
open Go.RowKit
set_option maxHeartbeats 400000 in
theorem bcloneC (v : Value) (bs : List UInt8) (w : World) (hv : HoldsB w v bs) (hl : bs.length ≤ 140737488355328) :
    Calls Tryz.prog 26 #[v] w fun e w' => ∃ u, e = .returned u ∧ Own w u bs w' := by
  have HV := hide' (holdsB_mono hv (below_alloc' w (.cells #[] 5)))
  have q1 : ∀ (w : World) (a : Option Addr) (n c n' c' : Nat), (binOp .eql 22 (.slice a n c) (.slice none n' c')).run Tryz.prog w = .ok (.bool a.isNone) w := fun w a n c n' c' => Lib.run_eql_slice_nil w _ _ a n c n' c' Tryz.underlying22
  obtain ⟨ao, cap, rfl, h0, hcp, hc⟩ := hv
  cases ao with
  | none =>
    have hb : bs = [] := by
      apply Classical.byContradiction
      intro h
      obtain ⟨b, off, e, _⟩ := hc h
      cases e
    subst hb
    clear HV hc
    go_enter Tryz.func26, Tryz.ntmps26
    go_wp2_with fail
    go_ret
    exact ⟨.slice none 0 0, rfl, own_nil _ _ (Below.refl _ _)⟩
  | some ad =>
    clear hc h0
    go_enter Tryz.func26, Tryz.ntmps26
    go_wp2_with (at_builtin; refine appAllB rfl (.tmp 5) (.tmp 6) rfl w _ [] rfl (own_empty w) _ bs rfl HV.out (by simpa using hl) ?_; intro v2 w2 hown2)
    go_ret
    exact ⟨v2, rfl, hown2⟩
end Go.Proofs.YtenegcoapejbmaaGreatDoor
