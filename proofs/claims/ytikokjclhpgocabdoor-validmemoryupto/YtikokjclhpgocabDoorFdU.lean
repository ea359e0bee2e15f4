/- The contracts of Put, of the document's Put, and of CopyTexts. -/
import Derived.Test.YtikokjclhpgocabDoorFdX
namespace Go.Proofs.YtikokjclhpgocabDoor
open Go.RowKit Go.Maps
theorem one_fit {n : List UInt8} (h : n.length ≤ 140737488351232) : ∀ x ∈ [n], x.length ≤ 140737488351232 := by
  intro x hx; obtain rfl := List.mem_singleton.1 hx; exact h
set_option maxHeartbeats 1000000 in
theorem putTok (v : Value) (fs : FL) (n x : List UInt8) (w : World) (hv : HoldsF w v fs) (hfit : Fit fs) (hn : n.length ≤ 140737488351232) (hx : x.length ≤ 140737488351232) (hl : (fs.length + 1) * 32 ≤ 140737488355328) :
    Calls Tryd.prog 16 #[v, .string ⟨n.toArray⟩, .string ⟨x.toArray⟩] w fun e w' => ∃ u, e = .returned u ∧ OwnF w u (putOf fs n x) w' := by
  have cW := hide' (withoutTok v _ fs [n] _ (holdsF_mono hv (below_alloc' w (.cells #[S n] 9))) (holds_lit1 w n) hfit (one_fit hn) (by omega) (by simp))
  have cC := hide' (fun W => cloneF ⟨n.toArray⟩ ⟨x.toArray⟩ W (by rw [size_l]; exact hn) (by rw [size_l]; exact hx))
  have hwl : (withoutOf fs [n]).length ≤ fs.length := without_len _ _
  have R := hide' (show putOf fs n x = withoutOf fs [n] ++ [(n, x)] from rfl)
  clear hv hfit
  generalize withoutOf fs [n] = acc at cW hwl R
  generalize fs.length = L at hwl hl
  go_enter Tryd.func16, Tryd.ntmps16
  go_wp2_with (first
    | (go_at_call 14; refine cW.out.mono ?_; rintro e w2 ⟨u, rfl, ho2⟩; have ho := ownF_base ho2 (below_alloc' w (.cells #[S n] 9)); clear ho2)
    | (go_at_call 26; refine (cC.out _).mono ?_; rintro e w3 ⟨rfl, hb3⟩; have ho3 := ownF_mono ho hb3; clear ho hb3)
    | (at_builtin; refine appF rfl (.tmp 10) (.tmp 14) rfl w _ _ rfl ho3 (n, x) rfl rfl rfl rfl (by omega) ?_; intro v5 w5 ho5))
  go_ret
  exact ⟨_, rfl, by rw [R.out]; exact ho5⟩
end Go.Proofs.YtikokjclhpgocabDoor
