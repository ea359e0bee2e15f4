/- The contracts of names and SameFiles. The contract of SameFiles where two lists are alike. -/
import Derived.Test.YtijnjgnckipghaaGreatBdB
import Derived.Test.YtijnjgnckipghaaGreatSameT
namespace Go.Proofs.YtijnjgnckipghaaGreat
open Go.RowKit
end Go.Proofs.YtijnjgnckipghaaGreat
namespace Go.Proofs.YtijnjgnckipghaaGreat
open Go.RowKit
set_option maxRecDepth 20000 in
set_option maxHeartbeats 4000000 in
theorem sameFi (va vb : Value) (fs : FL) (w : World) (ha : HoldsFi w va fs) (hb : HoldsFi w vb fs) (hl : fs.length ≤ 1000000000) (hd : ∀ f ∈ fs, f.2.length ≤ 1000000000000000) :
    Calls Tryz.prog 36 #[va, vb] w fun e w' => e = .returned (.bool true) ∧ Below w.heap.size w w' := by
  obtain ⟨ao, ca, rfl, _, _, hca⟩ := ha
  obtain ⟨bo, cb, rfl, _, _, hcb⟩ := hb
  by_cases hz : fs = []
  · subst hz
    clear hca hcb hl hd
    go_enter Tryz.func36, Tryz.ntmps36
    go_wp2
    go_rounds 1
    go_ret
    exact ⟨rfl, Below.refl _ _⟩
  · obtain ⟨b1, o1, rfl, hlt1, c1⟩ := hca hz
    obtain ⟨b2, o2, rfl, hlt2, c2⟩ := hcb hz
    have C1 := hide' c1
    have C2 := hide' c2
    have HD := hide' hd
    obtain ⟨n, hn⟩ : ∃ n, n = fs.length := ⟨_, rfl⟩
    have HN := hide' hn
    rw [← hn] at hl ⊢
    clear hca hcb c1 c2 hz hn hd
    go_enter Tryz.func36, Tryz.ntmps36
    go_wp2
    go_loopw [5] (fun i wr => ∃ k : Nat, k ≤ n ∧ i = .int .i64 k ∧ Hid (Below w.heap.size w wr)) (fun i _ => n - (intOf i).toNat)
    case atStart => exact ⟨0, by omega, rfl, Below.refl _ _⟩
    case round =>
      obtain ⟨k, hk, rfl, HB⟩ := hrel
      by_cases hlt : k < n
      · have hk' : k < fs.length := by rw [← HN.out]; exact hlt
        obtain ⟨x1, u1, y1, g1⟩ := C1.out k hk'
        obtain ⟨x2, u2, y2, g2⟩ := C2.out k hk'
        rw [← HB.out.cell (p := ⟨b1, o1 + k * 2, none⟩) hlt1] at x1
        rw [← HB.out.cell (p := ⟨b2, o2 + k * 2, none⟩) hlt2] at x2
        rw [← HB.out.cell (p := ⟨b1, o1 + k * 2 + 1, none⟩) hlt1] at y1
        rw [← HB.out.cell (p := ⟨b2, o2 + k * 2 + 1, none⟩) hlt2] at y2
        have hbd := HD.out _ (List.getElem_mem hk')
        obtain ⟨ua, uc, hu1, _⟩ := id g1
        obtain ⟨ub, ud, hu2, _⟩ := id g2
        subst hu1 hu2
        have CS : Hid (∀ q, Calls Tryz.prog 69 #[.slice ua (fs[k]'hk').2.length uc, .slice ub (fs[k]'hk').2.length ud] (wr.drewN q) fun e w' => e = .returned (.bool true) ∧ ∃ z, w' = (wr.drewN q).drewN z) := fun q => by
          have bb : Below w.heap.size w (wr.drewN q) := below_drawn HB.out q
          have := sameB _ _ _ _ (wr.drewN q) (holdsB_mono g1 bb) (holdsB_mono g2 bb) hbd hbd
          simpa using this
        unfold S at x1 x2
        generalize (fs[k]'hk').2.length = L at CS y1 y2
        generalize (fs[k]'hk').1.toArray = y at x1 x2
        rename_i r1 r2
        clear g1 g2 hbd r1 r2
        go_wp2_with fail
        go_quiet (first | (go_at_call 69; exact Calls.quiet_of (CS.out _)))
        go_wp2_with fail
        go_roundw
        case rel => exact ⟨k + 1, by omega, by go_num, below_drawn HB.out _⟩
        case measure => simp [intOf]; omega
      · go_wp2_with fail
        go_ret
        exact ⟨rfl, HB.out⟩
end Go.Proofs.YtijnjgnckipghaaGreat
