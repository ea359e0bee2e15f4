/- The contracts of slices.Index and slices.Contains over texts. -/
import Derived.Test.YtmibgcbolnpffaaDoorBk
import Derived.Lib.Bytealg
namespace Go.Proofs.YtmibgcbolnpffaaDoor
open Go.RowKit
theorem holds_partsC {w : World} {v : Value} {ss : List (List UInt8)} (h : Holds w v ss) : ∃ ao cap b off, v = .slice ao ss.length cap ∧ (0 < ss.length → ao = some ⟨b, off, none⟩ ∧ b < w.heap.size ∧ ∀ j (h : j < ss.length), w.cell? ⟨b, off + j, none⟩ = some (S ss[j])) := by
  obtain ⟨ao, cap, rfl, hc⟩ := h
  by_cases he : ss = []
  · subst he; exact ⟨ao, cap, 0, 0, rfl, fun h => absurd h (by simp)⟩
  · obtain ⟨b, off, h1, h2, h3⟩ := hc he
    exact ⟨ao, cap, b, off, rfl, fun _ => ⟨h1, h2, h3⟩⟩
theorem ba_eqlC (a b : List UInt8) (h : ¬ a = b) : ((⟨a.toArray⟩ : ByteArray).toList == (⟨b.toArray⟩ : ByteArray).toList) = false := by
  rw [Lib.toList_data, Lib.toList_data]; simpa using h
set_option maxHeartbeats 1000000 in
theorem indexS (v : Value) (ws : List (List UInt8)) (x : List UInt8) (w : World) (hv : Holds w v ws) (hl : ws.length ≤ 1000000000000000) :
    Calls Tryd.prog 42 #[v, .string ⟨x.toArray⟩] w fun e w' => ∃ i : Int, e = .returned (.int .i64 i) ∧ Hid (decide (0 ≤ i) = decide (x ∈ ws)) ∧ -1 ≤ i ∧ i ≤ 1000000000000000 ∧ w' = w := by
  obtain ⟨ao, ca, b, o, rfl, hc⟩ := holds_partsC hv
  have C := hide' hc
  clear hv hc
  obtain ⟨n, en⟩ : ∃ n, n = ws.length := ⟨_, rfl⟩
  have N : Hid (ws.length = n) := en.symm
  rw [N.out] at hl ⊢
  clear en
  go_enter Tryd.func42, Tryd.ntmps42
  go_wp2_with fail
  go_loop [8] (fun i => ∃ k : Nat, k ≤ n ∧ i = .int .i64 k ∧ Hid (∀ j (h : j < ws.length), j < k → ¬ x = ws[j])) (fun i => n - (intOf i).toNat)
  case atStart => exact ⟨0, Nat.zero_le _, rfl, fun j h hj => absurd hj (by omega)⟩
  case round =>
    obtain ⟨k, hk, rfl, A⟩ := hrel
    by_cases hlt : k < n
    · have G : Hid (k < ws.length) := by unfold Hid; rw [N.out]; exact hlt
      obtain ⟨hao, hblt, hcell⟩ := C.out (by have := G.out; omega)
      subst hao
      have ck := hcell k G.out
      unfold S at ck
      clear hcell
      by_cases he : x = ws[k]'G.out
      · have M : Hid (x ∈ ws) := by unfold Hid; rw [he]; exact List.getElem_mem _
        rw [← he] at ck
        clear he
        go_wp2_with fail
        go_ret
        exact ⟨(k : Int), rfl, by have m := M.out; unfold Hid; simp [m], by omega, by omega, rfl⟩
      · have A2 : Hid (∀ j (h : j < ws.length), j < k + 1 → ¬ x = ws[j]) := by
          intro j h hj
          by_cases hjk : j = k
          · subst hjk; exact he
          · exact A.out j h (by omega)
        have hne := ba_eqlC _ _ he
        have hne2 : (x == ws[k]'G.out) = false := by simpa using he
        clear he
        generalize ws[k]'G.out = q at ck hne hne2
        go_wp2_with fail
        go_round
        case rel => exact ⟨k + 1, by omega, by go_num, A2⟩
        case measure => simp [intOf]; omega
    · have M : Hid (¬ x ∈ ws) := by
        intro hm
        obtain ⟨j, hj, e⟩ := List.getElem_of_mem hm
        exact A.out j hj (by have := N.out; omega) e.symm
      go_wp2_with fail
      go_ret
      exact ⟨-1, rfl, by have m := M.out; unfold Hid; simp [m], by omega, by omega, rfl⟩
set_option maxHeartbeats 400000 in
theorem containsS (v : Value) (ws : List (List UInt8)) (x : List UInt8) (w : World) (hv : Holds w v ws) (hl : ws.length ≤ 1000000000000000) :
    Calls Tryd.prog 24 #[v, .string ⟨x.toArray⟩] w fun e w' => e = .returned (.bool (decide (x ∈ ws))) ∧ w' = w := by
  have c := hide' (indexS v ws x w hv hl)
  obtain ⟨ao, ca, b, o, rfl, _⟩ := holds_partsC hv
  generalize decide (x ∈ ws) = d at c ⊢
  clear hv
  go_enter Tryd.func24, Tryd.ntmps24
  go_wp2_with fail
  refine c.out.mono ?_
  rintro e w' ⟨i, rfl, hd, h1, h2, ew⟩
  rw [ew]
  go_wp2_with fail
  go_ret
  exact ⟨by rw [← hd.out]; rfl, rfl⟩
end Go.Proofs.YtmibgcbolnpffaaDoor
