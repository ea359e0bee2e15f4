/- The walk of the law TokParams. -/
import Derived.Test.YtegdbieieacalaaDoorParsR
namespace Go.Proofs.YtegdbieieacalaaDoor
open Go.RowKit
theorem parsConst (w : World) :
    Calls Tryd.prog 19 #[.string ⟨#[97, 59, 66, 61, 99]⟩] w fun e w' => ∃ lv, e = .returned (.tuple #[.string ⟨#[97]⟩, lv, .int .i64 0]) ∧ OwnP w lv [([98], [99])] w' := by
  refine (parsTok ⟨#[97, 59, 66, 61, 99]⟩ w (by decide) [97] [[66, 61, 99]] (by decide +kernel)).mono ?_
  rintro e w' h
  exact h.1 [([98], [99])] (by decide +kernel)
theorem pieces_cons (c : Int) (L : List UInt8) : ∃ p0 rest, pieces c L = p0 :: rest := by
  cases h : pieces c L with
  | nil => exact absurd h (pieces_ne c L)
  | cons p r => exact ⟨p, r, rfl⟩
namespace tokParams
set_option maxHeartbeats 4000000 in
theorem walk (s : ByteArray) (w : World) (hs : s.size ≤ 1048576) :
    Calls Tryd.prog 6 #[.string s] w fun e w' => e = .returned (.bool true) ∧ Below w.heap.size w w' := by
  obtain ⟨p0, rest, he⟩ := pieces_cons 59 s.data.toList
  have c1 : Hid (∀ W, _) := fun W => parsTok s W (by omega) (trimT p0) (rest.map trimT) (by rw [he]; rfl)
  have c2 : Hid (∀ W, _) := fun W => parsRef s W (by omega) p0 rest he
  have hn : (rest.map trimT).length ≤ 4194305 := by
    have := pieces_len 59 s.data.toList
    rw [len_list, he, List.length_cons] at this
    rw [List.length_map]; omega
  clear he
  generalize trimT p0 = q0 at c1 c2
  generalize rest.map trimT = rs at c1 c2 hn
  go_enter Tryd.func6, Tryd.ntmps6
  go_wp2_with fail
  refine (parsConst _).mono ?_
  rintro e w1 ⟨lv, rfl, ho⟩
  have B1 : Hid (Below w.heap.size w w1) := ho.2
  obtain ⟨ao, cap, hv, hcell⟩ := holdsP_own ho
  obtain ⟨b, hao, hblt, hcells⟩ := hcell (by simp)
  have k0 : w1.cell? ⟨b, 0, none⟩ = some (.string ⟨#[98]⟩) := (hcells 0 (by simp)).1
  have k1 : w1.cell? ⟨b, 1, none⟩ = some (.string ⟨#[99]⟩) := (hcells 0 (by simp)).2
  rw [hv, hao]
  clear hcell hcells ho hv hao
  go_wp2_with fail
  clear k0 k1
  cases hp : parsOf (filt rs) with
  | none =>
    refine (c1.out _).mono ?_
    rintro e w2 h2
    obtain ⟨rfl, b2⟩ := h2.2 hp
    clear h2
    go_wp2_with fail
    refine (c2.out _).mono ?_
    rintro e w3 h3
    obtain ⟨rfl, b3⟩ := h3.2 hp
    clear h3 hp
    have z1 := B1.out.size
    have z2 := b2.size
    have BB : Hid (Below w.heap.size w w3) := (B1.out.trans (b2.mono z1)).trans (b3.mono (by omega))
    clear b2 b3
    go_wp2_with fail
    refine wp_loop_rounds 1 ?_
    rw [rounds_succ]
    go_wp2_with fail
    go_ret
    exact ⟨rfl, BB.out⟩
  | some acc =>
    refine (c1.out _).mono ?_
    rintro e w2 h2
    obtain ⟨la, rfl, o2⟩ := h2.1 acc hp
    have O2 : Hid _ := o2
    clear h2 o2
    go_wp2_with fail
    refine (c2.out _).mono ?_
    rintro e w3 h3
    obtain ⟨lb, rfl, o3⟩ := h3.1 acc hp
    have O3 : Hid _ := o3
    have hacc : acc.length ≤ 4194305 := by rw [parsOf_len _ _ hp]; exact Nat.le_trans (filt_len _) hn
    clear h3 hp o3
    have z1 := B1.out.size
    have z2 := O2.out.2.size
    have BB : Hid (Below w.heap.size w w3) := (B1.out.trans (O2.out.2.mono z1)).trans (O3.out.2.mono (by omega))
    obtain ⟨aa, ca, hva, hca⟩ := holdsP_mono (holdsP_own O2.out) O3.out.2
    obtain ⟨ab, cb, hvb, hcb⟩ := holdsP_own O3.out
    rw [hva, hvb]
    clear hva hvb O2 O3 c1 c2
    by_cases hne : acc = []
    · subst hne
      clear hca hcb
      go_wp2_with fail
      refine wp_loop_rounds 1 ?_
      rw [rounds_succ]
      go_wp2_with fail
      go_ret
      exact ⟨rfl, BB.out⟩
    · obtain ⟨ba, haa, _, cca⟩ := hca hne
      obtain ⟨bb, hab, _, ccb⟩ := hcb hne
      have CA : Hid _ := cca
      have CB : Hid _ := ccb
      rw [haa, hab]
      clear hca hcb cca ccb haa hab hne
      obtain ⟨n, en⟩ : ∃ n, n = acc.length := ⟨_, rfl⟩
      have N : Hid (acc.length = n) := en.symm
      rw [N.out] at hacc ⊢
      clear en
      go_wp2_with fail
      go_loopw [9] (fun i wr => ∃ k : Nat, k ≤ n ∧ i = .int .i64 k ∧ ∃ m, Hid (wr = w3.drewN m)) (fun i _ => n - (intOf i).toNat)
      case atStart => exact ⟨0, by omega, rfl, 0, rfl⟩
      case round =>
        obtain ⟨k, hk, rfl, m, hw⟩ := hrel
        have hw' := hw.out
        subst hw'
        by_cases hlt : k < n
        · have x1 := CA.out k (by rw [N.out]; exact hlt)
          have x2 := CB.out k (by rw [N.out]; exact hlt)
          unfold S at x1 x2
          generalize (acc[k]'(by rw [N.out]; exact hlt)).1.toArray = y1 at x1 x2
          generalize (acc[k]'(by rw [N.out]; exact hlt)).2.toArray = y2 at x1 x2
          obtain ⟨a1, a2⟩ := x1
          obtain ⟨b1, b2⟩ := x2
          go_wp2_with fail
          go_quiet (fail)
          go_wp2_with fail
          go_roundw
          case rel => exact ⟨k + 1, by omega, by go_num, _, rfl⟩
          case measure => simp [intOf]; omega
        · go_wp2_with fail
          go_ret
          exact ⟨rfl, below_drawn BB.out _⟩
end tokParams
end Go.Proofs.YtegdbieieacalaaDoor
