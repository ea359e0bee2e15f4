/- The walk of the law TokTidy. -/
import Derived.Test.YtegdbieieacalabDoorAlive
import Derived.Test.YtegdbieieacalabDoorTidyP
import Derived.Deep.RegionHeld3
namespace Go.Proofs.YtegdbieieacalabDoor
open Go.RowKit
theorem ne_list (x : ByteArray) (e : List UInt8) (hx : x = ⟨e.toArray⟩) (h : e ≠ []) : x.toList.isEmpty = false := by
  subst hx; rw [Lib.toList_data]; cases e with
  | nil => exact absurd rfl h
  | cons _ _ => rfl
theorem holds_drew {w : World} {v : Value} {ss : List (List UInt8)} (h : Holds w v ss) : Holds w.drew v ss := holds_mono h ((Below.refl _ _).drew)
theorem below_of_drawn {B : Nat} {a w w' : World} {n : Nat} (h : Below B (a.drewN n) w) (hw : Below B w w') : Below B a w' := (below_drawn (Below.refl _ a) n).trans (h.trans hw)
namespace tokTidy
set_option maxHeartbeats 4000000 in
theorem walk (s : ByteArray) (w : World) (hs : s.size ≤ 1048576) :
    Calls Tryd.prog 4 #[.string s] w fun e w' => e = .returned (.bool true) ∧ Below w.heap.size w w' := by
  have c1 : Hid (∀ w, _) := fun w => listTok s w (by omega)
  have hl := listOf_small s (by omega)
  have hE : Hid (∀ e ∈ listOf s.data.toList, e ≠ [] ∧ trimT e = e ∧ e.length ≤ s.size ∧ listOf e = [e]) := by
    intro e he
    have := listOf_elem _ e he
    rwa [len_list] at this
  generalize listOf s.data.toList = LL at c1 hl hE
  go_enter Tryd.func4, Tryd.ntmps4
  go_wp2_with fail
  refine (alive _).mono ?_
  rintro e w1 ⟨rfl, b1⟩
  have B1 : Hid _ := b1
  clear b1
  go_wp2_with fail
  refine (c1.out _).mono ?_
  rintro e w2 ⟨v, rfl, ha⟩
  have z1 := B1.out.size
  have B2 : Hid (Below w.heap.size w w2) := B1.out.trans (ha.2.mono z1)
  have z2 := B2.out.size
  obtain ⟨ao, cap, hv, hcell⟩ := holds_own ha
  rw [hv]
  clear ha hv c1
  by_cases hne : LL = []
  · subst hne
    clear hcell hE hl
    go_wp2_with fail
    refine wp_loop_rounds 1 ?_
    rw [rounds_succ]
    go_wp2_with fail
    go_ret
    exact ⟨rfl, B2.out⟩
  · obtain ⟨b, off, hao, hblt, hcells⟩ := hcell hne
    have C : Hid _ := hcells
    rw [hao]
    clear hcells hcell hao hne
    obtain ⟨n, en⟩ : ∃ n, n = LL.length := ⟨_, rfl⟩
    have N : Hid (LL.length = n) := en.symm
    rw [N.out]
    rw [N.out] at hl
    clear en
    go_wp2_with fail
    go_loopw [4] (fun i wr => ∃ k : Nat, k ≤ n ∧ i = .int .i64 k ∧ Hid (Below w2.heap.size w2 wr)) (fun i _ => n - (intOf i).toNat)
    case atStart => exact ⟨0, by omega, rfl, Below.refl _ _⟩
    case round =>
      obtain ⟨k, hk, rfl, hB⟩ := hrel
      by_cases hlt : k < n
      · have G : Hid (k < LL.length) := by unfold Hid; rw [N.out]; exact hlt
        have hp := hE.out _ (List.getElem_mem G.out)
        have hc0 := C.out k G.out
        generalize LL[k]'G.out = e at hp hc0
        obtain ⟨x, hx⟩ : ∃ x : ByteArray, x = ⟨e.toArray⟩ := ⟨_, rfl⟩
        have X : Hid (x = ⟨e.toArray⟩) := hx
        have hne := ne_list x e hx hp.1
        have hsz : x.size ≤ s.size := by rw [hx]; show e.toArray.size ≤ _; rw [List.size_toArray]; exact hp.2.2.1
        have ck : wr.cell? ⟨b, off + k, none⟩ = some (.string x) := by rw [(hB.out.cell (p := ⟨b, off + k, none⟩) hblt), hc0, X.out]; rfl
        have zB := hB.out.size
        have cT : Hid (∀ W : World, W.cell? ⟨b, off + k, none⟩ = some (.string x) → b < W.heap.size → Calls Tryd.prog 10 #[.string x] W fun e w' => e = .returned (.string x) ∧ w'.cell? ⟨b, off + k, none⟩ = some (.string x) ∧ Below W.heap.size W w') := by
          intro W hW hb
          refine (trimTok x W (by omega)).mono ?_
          rintro e' w' ⟨rfl, hb'⟩
          refine ⟨?_, by rw [hb'.cell (p := ⟨b, off + k, none⟩) hb]; exact hW, hb'⟩
          rw [hx]
          show Ending.returned (.string ⟨(trimT e).toArray⟩) = _
          rw [hp.2.1]
        have cL : Hid (∀ W : World, W.cell? ⟨b, off + k, none⟩ = some (.string x) → b < W.heap.size → Calls Tryd.prog 9 #[.string x] W fun e' w' => ∃ v', e' = .returned v' ∧ w'.cell? ⟨b, off + k, none⟩ = some (.string x) ∧ OwnS W v' [e] w') := by
          intro W hW hb
          refine (listTok x W (by omega)).mono ?_
          rintro e' w' ⟨v', rfl, ho⟩
          have e1 : x.data.toList = e := by rw [hx]
          rw [e1, hp.2.2.2] at ho
          exact ⟨v', rfl, by rw [ho.2.cell (p := ⟨b, off + k, none⟩) hb]; exact hW, ho⟩
        have HX : Hid (∀ W : World, Holds (W.alloc (.cells #[.string x] 9)) (.slice (some ⟨W.heap.size, 0, none⟩) 1 1) [e]) := by
          intro W
          rw [hx]
          exact holds_lit1 W e
        clear hx hc0 hp
        have bnd : ((s.size : Int) < (x.size : Int)) = False := by simp; omega
        have bnd2 : decide ((s.size : Int) < (x.size : Int)) = false := by simp; omega
        go_wp2_with fail
        go_region_held3 (fun w' => w'.cell? ⟨b, off + k, none⟩ = some (.string x)) (go_keep)
          (first | (go_at_call 10; refine (cT.out _ ?_ ?_).mono ?_; (simp [*]); (simp; omega); rintro e' w3 ⟨rfl, hc3, hb3⟩))
        have B3 : Hid (Below wr.heap.size wr w3) := (Below.refl _ wr).drew.trans hb3
        clear hb3
        go_wp2_with fail
        clear ck
        have zz : b < w3.heap.size := by have := B3.out.size; omega
        go_region_held3 (fun w' => w'.cell? ⟨b, off + k, none⟩ = some (.string x)) (go_keep)
          (first
            | (go_at_call 9; refine (cL.out _ ?_ ?_).mono ?_; (simp [*]); (simp; omega); rintro e' w4 ⟨v4, rfl, hc4, ho4⟩)
            | (go_at_call_of 8 (w4.heap.size); refine (sameTexts _ _ [e] [e] _ (holds_mono (holds_own ho4) (below_alloc _ _)) (HX.out _) (by simp) (by simp)).mono ?_; rintro e' w5 ⟨rfl, m5, rfl⟩)
            | (go_at_call_of 8 (w3.heap.size); refine (sameTexts _ _ [e] [e] _ (holds_own ho4) (holds_mono (holds_drew (HX.out w3)) ho4.2) (by simp) (by simp)).mono ?_; rintro e' w5 ⟨rfl, m5, rfl⟩))
        · go_wp2_with fail
          have z3 : w2.heap.size ≤ w3.heap.size := by have := B3.out.size; omega
          have z4 : w3.heap.size ≤ w4.heap.size := ho4.2.size
          have BB : Hid (Below w2.heap.size w2 w4) := (hB.out.trans (B3.out.mono zB)).drew.trans (ho4.2.mono z3)
          go_roundw
          case rel => exact ⟨k + 1, by omega, by go_num, below_drawn (BB.out.alloc (by omega) _) _⟩
          case measure => simp [intOf]; omega
        · go_wp2_with fail
          have z3 : w2.heap.size ≤ w3.heap.size := by have := B3.out.size; omega
          have BB : Hid (Below w2.heap.size w2 w4) := ((hB.out.trans (B3.out.mono zB)).alloc z3 _).drew.trans (ho4.2.mono (by simp; omega))
          go_roundw
          case rel => exact ⟨k + 1, by omega, by go_num, below_drawn BB.out _⟩
          case measure => simp [intOf]; omega
      · go_wp2_with fail
        go_ret
        exact ⟨rfl, B2.out.trans (hB.out.mono (by omega))⟩
end tokTidy
end Go.Proofs.YtegdbieieacalabDoor
