/- The contract of Apart for 3 lists. -/
import Derived.Test.YtipcmbonhkelbabGreatDoorFdAp
namespace Go.Proofs.YtipcmbonhkelbabGreatDoor
open Go.RowKit
def mkV3 (i : Nat) : Value := .int .u8 (7 * (i : Int) + 1)
section
variable (pv : Nat → Value) (np : Nat → Nat) (w : World)
def Sp3 (k : Nat) : Prop := ∃ i, i < 3 ∧ (pv i).ownBlock = some k
def St13 (k t : Nat) (wr : World) : Prop := (∀ i, i < 3 → ∃ ys, RowB (pv i) (np i) ys wr ∧ (i < k → ys = List.replicate (np i) (mkV3 i)) ∧ (i = k → ys.take t = List.replicate t (mkV3 k))) ∧ Far (Sp3 pv) w wr
def St23 (wr : World) : Prop := (∀ i, i < 3 → RowB (pv i) (np i) (List.replicate (np i) (mkV3 i)) wr) ∧ Far (Sp3 pv) w wr
def St33 (k t : Nat) (o : Value) (wr : World) : Prop := St23 pv np w wr ∧ (∃ zs, RowB o (np k + t) zs wr ∧ (o.ownBlock = (pv k).ownBlock → zs.take (np k) = List.replicate (np k) (mkV3 k))) ∧ ∀ b, o.ownBlock = some b → (pv k).ownBlock = some b ∨ w.heap.size ≤ b
def Dj3 : Prop := ∀ i j k, i < 3 → j < 3 → (pv i).ownBlock = some k → (pv j).ownBlock = some k → i = j
def Lo3 : Prop := ∀ i b, i < 3 → (pv i).ownBlock = some b → b < w.heap.size
variable {pv np w}
theorem st1_store3 (hd : Dj3 pv) {k t g cap : Nat} {wr : World} (h : St13 pv np w k t wr) (hk : k < 3) (ht : t < np k) (e : pv k = .slice (some ⟨g, 0, none⟩) (np k) cap) : St13 pv np w k (t + 1) (wr.setCell ⟨g, t, none⟩ (mkV3 k)) := by
  have hg : (pv k).ownBlock = some g := by rw [e]; rfl
  obtain ⟨h1, h2⟩ := h
  obtain ⟨ys, hy, _, hy2⟩ := h1 k hk
  have hys : ys.length = np k := by have := hy.1; omega
  rw [e] at hy
  have hs := hy.stored t (mkV3 k)
  have hf := far_grown hs.2
  refine ⟨fun i hi => ?_, far_trans h2 hf (fun b _ eb => ⟨k, hk, by rw [hg]; exact eb⟩)⟩
  by_cases hik : i = k
  · subst hik
    refine ⟨ys.set t (mkV3 i), by rw [e]; exact hs.1, fun hlt => absurd hlt (Nat.lt_irrefl _), fun _ => ?_⟩
    rw [List.take_succ_eq_append_getElem (by rw [List.length_set]; omega), List.getElem_set_self, List.take_set_of_le (Nat.le_refl _), hy2 rfl, List.replicate_succ']
  · obtain ⟨zs, hz, hz1, _⟩ := h1 i hi
    exact ⟨zs, rowB_far hz hf (fun b eb eb2 => hik (hd i k b hi hk eb (by rw [hg]; exact eb2))), hz1, fun e => absurd e hik⟩
theorem st1_next3 {k : Nat} {wr : World} (h : St13 pv np w k (np k) wr) : St13 pv np w (k + 1) 0 wr := by
  refine ⟨fun i hi => ?_, h.2⟩
  obtain ⟨ys, hy, h1, h2⟩ := h.1 i hi
  refine ⟨ys, hy, fun hlt => ?_, fun _ => by simp⟩
  by_cases hik : i = k
  · subst hik
    have := h2 rfl
    rwa [List.take_of_length_le (by have := hy.1; omega)] at this
  · exact h1 (by omega)
theorem st1_start3 (hr : ∀ i, i < 3 → ∃ ys, RowB (pv i) (np i) ys w) : St13 pv np w 0 0 w :=
  ⟨fun i hi => by obtain ⟨ys, h⟩ := hr i hi; exact ⟨ys, h, fun h => absurd h (Nat.not_lt_zero _), fun _ => by simp⟩, far_refl _ _⟩
theorem st2_of3 {wr : World} (h : St13 pv np w 3 0 wr) : St23 pv np w wr := by
  refine ⟨fun i hi => ?_, h.2⟩
  obtain ⟨ys, hy, h1, _⟩ := h.1 i hi
  rw [h1 hi] at hy
  exact hy
theorem st3_start3 {k : Nat} {wr : World} (h : St23 pv np w wr) (hk : k < 3) : St33 pv np w k 0 (pv k) wr :=
  ⟨h, ⟨_, h.1 k hk, fun _ => by rw [List.take_of_length_le]; simp⟩, fun _ e => Or.inl e⟩
theorem st3_step3 (hd : Dj3 pv) (hlo : Lo3 pv w) {k t : Nat} {o : Value} {wr : World} (h : St33 pv np w k t o wr) (hk : k < 3) (hn : np k ≤ 100000000) (ht : t ≤ 16) (x : Int) (ty : TypeId) :
    ∃ o' w', (Builtin.append_ #[25, 25] ty #[o, .slice (some ⟨wr.heap.size, 0, none⟩) 1 1]).run Tryz.prog (wr.alloc (.cells #[.int .u8 x] 5)) = .ok o' w' ∧ St33 pv np w k (t + 1) o' w' := by
  obtain ⟨⟨h1, h2⟩, ⟨zs, hz, hz2⟩, h3⟩ := h
  have fa := far_alloc wr (.cells #[.int .u8 x] 5)
  have sz : wr.heap.size ≤ (wr.alloc (.cells #[.int .u8 x] 5)).heap.size := fa.2.2.2.1
  have sw := h2.2.2.2.1
  obtain ⟨o', w', hr, r1, ⟨zs', r2, r3⟩, r4, r5⟩ := app_keep (wr.alloc (.cells #[.int .u8 x] 5)) (pv k) o (np k) (np k + t) _ zs (rowB_far (h1 k hk) fa (fun _ _ e => e)) (rowB_far hz fa (fun _ _ e => e)) (by omega) hz2 wr.heap.size (.int .u8 x) (by simp) rfl (by omega) ty
  have hno : ∀ b, b < w.heap.size → o.ownBlock = some b → (pv k).ownBlock = some b := fun b hb e => (h3 b e).elim id (fun h => absurd hb (Nat.not_lt.2 h))
  refine ⟨o', w', hr, ⟨fun i hi => ?_, ?_⟩, ⟨zs', r2, r3⟩, fun b e => ?_⟩
  · by_cases hik : i = k
    · subst hik; exact r1
    · exact rowB_far (rowB_far (h1 i hi) fa (fun _ _ e => e)) r4 (fun b eb eb2 => hik (hd i k b hi hk eb (hno b (hlo i b hi eb) eb2)))
  · refine far_trans (far_trans h2 fa (fun _ _ e => absurd e (fun e => e))) r4 (fun b hb e => ⟨k, hk, hno b hb e⟩)
  · rcases r5 b e with h | h
    · exact h3 b h
    · right; omega
theorem st2_zeros3 (hd : Dj3 pv) {k : Nat} {wr : World} (h : St23 pv np w wr) (hk : k < 3) (hn : np k ≤ 100000000) (ty : TypeId) :
    ∃ ao cap w', (Builtin.append_ #[25, 3] ty #[pv k, .int .i64 600]).run Tryz.prog wr = .ok (.slice ao (np k + 600) cap) w' ∧ St23 pv np w w' := by
  obtain ⟨ao, cap, w', hr, r1, r2⟩ := app_zeros wr (pv k) (np k) _ (h.1 k hk) (by omega) ty
  refine ⟨ao, cap, w', hr, fun i hi => ?_, far_trans h.2 r2 (fun b _ e => ⟨k, hk, e⟩)⟩
  by_cases hik : i = k
  · subst hik; exact r1
  · exact rowB_far (h.1 i hi) r2 (fun b eb eb2 => hik (hd i k b hi hk eb eb2))
theorem far_cell3 {L : Nat} (hL : ∀ i, i < 3 → w.cell? ⟨L, i, none⟩ = some (pv i)) (hS : ∀ i, i < 3 → (pv i).ownBlock ≠ some L) {wr : World} (h : Far (Sp3 pv) w wr) (i : Nat) (hi : i < 3) : wr.cell? ⟨L, i, none⟩ = some (pv i) := by
  have hlt := World.block_lt_of_cell? _ _ (hL i hi)
  rw [World.cell?_of_block (w := w) (h.2.2.2.2 L hlt (fun ⟨j, hj, e⟩ => hS j hj e))]
  exact hL i hi
end
set_option maxRecDepth 20000 in
set_option maxHeartbeats 8000000 in
theorem apartC3 (L : Nat) (pv : Nat → Value) (np : Nat → Nat) (w : World) (hL : ∀ i, i < 3 → w.cell? ⟨L, i, none⟩ = some (pv i)) (hS : ∀ i, i < 3 → (pv i).ownBlock ≠ some L)
    (hr : ∀ i, i < 3 → ∃ ys, RowB (pv i) (np i) ys w) (hd : Dj3 pv) (hn : ∀ i, i < 3 → np i ≤ 100000000) :
    Calls Tryz.prog 11 #[.slice (some ⟨L, 0, none⟩) 3 3] w fun e w' => e = .returned (.bool true) ∧ Far (Sp3 pv) w w' := by
  have LO : Hid (Lo3 pv w) := fun i b hi e => by obtain ⟨ys, h⟩ := hr i hi; exact (h.lt b e).2
  have D := hide' hd
  have NN := hide' hn
  have FC := hide' (fun (wr : World) (h : Far (Sp3 pv) w wr) (i : Nat) (hi : i < 3) => far_cell3 hL hS h i hi)
  have S0 := hide' (st1_start3 hr)
  clear hL hS hr hd hn
  go_enter Tryz.func11, Tryz.ntmps11
  go_wp2_with fail
  go_loopw [3] (fun i wr => ∃ k : Nat, k ≤ 3 ∧ i = .int .i64 k ∧ Hid (St13 pv np w k 0 wr)) (fun i _ => 3 - (intOf i).toNat)
  case atStart => exact ⟨0, by omega, rfl, S0⟩
  case round =>
    clear S0
    obtain ⟨k, hk, rfl, S1⟩ := hrel
    by_cases hlt : k < 3
    · have nk := NN.out k hlt
      obtain ⟨ys0, hy0, _⟩ := S1.out.1 k hlt
      obtain ⟨ao, cap, e, hao⟩ := rowB_form hy0
      have E := hide' e
      obtain ⟨n, en⟩ : ∃ n, n = np k := ⟨_, rfl⟩
      have EN := hide' en
      rw [← en] at nk hao
      clear hy0 e en
      go_wp2_with fail
      go_loopw [4] (fun i wr => ∃ t : Nat, t ≤ n ∧ i = .int .i64 t ∧ Hid (St13 pv np w k t wr)) (fun i _ => n - (intOf i).toNat)
      case atStart => exact ⟨0, by omega, rfl, S1⟩
      case round =>
        clear S1
        obtain ⟨t, ht, rfl, S1⟩ := hrel
        have cl := FC.out _ S1.out.2 k hlt
        rw [E.out, ← EN.out] at cl
        by_cases htn : t < n
        · obtain ⟨g, rfl⟩ := hao (by omega)
          obtain ⟨ys, hy, _⟩ := S1.out.1 k hlt
          have hyl := hy.1
          rw [E.out, ← EN.out] at hy
          obtain ⟨yv, c1⟩ : ∃ yv, wr.cell? ⟨g, t, none⟩ = some yv := by
            have c1 := hy.cellAt t (by omega)
            rw [List.getElem?_eq_getElem (by rw [hyl, ← EN.out]; omega)] at c1
            exact ⟨_, c1⟩
          have f1 := hy.frozenAt t
          have S2 := hide' (st1_store3 D.out S1.out hlt (by rw [← EN.out]; exact htn) E.out)
          unfold mkV3 at S2
          clear hy hyl
          go_wp2_with fail
          go_roundw
          case rel => exact ⟨t + 1, by omega, by go_num, S2⟩
          case measure => simp [intOf]; omega
        · obtain rfl : t = n := by omega
          have S2 := hide' (st1_next3 (pv := pv) (np := np) (w := w) (k := k) (by rw [← EN.out]; exact S1.out))
          go_wp2_with fail
          go_roundw
          case rel => exact ⟨k + 1, by omega, by go_num, S2⟩
          case measure => simp [intOf]; omega
    · have k2 : k = 3 := by omega
      have T1 := hide' (st2_of3 (pv := pv) (np := np) (w := w) (by rw [k2] at S1; exact S1.out))
      have ek : (k : Int) = 3 := by omega
      rw [ek]
      clear S1 hlt hk k2 ek
      go_wp2_with fail
      go_loopw [5] (fun i wr => ∃ k : Nat, k ≤ 3 ∧ i = .int .i64 k ∧ Hid (St23 pv np w wr)) (fun i _ => 3 - (intOf i).toNat)
      case atStart => exact ⟨0, by omega, rfl, T1⟩
      case round =>
        clear T1
        obtain ⟨k, hk, rfl, T1⟩ := hrel
        by_cases hlt : k < 3
        · have nk := NN.out k hlt
          obtain ⟨ao, cap, e, hao⟩ := rowB_form (T1.out.1 k hlt)
          have E := hide' e
          obtain ⟨n, en⟩ : ∃ n, n = np k := ⟨_, rfl⟩
          have EN := hide' en
          rw [← en] at nk hao
          have cl := FC.out _ T1.out.2 k hlt
          rw [E.out, ← EN.out] at cl
          have U1 := hide' (st3_start3 T1.out hlt)
          rw [E.out, ← EN.out] at U1
          clear e en T1
          go_wp2_with fail
          have hdk : decide ((k : Int) < 3) = true := decide_eq_true (by omega)
          rw [hdk]
          clear hdk
          go_loopw [6, 7] (fun o i wr => ∃ (t : Nat) (u : Value), u = o ∧ t ≤ 16 ∧ i = .int .i64 t ∧ Hid (St33 pv np w k t u wr)) (fun _ i _ => 16 - (intOf i).toNat)
          case atStart => exact ⟨0, _, rfl, by omega, rfl, U1⟩
          case round =>
            clear U1 cl
            obtain ⟨t, u, rfl, ht, rfl, U⟩ := hrel
            by_cases ht16 : t < 16
            · obtain ⟨o', w', hr, hst⟩ := st3_step3 D.out LO.out U.out hlt (NN.out k hlt) ht (128 + (k : Int)) 25
              have HR := hide' hr
              have HS := hide' hst
              clear hr hst
              go_wp2_with (at_builtin; refine Lib.wpList_append_run _ rfl (.tmp 50) (.tmp 54) _ _ rfl _ _ rfl rfl o' w' HR.out ?_)
              go_roundw
              case rel => exact ⟨t + 1, _, rfl, by omega, by go_num, HS⟩
              case measure => simp [intOf]; omega
            · obtain rfl : t = 16 := by omega
              have T1 := hide' U.out.1
              have cl := FC.out _ T1.out.2 k hlt
              rw [E.out, ← EN.out] at cl
              obtain ⟨zs, hz, _⟩ := U.out.2.1
              obtain ⟨ao2, cap2, rfl, _⟩ := rowB_form hz
              rw [← EN.out]
              obtain ⟨ao3, cap3, w3, hr3, hs3⟩ := st2_zeros3 D.out T1.out hlt (NN.out k hlt) 25
              rw [E.out, ← EN.out] at hr3
              have HR := hide' hr3
              have T3 := hide' hs3
              have cl3 := FC.out _ T3.out.2 k hlt
              rw [E.out, ← EN.out] at cl3
              clear hz hr3 hs3 U
              go_wp2_with (at_builtin; refine Lib.wpList_append_run _ rfl (.tmp 60) _ _ _ rfl _ _ rfl rfl _ w3 HR.out ?_)
              go_roundw
              case rel => exact ⟨k + 1, by omega, by go_num, T3⟩
              case measure => simp [intOf]; omega
        · have ek : (k : Int) = 3 := by omega
          rw [ek]
          clear hlt hk ek
          go_wp2_with fail
          go_loopw [9] (fun i wr => ∃ k : Nat, k ≤ 3 ∧ i = .int .i64 k ∧ Hid (St23 pv np w wr)) (fun i _ => 3 - (intOf i).toNat)
          case atStart => exact ⟨0, by omega, rfl, T1⟩
          case round =>
            clear T1
            obtain ⟨k, hk, rfl, T1⟩ := hrel
            by_cases hlt : k < 3
            · have nk := NN.out k hlt
              obtain ⟨ao, cap, e, hao⟩ := rowB_form (T1.out.1 k hlt)
              have E := hide' e
              obtain ⟨n, en⟩ : ∃ n, n = np k := ⟨_, rfl⟩
              have EN := hide' en
              rw [← en] at nk hao
              clear e en
              go_wp2_with fail
              go_loopw [10] (fun i wr => ∃ t : Nat, t ≤ n ∧ i = .int .i64 t ∧ Hid (St23 pv np w wr)) (fun i _ => n - (intOf i).toNat)
              case atStart => exact ⟨0, by omega, rfl, T1⟩
              case round =>
                clear T1
                obtain ⟨t, ht, rfl, T1⟩ := hrel
                have cl := FC.out _ T1.out.2 k hlt
                rw [E.out, ← EN.out] at cl
                by_cases htn : t < n
                · obtain ⟨g, rfl⟩ := hao (by omega)
                  have hy := T1.out.1 k hlt
                  rw [E.out, ← EN.out] at hy
                  have c1 := hy.cellAt t (by omega)
                  rw [List.getElem?_eq_getElem (by simp; omega), List.getElem_replicate] at c1
                  unfold mkV3 at c1
                  clear hy
                  go_wp2_with fail
                  go_roundw
                  case rel => exact ⟨t + 1, by omega, by go_num, T1⟩
                  case measure => simp [intOf]; omega
                · obtain rfl : t = n := by omega
                  go_wp2_with fail
                  go_roundw
                  case rel => exact ⟨k + 1, by omega, by go_num, T1⟩
                  case measure => simp [intOf]; omega
            · have ek : (k : Int) = 3 := by omega
              rw [ek]
              clear hlt hk ek
              go_wp2_with fail
              go_ret
              exact ⟨rfl, T1.out.2⟩
def pvA3 (l : List Value) (i : Nat) : Value := l.getD i (.slice none 0 0)
def npA3 (l : List Nat) (i : Nat) : Nat := l.getD i 0
theorem dj3 {pv : Nat → Value} (lo hi : Nat → Nat) (hb : ∀ i, i < 3 → ∀ k, (pv i).ownBlock = some k → lo i ≤ k ∧ k < hi i) (hs : ∀ i j, i < 3 → j < 3 → i ≠ j → hi i ≤ lo j ∨ hi j ≤ lo i) : Dj3 pv := by
  intro i j k h1 h2 e1 e2
  apply Classical.byContradiction
  intro hne
  have a := hb i h1 k e1
  have b := hb j h2 k e2
  rcases hs i j h1 h2 hne with h | h <;> omega
theorem apart3 (w : World) (p0 p1 p2 : Value) (n0 n1 n2 : Nat) (h0 : ∃ ys, RowB p0 n0 ys w) (h1 : ∃ ys, RowB p1 n1 ys w) (h2 : ∃ ys, RowB p2 n2 ys w)
    (hd : Dj3 (pvA3 [p0, p1, p2])) (hn : ∀ i, i < 3 → npA3 [n0, n1, n2] i ≤ 100000000) :
    Calls Tryz.prog 11 #[.slice (some ⟨w.heap.size, 0, none⟩) 3 3] (w.alloc (.cells #[p0, p1, p2] 25)) fun e w' => e = .returned (.bool true) ∧ Far (Sp3 (pvA3 [p0, p1, p2])) w w' := by
  have fa := far_alloc w (.cells #[p0, p1, p2] 25)
  have rows : ∀ i, i < 3 → ∃ ys, RowB (pvA3 [p0, p1, p2] i) (npA3 [n0, n1, n2] i) ys w := by
    intro i hi
    match i, hi with
    | 0, _ => exact h0
    | 1, _ => exact h1
    | 2, _ => exact h2
  have c := apartC3 w.heap.size (pvA3 [p0, p1, p2]) (npA3 [n0, n1, n2]) (w.alloc (.cells #[p0, p1, p2] 25)) ?_ ?_ ?_ hd hn
  · refine c.mono ?_
    rintro e w' ⟨rfl, hf⟩
    exact ⟨rfl, far_trans (T := Sp3 (pvA3 [p0, p1, p2])) ⟨fa.1, fa.2.1, fa.2.2.1, fa.2.2.2.1, fun k hk _ => fa.2.2.2.2 k hk (fun e => e)⟩ hf (fun _ _ e => e)⟩
  · intro i hi
    match i, hi with
    | 0, _ => simp [pvA3]
    | 1, _ => simp [pvA3]
    | 2, _ => simp [pvA3]
  · intro i hi e
    obtain ⟨ys, h⟩ := rows i hi
    have := (World.ownsRow.lt h _ e).2
    omega
  · intro i hi
    obtain ⟨ys, h⟩ := rows i hi
    exact ⟨ys, rowB_far h fa (fun _ _ e => e)⟩
end Go.Proofs.YtipcmbonhkelbabGreatDoor
