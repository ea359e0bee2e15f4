/- The contract of Apart for two lists. -/
import Derived.Test.YtnbidckmekmcfabFdAp
namespace Go.Proofs.Ytnbidckmekmcfab
open Go.RowKit
def mkV (i : Nat) : Value := .int .u8 (7 * (i : Int) + 1)
section
variable (pv : Nat → Value) (np : Nat → Nat) (w : World)
def Sp (k : Nat) : Prop := ∃ i, i < 2 ∧ (pv i).ownBlock = some k
def St1 (k t : Nat) (wr : World) : Prop := (∀ i, i < 2 → ∃ ys, RowB (pv i) (np i) ys wr ∧ (i < k → ys = List.replicate (np i) (mkV i)) ∧ (i = k → ys.take t = List.replicate t (mkV k))) ∧ Far (Sp pv) w wr
def St2 (wr : World) : Prop := (∀ i, i < 2 → RowB (pv i) (np i) (List.replicate (np i) (mkV i)) wr) ∧ Far (Sp pv) w wr
def St3 (k t : Nat) (o : Value) (wr : World) : Prop := St2 pv np w wr ∧ (∃ zs, RowB o (np k + t) zs wr ∧ (o.ownBlock = (pv k).ownBlock → zs.take (np k) = List.replicate (np k) (mkV k))) ∧ ∀ b, o.ownBlock = some b → (pv k).ownBlock = some b ∨ w.heap.size ≤ b
def Dj : Prop := ∀ i j k, i < 2 → j < 2 → (pv i).ownBlock = some k → (pv j).ownBlock = some k → i = j
def Lo : Prop := ∀ i b, i < 2 → (pv i).ownBlock = some b → b < w.heap.size
variable {pv np w}
theorem st1_store (hd : Dj pv) {k t g cap : Nat} {wr : World} (h : St1 pv np w k t wr) (hk : k < 2) (ht : t < np k) (e : pv k = .slice (some ⟨g, 0, none⟩) (np k) cap) : St1 pv np w k (t + 1) (wr.setCell ⟨g, t, none⟩ (mkV k)) := by
  have hg : (pv k).ownBlock = some g := by rw [e]; rfl
  obtain ⟨h1, h2⟩ := h
  obtain ⟨ys, hy, _, hy2⟩ := h1 k hk
  have hys : ys.length = np k := by have := hy.1; omega
  rw [e] at hy
  have hs := hy.stored t (mkV k)
  have hf := far_grown hs.2
  refine ⟨fun i hi => ?_, far_trans h2 hf (fun b _ eb => ⟨k, hk, by rw [hg]; exact eb⟩)⟩
  by_cases hik : i = k
  · subst hik
    refine ⟨ys.set t (mkV i), by rw [e]; exact hs.1, fun hlt => absurd hlt (Nat.lt_irrefl _), fun _ => ?_⟩
    rw [List.take_succ_eq_append_getElem (by rw [List.length_set]; omega), List.getElem_set_self, List.take_set_of_le (Nat.le_refl _), hy2 rfl, List.replicate_succ']
  · obtain ⟨zs, hz, hz1, _⟩ := h1 i hi
    exact ⟨zs, rowB_far hz hf (fun b eb eb2 => hik (hd i k b hi hk eb (by rw [hg]; exact eb2))), hz1, fun e => absurd e hik⟩
theorem st1_next {k : Nat} {wr : World} (h : St1 pv np w k (np k) wr) : St1 pv np w (k + 1) 0 wr := by
  refine ⟨fun i hi => ?_, h.2⟩
  obtain ⟨ys, hy, h1, h2⟩ := h.1 i hi
  refine ⟨ys, hy, fun hlt => ?_, fun _ => by simp⟩
  by_cases hik : i = k
  · subst hik
    have := h2 rfl
    rwa [List.take_of_length_le (by have := hy.1; omega)] at this
  · exact h1 (by omega)
theorem st1_start (hr : ∀ i, i < 2 → ∃ ys, RowB (pv i) (np i) ys w) : St1 pv np w 0 0 w :=
  ⟨fun i hi => by obtain ⟨ys, h⟩ := hr i hi; exact ⟨ys, h, fun h => absurd h (Nat.not_lt_zero _), fun _ => by simp⟩, far_refl _ _⟩
theorem st2_of {wr : World} (h : St1 pv np w 2 0 wr) : St2 pv np w wr := by
  refine ⟨fun i hi => ?_, h.2⟩
  obtain ⟨ys, hy, h1, _⟩ := h.1 i hi
  rw [h1 hi] at hy
  exact hy
theorem st3_start {k : Nat} {wr : World} (h : St2 pv np w wr) (hk : k < 2) : St3 pv np w k 0 (pv k) wr :=
  ⟨h, ⟨_, h.1 k hk, fun _ => by rw [List.take_of_length_le]; simp⟩, fun _ e => Or.inl e⟩
theorem st3_step (hd : Dj pv) (hlo : Lo pv w) {k t : Nat} {o : Value} {wr : World} (h : St3 pv np w k t o wr) (hk : k < 2) (hn : np k ≤ 100000000) (ht : t ≤ 16) (x : Int) (ty : TypeId) :
    ∃ o' w', (Builtin.append_ #[25, 25] ty #[o, .slice (some ⟨wr.heap.size, 0, none⟩) 1 1]).run Try.prog (wr.alloc (.cells #[.int .u8 x] 5)) = .ok o' w' ∧ St3 pv np w k (t + 1) o' w' := by
  obtain ⟨⟨h1, h2⟩, ⟨zs, hz, hz2⟩, h3⟩ := h
  have fa := far_alloc wr (.cells #[.int .u8 x] 5)
  have sz : wr.heap.size ≤ (wr.alloc (.cells #[.int .u8 x] 5)).heap.size := fa.2.2.2.1
  have sw := h2.2.2.2.1
  obtain ⟨o', w', hr, r1, ⟨zs', r2, r3⟩, r4, r5⟩ := app_keep (wr.alloc (.cells #[.int .u8 x] 5)) (pv k) o (np k) (np k + t) _ zs (rowB_far (h1 k hk) fa (fun _ _ e => e)) (rowB_far hz fa (fun _ _ e => e)) (by omega) hz2 wr.heap.size (.int .u8 x) (by simp) rfl (by omega) ty
  have hno : ∀ b, b < w.heap.size → o.ownBlock = some b → (pv k).ownBlock = some b := fun b hb e => (h3 b e).elim id (fun h => absurd hb (Nat.not_lt.2 h))
  refine ⟨o', w', hr, ⟨fun i hi => ?_, ?_⟩, ⟨zs', r2, r3⟩, fun b e => ?_⟩
  · by_cases hik : i = k
    · subst hik; exact r1
    · exact rowB_far (rowB_far (h1 i hi) fa (fun _ _ e => e)) r4 (fun b eb eb2 => hik (hd i k b hi hk eb (hno b (hlo i b hi eb) eb2)))
  · refine far_trans (far_trans h2 fa (fun _ _ e => absurd e (fun e => e))) r4 (fun b hb e => ⟨k, hk, hno b hb e⟩)
  · rcases r5 b e with h | h
    · exact h3 b h
    · right; omega
theorem st2_zeros (hd : Dj pv) {k : Nat} {wr : World} (h : St2 pv np w wr) (hk : k < 2) (hn : np k ≤ 100000000) (ty : TypeId) :
    ∃ ao cap w', (Builtin.append_ #[25, 3] ty #[pv k, .int .i64 600]).run Try.prog wr = .ok (.slice ao (np k + 600) cap) w' ∧ St2 pv np w w' := by
  obtain ⟨ao, cap, w', hr, r1, r2⟩ := app_zeros wr (pv k) (np k) _ (h.1 k hk) (by omega) ty
  refine ⟨ao, cap, w', hr, fun i hi => ?_, far_trans h.2 r2 (fun b _ e => ⟨k, hk, e⟩)⟩
  by_cases hik : i = k
  · subst hik; exact r1
  · exact rowB_far (h.1 i hi) r2 (fun b eb eb2 => hik (hd i k b hi hk eb eb2))
theorem far_cell {L : Nat} (hL : ∀ i, i < 2 → w.cell? ⟨L, i, none⟩ = some (pv i)) (hS : ∀ i, i < 2 → (pv i).ownBlock ≠ some L) {wr : World} (h : Far (Sp pv) w wr) (i : Nat) (hi : i < 2) : wr.cell? ⟨L, i, none⟩ = some (pv i) := by
  have hlt := World.block_lt_of_cell? _ _ (hL i hi)
  rw [World.cell?_of_block (w := w) (h.2.2.2.2 L hlt (fun ⟨j, hj, e⟩ => hS j hj e))]
  exact hL i hi
end
set_option maxRecDepth 20000 in
set_option maxHeartbeats 8000000 in
theorem apartC (L : Nat) (pv : Nat → Value) (np : Nat → Nat) (w : World) (hL : ∀ i, i < 2 → w.cell? ⟨L, i, none⟩ = some (pv i)) (hS : ∀ i, i < 2 → (pv i).ownBlock ≠ some L)
    (hr : ∀ i, i < 2 → ∃ ys, RowB (pv i) (np i) ys w) (hd : Dj pv) (hn : ∀ i, i < 2 → np i ≤ 100000000) :
    Calls Try.prog 8 #[.slice (some ⟨L, 0, none⟩) 2 2] w fun e w' => e = .returned (.bool true) ∧ Far (Sp pv) w w' := by
  have LO : Hid (Lo pv w) := fun i b hi e => by obtain ⟨ys, h⟩ := hr i hi; exact (h.lt b e).2
  have D := hide' hd
  have NN := hide' hn
  have FC := hide' (fun (wr : World) (h : Far (Sp pv) w wr) (i : Nat) (hi : i < 2) => far_cell hL hS h i hi)
  have S0 := hide' (st1_start hr)
  clear hL hS hr hd hn
  go_enter Try.func8, Try.ntmps8
  go_wp2_with fail
  go_loopw [3] (fun i wr => ∃ k : Nat, k ≤ 2 ∧ i = .int .i64 k ∧ Hid (St1 pv np w k 0 wr)) (fun i _ => 2 - (intOf i).toNat)
  case atStart => exact ⟨0, by omega, rfl, S0⟩
  case round =>
    clear S0
    obtain ⟨k, hk, rfl, S1⟩ := hrel
    by_cases hlt : k < 2
    · have nk := NN.out k hlt
      obtain ⟨ys0, hy0, _⟩ := S1.out.1 k hlt
      obtain ⟨ao, cap, e, hao⟩ := rowB_form hy0
      have E := hide' e
      obtain ⟨n, en⟩ : ∃ n, n = np k := ⟨_, rfl⟩
      have EN := hide' en
      rw [← en] at nk hao
      clear hy0 e en
      go_wp2_with fail
      go_loopw [4] (fun i wr => ∃ t : Nat, t ≤ n ∧ i = .int .i64 t ∧ Hid (St1 pv np w k t wr)) (fun i _ => n - (intOf i).toNat)
      case atStart => exact ⟨0, by omega, rfl, S1⟩
      case round =>
        clear S1
        obtain ⟨t, ht, rfl, S1⟩ := hrel
        have cl := FC.out _ S1.out.2 k hlt
        rw [E.out, ← EN.out] at cl
        by_cases htn : t < n
        · obtain ⟨g, rfl⟩ := hao (by omega)
          obtain ⟨ys, hy, _⟩ := S1.out.1 k hlt
          have hyl := hy.1
          rw [E.out, ← EN.out] at hy
          obtain ⟨yv, c1⟩ : ∃ yv, wr.cell? ⟨g, t, none⟩ = some yv := by
            have c1 := hy.cellAt t (by omega)
            rw [List.getElem?_eq_getElem (by rw [hyl, ← EN.out]; omega)] at c1
            exact ⟨_, c1⟩
          have f1 := hy.frozenAt t
          have S2 := hide' (st1_store D.out S1.out hlt (by rw [← EN.out]; exact htn) E.out)
          unfold mkV at S2
          clear hy hyl
          go_wp2_with fail
          go_roundw
          case rel => exact ⟨t + 1, by omega, by go_num, S2⟩
          case measure => simp [intOf]; omega
        · obtain rfl : t = n := by omega
          have S2 := hide' (st1_next (pv := pv) (np := np) (w := w) (k := k) (by rw [← EN.out]; exact S1.out))
          go_wp2_with fail
          go_roundw
          case rel => exact ⟨k + 1, by omega, by go_num, S2⟩
          case measure => simp [intOf]; omega
    · have k2 : k = 2 := by omega
      have T1 := hide' (st2_of (pv := pv) (np := np) (w := w) (by rw [k2] at S1; exact S1.out))
      have ek : (k : Int) = 2 := by omega
      rw [ek]
      clear S1 hlt hk k2 ek
      go_wp2_with fail
      go_loopw [5] (fun i wr => ∃ k : Nat, k ≤ 2 ∧ i = .int .i64 k ∧ Hid (St2 pv np w wr)) (fun i _ => 2 - (intOf i).toNat)
      case atStart => exact ⟨0, by omega, rfl, T1⟩
      case round =>
        clear T1
        obtain ⟨k, hk, rfl, T1⟩ := hrel
        by_cases hlt : k < 2
        · have nk := NN.out k hlt
          obtain ⟨ao, cap, e, hao⟩ := rowB_form (T1.out.1 k hlt)
          have E := hide' e
          obtain ⟨n, en⟩ : ∃ n, n = np k := ⟨_, rfl⟩
          have EN := hide' en
          rw [← en] at nk hao
          have cl := FC.out _ T1.out.2 k hlt
          rw [E.out, ← EN.out] at cl
          have U1 := hide' (st3_start T1.out hlt)
          rw [E.out, ← EN.out] at U1
          clear e en T1
          go_wp2_with fail
          have hdk : decide ((k : Int) < 2) = true := decide_eq_true (by omega)
          rw [hdk]
          clear hdk
          go_loopw [6, 7] (fun o i wr => ∃ (t : Nat) (u : Value), u = o ∧ t ≤ 16 ∧ i = .int .i64 t ∧ Hid (St3 pv np w k t u wr)) (fun _ i _ => 16 - (intOf i).toNat)
          case atStart => exact ⟨0, _, rfl, by omega, rfl, U1⟩
          case round =>
            clear U1 cl
            obtain ⟨t, u, rfl, ht, rfl, U⟩ := hrel
            by_cases ht16 : t < 16
            · obtain ⟨o', w', hr, hst⟩ := st3_step D.out LO.out U.out hlt (NN.out k hlt) ht (128 + (k : Int)) 25
              have HR := hide' hr
              have HS := hide' hst
              clear hr hst
              go_wp2_with (at_builtin; refine Lib.wpList_append_run _ rfl (.tmp 50) (.tmp 54) _ _ rfl _ _ rfl rfl o' w' HR.out ?_)
              go_roundw
              case rel => exact ⟨t + 1, _, rfl, by omega, by go_num, HS⟩
              case measure => simp [intOf]; omega
            · obtain rfl : t = 16 := by omega
              have T1 := hide' U.out.1
              have cl := FC.out _ T1.out.2 k hlt
              rw [E.out, ← EN.out] at cl
              obtain ⟨zs, hz, _⟩ := U.out.2.1
              obtain ⟨ao2, cap2, rfl, _⟩ := rowB_form hz
              rw [← EN.out]
              obtain ⟨ao3, cap3, w3, hr3, hs3⟩ := st2_zeros D.out T1.out hlt (NN.out k hlt) 25
              rw [E.out, ← EN.out] at hr3
              have HR := hide' hr3
              have T3 := hide' hs3
              have cl3 := FC.out _ T3.out.2 k hlt
              rw [E.out, ← EN.out] at cl3
              clear hz hr3 hs3 U
              go_wp2_with (at_builtin; refine Lib.wpList_append_run _ rfl (.tmp 60) _ _ _ rfl _ _ rfl rfl _ w3 HR.out ?_)
              go_roundw
              case rel => exact ⟨k + 1, by omega, by go_num, T3⟩
              case measure => simp [intOf]; omega
        · have ek : (k : Int) = 2 := by omega
          rw [ek]
          clear hlt hk ek
          go_wp2_with fail
          go_loopw [9] (fun i wr => ∃ k : Nat, k ≤ 2 ∧ i = .int .i64 k ∧ Hid (St2 pv np w wr)) (fun i _ => 2 - (intOf i).toNat)
          case atStart => exact ⟨0, by omega, rfl, T1⟩
          case round =>
            clear T1
            obtain ⟨k, hk, rfl, T1⟩ := hrel
            by_cases hlt : k < 2
            · have nk := NN.out k hlt
              obtain ⟨ao, cap, e, hao⟩ := rowB_form (T1.out.1 k hlt)
              have E := hide' e
              obtain ⟨n, en⟩ : ∃ n, n = np k := ⟨_, rfl⟩
              have EN := hide' en
              rw [← en] at nk hao
              clear e en
              go_wp2_with fail
              go_loopw [10] (fun i wr => ∃ t : Nat, t ≤ n ∧ i = .int .i64 t ∧ Hid (St2 pv np w wr)) (fun i _ => n - (intOf i).toNat)
              case atStart => exact ⟨0, by omega, rfl, T1⟩
              case round =>
                clear T1
                obtain ⟨t, ht, rfl, T1⟩ := hrel
                have cl := FC.out _ T1.out.2 k hlt
                rw [E.out, ← EN.out] at cl
                by_cases htn : t < n
                · obtain ⟨g, rfl⟩ := hao (by omega)
                  have hy := T1.out.1 k hlt
                  rw [E.out, ← EN.out] at hy
                  have c1 := hy.cellAt t (by omega)
                  rw [List.getElem?_eq_getElem (by simp; omega), List.getElem_replicate] at c1
                  unfold mkV at c1
                  clear hy
                  go_wp2_with fail
                  go_roundw
                  case rel => exact ⟨t + 1, by omega, by go_num, T1⟩
                  case measure => simp [intOf]; omega
                · obtain rfl : t = n := by omega
                  go_wp2_with fail
                  go_roundw
                  case rel => exact ⟨k + 1, by omega, by go_num, T1⟩
                  case measure => simp [intOf]; omega
            · have ek : (k : Int) = 2 := by omega
              rw [ek]
              clear hlt hk ek
              go_wp2_with fail
              go_ret
              exact ⟨rfl, T1.out.2⟩
end Go.Proofs.Ytnbidckmekmcfab
