/- The walk of VarySorted. -/
import Derived.Test.YtmibgcbolnpffaaDoorVrA
import Derived.Test.YtmibgcbolnpffaaDoorLsP
namespace Go.Proofs.YtmibgcbolnpffaaDoor
open Go.RowKit
theorem partsV_l (a b : ByteArray) : ((a ++ ⟨#[44]⟩) ++ b).data.toList = a.data.toList ++ 44 :: b.data.toList := by simp [ByteArray.data_append]
theorem litV1 (w : World) (x y : ByteArray) : HoldsF (w.alloc (.cells #[.string x, .string y] 43)) (.slice (some ⟨w.heap.size, 0, none⟩) 1 1) [(x.data.toList, y.data.toList)] := by
  have h := holdsF_lit1 w x.data.toList y.data.toList
  unfold S at h
  rw [ba_eta, ba_eta] at h
  exact h
theorem words_one (x : List UInt8) : wordsV [(varyN, x)] = (listOf x).map lows := by
  unfold wordsV toksOf valsOf
  simp
theorem words_turn (a b : List UInt8) (ha : ∀ x ∈ a, ¬ (x.toNat : Int) = 34) (hb : ∀ x ∈ b, ¬ (x.toNat : Int) = 34) (z : Nm) : z ∈ wordsV [(varyN, a ++ 44 :: b)] ↔ z ∈ wordsV [(varyN, b ++ 44 :: a)] := by
  rw [words_one, words_one, listOf_parts a b ha, listOf_parts b a hb, List.map_append, List.map_append, List.mem_append, List.mem_append]
  exact Or.comm
theorem names_turn (a b : List UInt8) (ha : ∀ x ∈ a, ¬ (x.toNat : Int) = 34) (hb : ∀ x ∈ b, ¬ (x.toNat : Int) = 34) : namesB [(varyN, b ++ 44 :: a)] = namesB [(varyN, a ++ 44 :: b)] ∧ namesV [(varyN, b ++ 44 :: a)] = namesV [(varyN, a ++ 44 :: b)] := by
  have h := words_turn a b ha hb
  have e1 : namesB [(varyN, b ++ 44 :: a)] = namesB [(varyN, a ++ 44 :: b)] := by
    unfold namesB
    have h2 := h ([42] : Nm)
    by_cases hc : ([42] : Nm) ∈ wordsV [(varyN, a ++ 44 :: b)]
    · simp [hc, h2.1 hc]
    · simp [hc, mt h2.2 hc]
  refine ⟨e1, ?_⟩
  unfold namesV
  rw [e1, uniq_same (fun z => (h z).symm)]
theorem ris_names (fs : FL) : Ris (namesV fs) := by
  unfold namesV
  split
  · exact ris_uniq _
  · exact List.Pairwise.nil
theorem wrap_smallV (x : Int) (h1 : -9223372036854775808 ≤ x) (h2 : x ≤ 9223372036854775807) : IntKind.i64.wrap x = x := by rw [IntKind.wrap_i64]; omega
theorem bulk_one (x : List UInt8) : bulkF [(varyN, x)] = x.length + 7 := by simp [bulkF, varyN]; omega
set_option maxHeartbeats 4000000 in
set_option maxRecDepth 20000 in
theorem sortedW (a b : ByteArray) (w : World) (hs : a.size + b.size ≤ 1048576) :
    Calls Tryd.prog 8 #[.string a, .string b] w fun e w' => e = .returned (.bool true) ∧ Below w.heap.size w w' := by
  have c0 := hide' (aliveV w)
  have la : a.data.toList.length = a.size := by simp
  have lb : b.data.toList.length = b.size := by simp
  have hb1 : bulkF [(varyN, a.data.toList ++ 44 :: b.data.toList)] ≤ 2000000 := by rw [bulk_one, List.length_append, List.length_cons]; omega
  have hb2 : bulkF [(varyN, b.data.toList ++ 44 :: a.data.toList)] ≤ 2000000 := by rw [bulk_one, List.length_append, List.length_cons]; omega
  have z1 : ((a ++ (⟨#[44]⟩ : ByteArray)) ++ b).size = a.size + 1 + b.size := by
    rw [ByteArray.size_append, ByteArray.size_append]; rfl
  have z2 : ((b ++ (⟨#[44]⟩ : ByteArray)) ++ a).size = b.size + 1 + a.size := by
    rw [ByteArray.size_append, ByteArray.size_append]; rfl
  have hnl : (namesV [(varyN, a.data.toList ++ 44 :: b.data.toList)]).length ≤ 2000000 := by have h1 := bulk_names [(varyN, a.data.toList ++ 44 :: b.data.toList)]; have h2 := bulkT_len (namesV [(varyN, a.data.toList ++ 44 :: b.data.toList)]); omega
  have c1 := hide' (fun (W : World) => (show Calls Tryd.prog 11 #[.slice (some ⟨W.heap.size, 0, none⟩) 1 1] (W.alloc (.cells #[.string ⟨#[86, 97, 114, 121]⟩, .string ((a ++ ⟨#[44]⟩) ++ b)] 43)) _ from by
    have h := litV1 W ⟨#[86, 97, 114, 121]⟩ ((a ++ ⟨#[44]⟩) ++ b)
    rw [partsV_l] at h
    exact namesCB _ [(varyN, a.data.toList ++ 44 :: b.data.toList)] _ h hb1))
  have c2 := hide' (fun (hqa : ∀ x ∈ a.data.toList, ¬ (x.toNat : Int) = 34) (hqb : ∀ x ∈ b.data.toList, ¬ (x.toNat : Int) = 34) (W : World) => (show Calls Tryd.prog 11 #[.slice (some ⟨W.heap.size, 0, none⟩) 1 1] (W.alloc (.cells #[.string ⟨#[86, 97, 114, 121]⟩, .string ((b ++ ⟨#[44]⟩) ++ a)] 43)) (fun e w' => ∃ u, e = .returned (.tuple #[u, .bool (namesB [(varyN, a.data.toList ++ 44 :: b.data.toList)])]) ∧ OwnS (W.alloc (.cells #[.string ⟨#[86, 97, 114, 121]⟩, .string ((b ++ ⟨#[44]⟩) ++ a)] 43)) u (namesV [(varyN, a.data.toList ++ 44 :: b.data.toList)]) w') from by
    have h := litV1 W ⟨#[86, 97, 114, 121]⟩ ((b ++ ⟨#[44]⟩) ++ a)
    rw [partsV_l] at h
    obtain ⟨e1, e2⟩ := names_turn _ _ hqa hqb
    rw [← e1, ← e2]
    exact namesCB _ [(varyN, b.data.toList ++ 44 :: a.data.toList)] _ h hb2))
  have RS := hide' (ris_names [(varyN, a.data.toList ++ 44 :: b.data.toList)])
  generalize namesB [(varyN, a.data.toList ++ 44 :: b.data.toList)] = nb at c1 c2
  generalize namesV [(varyN, a.data.toList ++ 44 :: b.data.toList)] = nv at c1 c2 RS hnl
  clear la lb hb1 hb2
  have hsa : a.size ≤ 1048576 := by omega
  have hsb : b.size ≤ 1048576 := by omega
  go_enter Tryd.func8, Tryd.ntmps8
  go_wp2_with fail
  refine c0.out.mono ?_
  rintro e w1 ⟨rfl, bw⟩
  have B1 := hide' bw
  clear bw c0
  go_wp2_with fail
  go_loop [5] (fun i => ∃ k : Nat, k ≤ a.size ∧ i = .int .i64 k ∧ Hid (∀ j (hj : j < a.size), j < k → ¬ (a[j].toNat : Int) = 34)) (fun i => a.size - (intOf i).toNat)
  case atStart => exact ⟨0, Nat.zero_le _, rfl, fun j h hj => absurd hj (by omega)⟩
  case round =>
    obtain ⟨k, hk, rfl, A⟩ := hrel
    by_cases hlt : k < a.size
    · have hb := byte_lt a[k]
      by_cases he : (a[k].toNat : Int) = 34
      · go_wp2_with fail
        go_ret
        exact ⟨rfl, B1.out⟩
      · have A2 : Hid (∀ j (hj : j < a.size), j < k + 1 → ¬ (a[j].toNat : Int) = 34) := by
          intro j h hj
          by_cases hjk : j = k
          · subst hjk; exact he
          · exact A.out j h (by omega)
        clear A
        go_wp2_with fail
        go_round
        case rel => exact ⟨k + 1, by omega, by go_num, A2⟩
        case measure => simp [intOf]; omega
    · have hqa : Hid (∀ x ∈ a.data.toList, ¬ (x.toNat : Int) = 34) := by
        intro x hx
        obtain ⟨j, hj, rfl⟩ := List.getElem_of_mem hx
        have hj' : j < a.size := by simpa using hj
        exact A.out j hj' (by omega)
      clear A
      go_wp2_with fail
      go_loop [6] (fun i => ∃ k : Nat, k ≤ b.size ∧ i = .int .i64 k ∧ Hid (∀ j (hj : j < b.size), j < k → ¬ (b[j].toNat : Int) = 34)) (fun i => b.size - (intOf i).toNat)
      case atStart => exact ⟨0, Nat.zero_le _, rfl, fun j h hj => absurd hj (by omega)⟩
      case round =>
        obtain ⟨k2, hk2, rfl, A⟩ := hrel
        by_cases hlt2 : k2 < b.size
        · have hb := byte_lt b[k2]
          by_cases he : (b[k2].toNat : Int) = 34
          · go_wp2_with fail
            go_ret
            exact ⟨rfl, B1.out⟩
          · have A2 : Hid (∀ j (hj : j < b.size), j < k2 + 1 → ¬ (b[j].toNat : Int) = 34) := by
              intro j h hj
              by_cases hjk : j = k2
              · subst hjk; exact he
              · exact A.out j h (by omega)
            clear A
            go_wp2_with fail
            go_round
            case rel => exact ⟨k2 + 1, by omega, by go_num, A2⟩
            case measure => simp [intOf]; omega
        · have hqb : Hid (∀ x ∈ b.data.toList, ¬ (x.toNat : Int) = 34) := by
            intro x hx
            obtain ⟨j, hj, rfl⟩ := List.getElem_of_mem hx
            have hj' : j < b.size := by simpa using hj
            exact A.out j hj' (by omega)
          clear A
          replace c2 := hide' (c2.out hqa.out hqb.out)
          clear hqa hqb
          go_wp2_with fail
          refine (c1.out w1).mono ?_
          rintro e w2 ⟨u2, rfl, ho2⟩
          have B2 := hide' (bt' B1.out (bt' (below_alloc' w1 _) ho2.2))
          have T2 := hide' (holds_own ho2)
          obtain ⟨ma, mc, mb, mo, hu2, hc2⟩ := holds_parts (holds_own ho2)
          have D2 := hide' hc2
          rw [hu2] at T2 ⊢
          clear ho2 hu2 hc2 B1 c1
          go_wp2_with fail
          refine (c2.out w2).mono ?_
          rintro e w3 ⟨u3, rfl, ho3⟩
          have B3 := hide' (bt' B2.out (bt' (below_alloc' w2 _) ho3.2))
          have G3 := hide' (bt' (below_alloc' w2 _) ho3.2)
          have T3 := hide' (holds_mono T2.out (bt' (below_alloc' w2 _) ho3.2))
          have R3 := hide' (holds_own ho3)
          obtain ⟨na, nc, _, _, hu3, _⟩ := holds_parts (holds_own ho3)
          rw [hu3] at R3 ⊢
          clear ho3 hu3 B2 T2 c2
          have c4 := hide' (fun W (h : Below w3.heap.size w3 W) => sameTv _ _ nv W (holds_mono T3.out h) (holds_mono R3.out h) (by omega))
          clear T3 R3
          obtain ⟨n, en⟩ : ∃ n, n = nv.length := ⟨_, rfl⟩
          have N : Hid (nv.length = n) := en.symm
          rw [N.out] at hnl c4 ⊢
          clear en
          go_wp2_with fail
          go_loopw [11] (fun i wr => ∃ j p : Nat, j = p + 1 ∧ p ≤ n ∧ i = .int .i64 (j : Int) ∧ Hid (Below w3.heap.size w3 wr)) (fun i _ => n + 1 - (intOf i).toNat)
          case atStart => exact ⟨1, 0, rfl, by omega, rfl, Below.refl _ _⟩
          case round =>
            obtain ⟨j, p, ej, hp, rfl, HW⟩ := hrel
            have EJ := hide' ej
            have hj1 : 1 ≤ j := by omega
            have hjn : j ≤ n + 1 := by omega
            by_cases hjt : j < n
            · have Gj : Hid (j < nv.length) := by unfold Hid; rw [N.out]; exact hjt
              have Gp : Hid (p < nv.length) := by unfold Hid; rw [N.out]; omega
              obtain ⟨hma, hmb, hcell⟩ := D2.out (by have := Gj.out; omega)
              subst hma
              have x1 : wr.cell? ⟨mb, mo + j, none⟩ = some (.string ⟨(nv[j]'Gj.out).toArray⟩) := by
                rw [(bt' G3.out HW.out).cell (p := ⟨mb, mo + j, none⟩) hmb]; exact hcell j Gj.out
              have x0 : wr.cell? ⟨mb, mo + p, none⟩ = some (.string ⟨(nv[p]'Gp.out).toArray⟩) := by
                rw [(bt' G3.out HW.out).cell (p := ⟨mb, mo + p, none⟩) hmb]; exact hcell p Gp.out
              have hl := List.pairwise_iff_getElem.1 RS.out p j Gp.out Gj.out (by omega)
              clear hcell
              generalize nv[j]'Gj.out = y1 at x1 hl
              generalize nv[p]'Gp.out = y0 at x0 hl
              have hr : ∀ W, Sem.run Tryd.prog (binOp .leq 9 (.string ⟨y1.toArray⟩) (.string ⟨y0.toArray⟩)) W = .ok (.bool false) W := fun W => by
                show Result.ok (Value.bool (Op.bytesLess (⟨y1.toArray⟩ : ByteArray).toList (⟨y0.toArray⟩ : ByteArray).toList || (⟨y1.toArray⟩ : ByteArray).toList == (⟨y0.toArray⟩ : ByteArray).toList)) W = _
                have h1 : Op.bytesLess y1 y0 = false := less_asymm _ _ hl
                have h2 : (y1 == y0) = false := by
                  simp only [beq_eq_false_iff_ne, ne_eq]
                  intro e; rw [e, less_irrefl] at hl; cases hl
                rw [Lib.toList_data, Lib.toList_data]
                show Result.ok (Value.bool (Op.bytesLess y1 y0 || y1 == y0)) W = _
                rw [h1, h2]; rfl
              clear hl
              have qw : IntKind.i64.wrap ((j : Int) - 1) = (p : Int) := by rw [wrap_smallV _ (by omega) (by omega)]; omega
              have hj0 : (0 : Int) ≤ (j : Int) := by omega
              have hj2 : (j : Int) < (n : Int) := by omega
              have hp0 : (0 : Int) ≤ (p : Int) := by omega
              have hp2 : (p : Int) < (n : Int) := by omega
              clear ej
              go_wp2_with fail
              go_quiet (fail)
              have HW2 := hide' (bt' HW.out (below_drewN _ nq))
              generalize World.drewN _ nq = W5 at HW2 ⊢
              clear x0 x1 hr qw
              go_wp2_with fail
              go_roundw
              case rel => exact ⟨j + 1, p + 1, by have := EJ.out; omega, by omega, by go_num, HW2⟩
              case measure => simp [intOf]; omega
            · have c5 := hide' (c4.out wr HW.out)
              clear ej
              go_wp2_with fail
              refine c5.out.mono ?_
              rintro e w9 ⟨rfl, b9⟩
              have B9 := hide' (bt' (bt' B3.out HW.out) b9)
              clear b9
              go_wp2_with fail
              go_ret
              exact ⟨rfl, B9.out⟩
end Go.Proofs.YtmibgcbolnpffaaDoor
