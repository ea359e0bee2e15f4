/- The contracts of Get and of the document's Get. -/
import Derived.Test.YtikokjclhpgocabDoorFdV
import Derived.Test.YtikokjclhpgocabDoorShelfB
import Derived.Test.YtikokjclhpgocabDoorBm
namespace Go.Proofs.YtikokjclhpgocabDoor
open Go.RowKit
theorem Tryd.Builder_Extra_156 : Builder.Extra Tryd.prog Tryd.lays156_ren where
  sizeBuilder := by kernel_rfl
  liesBuilder := by kernel_rfl
  t5 := Tryd.underlying5
  a5 := Tryd.isAgg5
  z5 := Tryd.sizeOf5
  v5 := Tryd.zeroValue5
  infoByte := by kernel_rfl
  cellsByte := by kernel_rfl
  sizeByte := by kernel_rfl
  neB5 := by decide
def joinOf (vs : List (List UInt8)) : List UInt8 := Lib.join vs [44, 32]
theorem tail_len (r : List (List UInt8)) : (Lib.joinTail [44, 32] r).length ≤ 2 * bulkT r := by
  induction r with
  | nil => simp [Lib.joinTail]
  | cons x r ih =>
    have e : Lib.joinTail [44, 32] (x :: r) = [44, 32] ++ x ++ Lib.joinTail [44, 32] r := by simp [Lib.joinTail]
    rw [e]
    simp only [List.length_append, List.length_cons, List.length_nil, bulkT]
    omega
theorem join_len (vs : List (List UInt8)) : (joinOf vs).length ≤ 2 * bulkT vs := by
  cases vs with
  | nil => simp [joinOf, Lib.join_nil]
  | cons x r =>
    unfold joinOf
    rw [Lib.join_cons, List.length_append]
    have := tail_len r
    simp only [bulkT]
    omega
theorem join_zero (vs : List (List UInt8)) : joinOf (vs.take 0) = [] := by simp [joinOf, Lib.join_nil]
theorem join_first (vs : List (List UInt8)) (h : 0 < vs.length) : joinOf (vs.take 1) = vs[0] := by
  cases vs with
  | nil => simp at h
  | cons x r => simp [joinOf, Lib.join_one]
theorem join_next (vs : List (List UInt8)) (k : Nat) (h : k < vs.length) (hk : 0 < k) : joinOf (vs.take (k + 1)) = joinOf (vs.take k) ++ [44, 32] ++ vs[k] := by
  cases vs with
  | nil => simp at h
  | cons x r =>
    obtain ⟨m, rfl⟩ : ∃ m, k = m + 1 := ⟨k - 1, by omega⟩
    unfold joinOf
    rw [List.take_succ_cons, List.take_succ_cons, Lib.join_cons, Lib.join_cons, Lib.joinTail_take_succ [44, 32] r m (r[m]'(by simpa using h)) (List.getElem?_eq_getElem _)]
    simp
theorem ba_of {s : ByteArray} {l : List UInt8} (h : s.data.toList = l) : s = ⟨l.toArray⟩ := by cases s; simp at h; simp [← h]
theorem joinCB (w1 wr : World) (F : List (List UInt8)) (u : Value) (hown : OwnS w1 u F wr) (hlen : bulkT F ≤ 9000000) :
    Calls Tryd.prog 28 #[u, .string ⟨#[44, 32]⟩] wr fun e w' => e = .returned (.string ⟨(joinOf F).toArray⟩) ∧ Below wr.heap.size wr w' := by
  have hF := bulkT_len F
  have hj := join_len F
  have em : (F.map (fun l => (⟨l.toArray⟩ : ByteArray))).map (·.data.toList) = F := by
    rw [List.map_map]
    conv => rhs; rw [← List.map_id F]
    exact List.map_congr_left (fun l _ => by simp)
  obtain ⟨hl, h1 | ⟨g, cap, cur, rfl, hg, hh, hr⟩⟩ := hown.1
  · obtain ⟨rfl, hn⟩ := h1
    obtain rfl : F = [] := List.eq_nil_of_length_eq_zero hn
    refine (Any.strings_Join_none Tryd.lays156 Tryd.Builder_Extra_156 none 0 ⟨#[44, 32]⟩ wr).mono ?_
    rintro e w' ⟨rfl, rfl⟩
    exact ⟨rfl, Below.refl _ _⟩
  · have hlt := hown.1.lt g rfl
    have c := Any.strings_Join Tryd.lays156 Tryd.Builder_Extra_156 g 0 cap (F.map (fun l => (⟨l.toArray⟩ : ByteArray))) ⟨#[44, 32]⟩ wr (by
      intro j x hx
      have h2 : j < F.length := by
        have := (List.getElem?_eq_some_iff.1 hx).1
        simpa using this
      rw [Nat.zero_add, hown.1.cellAt j (by omega)]
      rw [List.getElem?_map, List.getElem?_eq_getElem h2] at hx ⊢
      simp only [Option.map_some, Option.some.injEq] at hx ⊢
      rw [← hx]; rfl) hlt.2 (by rw [List.length_map]; omega) (by rw [List.length_map]; exact hr.1) (by rw [em]; show (joinOf F).length ≤ _; omega)
    rw [em, List.length_map] at c
    exact c
theorem joinC (w1 wr : World) (F : List (List UInt8)) (u : Value) (hown : OwnS w1 u F wr) (hlen : bulkT F ≤ 1048576) :
    Calls Tryd.prog 28 #[u, .string ⟨#[44, 32]⟩] wr fun e w' => e = .returned (.string ⟨(joinOf F).toArray⟩) ∧ Below wr.heap.size wr w' := joinCB w1 wr F u hown (by omega)
set_option maxHeartbeats 1000000 in
theorem getTokB (v : Value) (fs : FL) (nm : List UInt8) (w : World) (hv : HoldsF w v fs) (hb : bulkF fs ≤ 9000000) (hn : nm.length ≤ 1048576) :
    Calls Tryd.prog 15 #[v, .string ⟨nm.toArray⟩] w fun e w' => e = .returned (.tuple #[.string ⟨(joinOf (valsOf fs nm)).toArray⟩, .bool (decide (0 < (valsOf fs nm).length))]) ∧ Below w.heap.size w w' := by
  have hfl := bulkF_len fs
  have cV := hide' (valuesTok v fs nm w hv (fun f hf => by have := bulkF_mem fs f hf; omega) (by omega) (by omega))
  have hbv := bulk_vals fs nm
  have hlv := bulkT_len (valsOf fs nm)
  clear hv
  generalize valsOf fs nm = vs at cV hbv hlv ⊢
  obtain ⟨jv, ej⟩ : ∃ jv, jv = joinOf vs := ⟨_, rfl⟩
  have EJ := hide' ej
  rw [← ej]
  clear ej
  go_enter Tryd.func15, Tryd.ntmps15
  go_wp2_with fail
  refine cV.out.mono ?_
  rintro e w1 ⟨u, rfl, ho⟩
  have cJ := hide' (joinCB w w1 vs u ho (by omega))
  obtain ⟨ao, ca, b, o, hu, _⟩ := holds_parts (holds_own ho)
  have B1 := hide' ho.2
  rw [hu] at cJ ⊢
  clear ho cV hu
  rw [← EJ.out] at cJ
  go_wp2_with fail
  refine cJ.out.mono ?_
  rintro e w2 ⟨rfl, b2⟩
  have B2 := hide' (bt' B1.out b2)
  clear b2 cJ B1
  go_wp2_with fail
  go_ret2
  exact ⟨rfl, B2.out⟩
theorem getTok (v : Value) (fs : FL) (nm : List UInt8) (w : World) (hv : HoldsF w v fs) (hb : bulkF fs ≤ 1048576) (hn : nm.length ≤ 1048576) :
    Calls Tryd.prog 15 #[v, .string ⟨nm.toArray⟩] w fun e w' => e = .returned (.tuple #[.string ⟨(joinOf (valsOf fs nm)).toArray⟩, .bool (decide (0 < (valsOf fs nm).length))]) ∧ Below w.heap.size w w' := getTokB v fs nm w hv (by omega) hn
set_option maxHeartbeats 2000000 in
theorem getRef (v : Value) (fs : FL) (nm : List UInt8) (w : World) (hv : HoldsF w v fs) (hb : bulkF fs ≤ 1048576) (hn : nm.length ≤ 1048576) :
    Calls Tryd.prog 19 #[v, .string ⟨nm.toArray⟩] w fun e w' => e = .returned (.tuple #[.string ⟨(joinOf (valsOf fs nm)).toArray⟩, .bool (decide (0 < (valsOf fs nm).length))]) ∧ Below w.heap.size w w' := by
  have hfl := bulkF_len fs
  have cV := hide' (valuesRef v fs nm w hv (fun f hf => by have := bulkF_mem fs f hf; omega) (by omega) (by omega))
  have hbv := bulk_vals fs nm
  have hlv := bulkT_len (valsOf fs nm)
  clear hv
  generalize valsOf fs nm = vs at cV hbv hlv ⊢
  have JL : Hid (∀ k, (joinOf (vs.take k)).length ≤ 2097152) := fun k => by
    have h1 := join_len (vs.take k)
    have h2 := bulkT_take vs k
    omega
  have MM : Hid _ := bulkT_mem vs
  go_enter Tryd.func19, Tryd.ntmps19
  go_wp2_with fail
  refine cV.out.mono ?_
  rintro e w1 ⟨u, rfl, ho⟩
  obtain ⟨ao, ca, b, o, hu, hc⟩ := holds_parts (holds_own ho)
  have B1 := hide' ho.2
  have C := hide' hc
  rw [hu]
  clear ho cV hu hc
  obtain ⟨n, en⟩ : ∃ n, n = vs.length := ⟨_, rfl⟩
  have N : Hid (vs.length = n) := en.symm
  rw [N.out] at hlv ⊢
  clear en
  go_wp2_with fail
  go_loop [7, 8] (fun ov iv => ∃ (k : Nat) (s : ByteArray), k ≤ n ∧ iv = .int .i64 k ∧ ov = .string s ∧ Hid (s.data.toList = joinOf (vs.take k)) ∧ s.size ≤ 2097152) (fun _ iv => n - (intOf iv).toNat)
  case atStart => exact ⟨0, ⟨#[]⟩, Nat.zero_le _, rfl, rfl, (join_zero vs).symm, by decide⟩
  case round =>
    obtain ⟨k, s, hk, rfl, rfl, E, hs⟩ := hrel
    by_cases hlt : k < n
    · have G : Hid (k < vs.length) := by unfold Hid; rw [N.out]; exact hlt
      obtain ⟨hao, hblt, hcell⟩ := C.out (by have := G.out; omega)
      subst hao
      have ck := hcell k G.out
      unfold S at ck
      have hx := MM.out _ (List.getElem_mem G.out)
      have jl := JL.out (k + 1)
      clear hcell
      by_cases hk0 : 0 < k
      · have R : Hid (joinOf (vs.take (k + 1)) = joinOf (vs.take k) ++ [44, 32] ++ vs[k]'G.out) := join_next vs k G.out hk0
        generalize vs[k]'G.out = q at ck hx R
        have zx : (⟨q.toArray⟩ : ByteArray).size ≤ 1048576 := by rw [size_l]; omega
        have zz : ((s ++ (⟨#[44, 32]⟩ : ByteArray)) ++ (⟨q.toArray⟩ : ByteArray)).size = (joinOf (vs.take (k + 1))).length := by
          have h1 := ByteArray.size_append (a := s) (b := (⟨#[44, 32]⟩ : ByteArray))
          have h2 := ByteArray.size_append (a := s ++ (⟨#[44, 32]⟩ : ByteArray)) (b := (⟨q.toArray⟩ : ByteArray))
          have h3 : (⟨#[44, 32]⟩ : ByteArray).size = 2 := rfl
          have h4 := size_l q
          have e3 : s.data.toList.length = s.size := by simp
          rw [R.out, List.length_append, List.length_append, ← E.out, e3, h2, h1, h3, h4]
          rfl
        go_wp2_with fail
        go_round
        case rel => exact ⟨k + 1, _, by omega, by go_num, rfl, by unfold Hid; rw [R.out, ← E.out]; simp [ByteArray.data_append], by omega⟩
        case measure => simp [intOf]; omega
      · have hk1 : decide ((0 : Int) < k) = false := by simp; omega
        have ke : k = 0 := by omega
        have R : Hid (joinOf (vs.take (k + 1)) = vs[k]'G.out) := by unfold Hid; subst ke; exact join_first vs G.out
        have E0 : Hid (s.data.toList = []) := by unfold Hid; rw [E.out, ke]; exact join_zero vs
        generalize vs[k]'G.out = q at ck hx R
        have zx : (⟨q.toArray⟩ : ByteArray).size ≤ 1048576 := by rw [size_l]; omega
        have zz : (s ++ (⟨q.toArray⟩ : ByteArray)).size = (joinOf (vs.take (k + 1))).length := by
          have e2 : s.size = 0 := by
            have e3 : s.data.toList.length = s.size := by simp
            rw [← e3, E0.out]; rfl
          have h2 := ByteArray.size_append (a := s) (b := (⟨q.toArray⟩ : ByteArray))
          have h4 := size_l q
          rw [R.out]
          omega
        clear ke hk1
        go_wp2_with fail
        go_round
        case rel => exact ⟨k + 1, _, by omega, by go_num, rfl, by unfold Hid; rw [R.out]; simp [ByteArray.data_append, E0.out], by omega⟩
        case measure => simp [intOf]; omega
    · have E2 : Hid (vs.take k = vs) := List.take_of_length_le (by rw [N.out]; omega)
      rw [E2.out] at E
      have RS := hide' (ba_of E.out)
      go_wp2_with fail
      go_ret2
      rw [← RS.out, N.out]
      exact ⟨rfl, B1.out⟩
end Go.Proofs.YtikokjclhpgocabDoor
