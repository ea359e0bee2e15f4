/- The contracts of Get and of the document's Get. -/
import Derived.Test.YtnjfahidcbglpaaDoorFdV
import Derived.Test.YtnjfahidcbglpaaDoorShelfB
import Derived.Test.YtnjfahidcbglpaaDoorOpnF
namespace Go.Proofs.YtnjfahidcbglpaaDoor
open Go.RowKit
theorem Tryd.Builder_Extra_156 : Builder.Extra Tryd.prog Tryd.lays156_ren where
  sizeBuilder := by kernel_rfl
  liesBuilder := by kernel_rfl
  t5 := Tryd.underlying5
  a5 := Tryd.isAgg5
  z5 := Tryd.sizeOf5
  v5 := Tryd.zeroValue5
  infoByte := by kernel_rfl
  cellsByte := by kernel_rfl
  sizeByte := by kernel_rfl
  neB5 := by decide
def joinOf (vs : List (List UInt8)) : List UInt8 := Lib.join vs [44, 32]
theorem bulk_vals (fs : FL) (n : List UInt8) : bulkT (valsOf fs n) ≤ bulkF fs := by
  induction fs with
  | nil => simp [valsOf, bulkT]
  | cons f r ih =>
    unfold valsOf at ih ⊢
    simp only [bulkF, List.filter_cons]
    split
    · simp only [List.map_cons, bulkT]; omega
    · omega
theorem bulkT_take (vs : List (List UInt8)) : ∀ k, bulkT (vs.take k) ≤ bulkT vs := by
  induction vs with
  | nil => intro k; simp
  | cons v r ih =>
    intro k
    cases k with
    | zero => simp [bulkT]
    | succ k => have := ih k; simp only [List.take_succ_cons, bulkT]; omega
theorem tail_len (r : List (List UInt8)) : (Lib.joinTail [44, 32] r).length ≤ 2 * bulkT r := by
  induction r with
  | nil => simp [Lib.joinTail]
  | cons x r ih =>
    have e : Lib.joinTail [44, 32] (x :: r) = [44, 32] ++ x ++ Lib.joinTail [44, 32] r := by simp [Lib.joinTail]
    rw [e]
    simp only [List.length_append, List.length_cons, List.length_nil, bulkT]
    omega
theorem join_len (vs : List (List UInt8)) : (joinOf vs).length ≤ 2 * bulkT vs := by
  cases vs with
  | nil => simp [joinOf, Lib.join_nil]
  | cons x r =>
    unfold joinOf
    rw [Lib.join_cons, List.length_append]
    have := tail_len r
    simp only [bulkT]
    omega
theorem join_zero (vs : List (List UInt8)) : joinOf (vs.take 0) = [] := by simp [joinOf, Lib.join_nil]
theorem join_first (vs : List (List UInt8)) (h : 0 < vs.length) : joinOf (vs.take 1) = vs[0] := by
  cases vs with
  | nil => simp at h
  | cons x r => simp [joinOf, Lib.join_one]
theorem join_next (vs : List (List UInt8)) (k : Nat) (h : k < vs.length) (hk : 0 < k) : joinOf (vs.take (k + 1)) = joinOf (vs.take k) ++ [44, 32] ++ vs[k] := by
  cases vs with
  | nil => simp at h
  | cons x r =>
    obtain ⟨m, rfl⟩ : ∃ m, k = m + 1 := ⟨k - 1, by omega⟩
    unfold joinOf
    rw [List.take_succ_cons, List.take_succ_cons, Lib.join_cons, Lib.join_cons, Lib.joinTail_take_succ [44, 32] r m (r[m]'(by simpa using h)) (List.getElem?_eq_getElem _)]
    simp
theorem ba_of {s : ByteArray} {l : List UInt8} (h : s.data.toList = l) : s = ⟨l.toArray⟩ := by cases s; simp at h; simp [← h]
theorem joinC (w1 wr : World) (F : List (List UInt8)) (u : Value) (hown : OwnS w1 u F wr) (hlen : bulkT F ≤ 1048576) :
    Calls Tryd.prog 34 #[u, .string ⟨#[44, 32]⟩] wr fun e w' => e = .returned (.string ⟨(joinOf F).toArray⟩) ∧ Below wr.heap.size wr w' := by
  have hF := bulkT_len F
  have hj := join_len F
  have em : (F.map (fun l => (⟨l.toArray⟩ : ByteArray))).map (·.data.toList) = F := by
    rw [List.map_map]
    conv => rhs; rw [← List.map_id F]
    exact List.map_congr_left (fun l _ => by simp)
  obtain ⟨hl, h1 | ⟨g, cap, cur, rfl, hg, hh, hr⟩⟩ := hown.1
  · obtain ⟨rfl, hn⟩ := h1
    obtain rfl : F = [] := List.eq_nil_of_length_eq_zero hn
    refine (Any.strings_Join_none Tryd.lays156 Tryd.Builder_Extra_156 none 0 ⟨#[44, 32]⟩ wr).mono ?_
    rintro e w' ⟨rfl, rfl⟩
    exact ⟨rfl, Below.refl _ _⟩
  · have hlt := hown.1.lt g rfl
    have c := Any.strings_Join Tryd.lays156 Tryd.Builder_Extra_156 g 0 cap (F.map (fun l => (⟨l.toArray⟩ : ByteArray))) ⟨#[44, 32]⟩ wr (by
      intro j x hx
      have h2 : j < F.length := by
        have := (List.getElem?_eq_some_iff.1 hx).1
        simpa using this
      rw [Nat.zero_add, hown.1.cellAt j (by omega)]
      rw [List.getElem?_map, List.getElem?_eq_getElem h2] at hx ⊢
      simp only [Option.map_some, Option.some.injEq] at hx ⊢
      rw [← hx]; rfl) hlt.2 (by rw [List.length_map]; omega) (by rw [List.length_map]; exact hr.1) (by rw [em]; show (joinOf F).length ≤ _; omega)
    rw [em, List.length_map] at c
    exact c
set_option maxHeartbeats 1000000 in
theorem getTok (v : Value) (fs : FL) (nm : List UInt8) (w : World) (hv : HoldsF w v fs) (hb : bulkF fs ≤ 1048576) (hn : nm.length ≤ 1048576) :
    Calls Tryd.prog 23 #[v, .string ⟨nm.toArray⟩] w fun e w' => e = .returned (.tuple #[.string ⟨(joinOf (valsOf fs nm)).toArray⟩, .bool (decide (0 < (valsOf fs nm).length))]) ∧ Below w.heap.size w w' := by
  have hfl := bulkF_len fs
  have cV := hide' (valuesTok v fs nm w hv (fun f hf => by have := bulkF_mem fs f hf; omega) (by omega) (by omega))
  have hbv := bulk_vals fs nm
  have hlv := bulkT_len (valsOf fs nm)
  clear hv
  generalize valsOf fs nm = vs at cV hbv hlv ⊢
  obtain ⟨jv, ej⟩ : ∃ jv, jv = joinOf vs := ⟨_, rfl⟩
  have EJ := hide' ej
  rw [← ej]
  clear ej
  go_enter Tryd.func23, Tryd.ntmps23
  go_wp2_with fail
  refine cV.out.mono ?_
  rintro e w1 ⟨u, rfl, ho⟩
  have cJ := hide' (joinC w w1 vs u ho (by omega))
  obtain ⟨ao, ca, b, o, hu, _⟩ := holds_parts (holds_own ho)
  have B1 := hide' ho.2
  rw [hu] at cJ ⊢
  clear ho cV hu
  rw [← EJ.out] at cJ
  go_wp2_with fail
  refine cJ.out.mono ?_
  rintro e w2 ⟨rfl, b2⟩
  have B2 := hide' (bt' B1.out b2)
  clear b2 cJ B1
  go_wp2_with fail
  go_ret2
  exact ⟨rfl, B2.out⟩
end Go.Proofs.YtnjfahidcbglpaaDoor
