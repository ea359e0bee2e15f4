/- The contracts of Values and of the document's Values. The contracts of Get and of the document's Get. The contract of the document's Without. The contracts of Put, of the document's Put, and of CopyTexts. -/
import Derived.Test.YtipcmbonhkelbabGreatDoorBm
import Derived.Test.YtipcmbonhkelbabGreatDoorShelfB
import Derived.Deep.RegionHeld3
import Derived.Deep.DrawnRows
namespace Go.Proofs.YtipcmbonhkelbabGreatDoor
open Go.RowKit
theorem ba_eql' (a b : List UInt8) (h : ¬ a = b) : ((⟨a.toArray⟩ : ByteArray).toList == (⟨b.toArray⟩ : ByteArray).toList) = false := by
  rw [Lib.toList_data, Lib.toList_data]; simpa using h
set_option maxHeartbeats 2000000 in
theorem valuesTok (v : Value) (fs : FL) (nm : List UInt8) (w : World) (hv : HoldsF w v fs) (hfit : Fit fs) (hn : nm.length ≤ 140737488351232) (hl : fs.length * 16 ≤ 140737488355328) :
    Calls Tryz.prog 34 #[v, .string ⟨nm.toArray⟩] w fun e w' => ∃ u, e = .returned u ∧ OwnS w u (valsOf fs nm) w' := by
  obtain ⟨ao, ca, b1, o1, rfl, hca⟩ := holdsF_parts hv
  have CA : Hid _ := hca
  have FT : Hid _ := hfit
  have cN := hide' (foldTok ⟨nm.toArray⟩ w (by rw [size_l]; exact hn))
  clear hca hv hfit
  obtain ⟨n, en⟩ : ∃ n, n = fs.length := ⟨_, rfl⟩
  have N : Hid (fs.length = n) := en.symm
  rw [N.out] at hl ⊢
  clear en
  go_enter Tryz.func34, Tryz.ntmps34
  go_wp2_with fail
  refine cN.out.mono ?_
  rintro e w1 ⟨rfl, b1'⟩
  have B1 := hide' b1'
  clear b1' cN
  go_wp2_with fail
  go_loopw [6, 13] (fun v i wr => ∃ j : Nat, j ≤ n ∧ i = .int .i64 j ∧ OwnS w1 v (valsOf (fs.take j) nm) wr) (fun _ i _ => n - (intOf i).toNat)
  case atStart => exact ⟨0, Nat.zero_le _, rfl, ownS_nil _ _ (Below.refl _ _)⟩
  case round =>
    obtain ⟨j, hj, rfl, ho⟩ := hrel
    have hac : (valsOf (fs.take j) nm).length ≤ j := Nat.le_trans (vals_len _ _) (List.length_take_le _ _)
    by_cases hlt : j < n
    · have G : Hid (j < fs.length) := by unfold Hid; rw [N.out]; exact hlt
      obtain ⟨hao, hblt, hcell⟩ := CA.out (by have := G.out; omega)
      subst hao
      obtain ⟨h1, h2⟩ := hcell j G.out
      have hblt1 : b1 < w1.heap.size := Nat.lt_of_lt_of_le hblt B1.out.size
      have c1 : wr.cell? ⟨b1, o1 + j * 2, none⟩ = some (.string ⟨(fs[j]'G.out).1.toArray⟩) := by
        rw [ho.2.cell (p := ⟨b1, o1 + j * 2, none⟩) hblt1, B1.out.cell (p := ⟨b1, o1 + j * 2, none⟩) hblt]; exact h1
      have c2 : wr.cell? ⟨b1, o1 + j * 2 + 1, none⟩ = some (.string ⟨(fs[j]'G.out).2.toArray⟩) := by
        rw [ho.2.cell (p := ⟨b1, o1 + j * 2 + 1, none⟩) hblt1, B1.out.cell (p := ⟨b1, o1 + j * 2 + 1, none⟩) hblt]; exact h2
      obtain ⟨hs1, hs2⟩ := fit_at FT.out j G.out
      have cF := fun W => foldTok ⟨(fs[j]'G.out).1.toArray⟩ W (by rw [size_l]; exact hs1)
      have CC := hide' (fun W => clone ⟨(fs[j]'G.out).2.toArray⟩ W (by rw [size_l]; exact hs2))
      simp only at cF
      have CF := hide' cF
      clear cF hcell h1 h2
      by_cases he : lows (fs[j]'G.out).1 = lows nm
      · have R : Hid (valsOf (fs.take (j + 1)) nm = valsOf (fs.take j) nm ++ [(fs[j]'G.out).2]) := vals_hit fs nm j G.out he
        rw [he] at CF
        clear he
        generalize (fs[j]'G.out).1 = q1 at c1 CF hs1
        generalize (fs[j]'G.out).2 = q2 at c2 CC hs2 R
        go_wp2_with (first
          | (go_at_call 39; refine (CF.out _).mono ?_; rintro e w2 ⟨rfl, hb2⟩; have hz2 : wr.heap.size < w2.heap.size := (by have := hb2.size; simp at this; omega); have d1 : w2.cell? ⟨wr.heap.size, 0, none⟩ = some (.string ⟨q1.toArray⟩) := (by rw [hb2.cell (p := ⟨wr.heap.size, 0, none⟩) (by simp)]; simp); have d2 : w2.cell? ⟨wr.heap.size, 1, none⟩ = some (.string ⟨q2.toArray⟩) := (by rw [hb2.cell (p := ⟨wr.heap.size, 1, none⟩) (by simp)]; simp); have ho2 := ownS_mono (ownS_mono ho (below_alloc' wr (.cells #[.string ⟨q1.toArray⟩, .string ⟨q2.toArray⟩] 42))) hb2; clear ho hb2 c1 c2)
          | (go_at_call 17; refine (CC.out _).mono ?_; rintro e w4 ⟨rfl, hb4⟩; have ho4 := ownS_mono ho2 hb4; clear ho2 hb4 d1 d2)
          | (at_builtin; refine appS rfl (.tmp 22) (.tmp 26) rfl w1 _ _ rfl ho4 q2 rfl rfl (by omega) ?_; intro v5 w5 ho5))
        go_roundw
        case rel => exact ⟨j + 1, by omega, by go_num, by rw [R.out]; exact ho5⟩
        case measure => simp [intOf]; omega
      · have R : Hid (valsOf (fs.take (j + 1)) nm = valsOf (fs.take j) nm) := vals_miss fs nm j G.out he
        have hne := ba_eql' _ _ he
        have hne2 : (lows (fs[j]'G.out).1 == lows nm) = false := by simpa using he
        clear he
        generalize (fs[j]'G.out).2 = q2 at c2 CC hs2
        generalize (fs[j]'G.out).1 = q1 at c1 CF hs1 hne hne2
        generalize lows q1 = l1 at CF hne hne2
        go_wp2_with (go_at_call 39; refine (CF.out _).mono ?_; rintro e w2 ⟨rfl, hb2⟩; have ho2 := ownS_mono (ownS_mono ho (below_alloc' wr (.cells #[.string ⟨q1.toArray⟩, .string ⟨q2.toArray⟩] 42))) hb2; clear ho hb2 c1 c2)
        go_roundw
        case rel => exact ⟨j + 1, by omega, by go_num, by rw [R.out]; exact ho2⟩
        case measure => simp [intOf]; omega
    · have E : Hid (fs.take j = fs) := List.take_of_length_le (by rw [N.out]; omega)
      rw [E.out] at ho
      go_wp2_with fail
      go_ret
      exact ⟨_, rfl, ownS_base ho B1.out⟩
set_option maxHeartbeats 2000000 in
theorem valuesRef (v : Value) (fs : FL) (nm : List UInt8) (w : World) (hv : HoldsF w v fs) (hfit : Fit fs) (hn : nm.length ≤ 140737488351232) (hl : fs.length * 16 ≤ 140737488355328) :
    Calls Tryz.prog 46 #[v, .string ⟨nm.toArray⟩] w fun e w' => ∃ u, e = .returned u ∧ OwnS w u (valsOf fs nm) w' := by
  obtain ⟨ao, ca, b1, o1, rfl, hca⟩ := holdsF_parts hv
  have CA : Hid _ := hca
  have FT : Hid _ := hfit
  have cN := fun W => lowerRef ⟨nm.toArray⟩ W (by rw [size_l]; exact hn)
  simp only at cN
  have CN := hide' cN
  clear hca hv hfit cN
  obtain ⟨n, en⟩ : ∃ n, n = fs.length := ⟨_, rfl⟩
  have N : Hid (fs.length = n) := en.symm
  rw [N.out] at hl ⊢
  clear en
  go_enter Tryz.func46, Tryz.ntmps46
  go_wp2_with fail
  go_loopw [5, 6] (fun v i wr => ∃ j : Nat, j ≤ n ∧ i = .int .i64 j ∧ OwnS w v (valsOf (fs.take j) nm) wr) (fun _ i _ => n - (intOf i).toNat)
  case atStart => exact ⟨0, Nat.zero_le _, rfl, ownS_empty w⟩
  case round =>
    obtain ⟨j, hj, rfl, ho⟩ := hrel
    have hac : (valsOf (fs.take j) nm).length ≤ j := Nat.le_trans (vals_len _ _) (List.length_take_le _ _)
    by_cases hlt : j < n
    · have G : Hid (j < fs.length) := by unfold Hid; rw [N.out]; exact hlt
      obtain ⟨hao, hblt, hcell⟩ := CA.out (by have := G.out; omega)
      subst hao
      obtain ⟨h1, h2⟩ := hcell j G.out
      have c1 : wr.cell? ⟨b1, o1 + j * 2, none⟩ = some (.string ⟨(fs[j]'G.out).1.toArray⟩) := by
        rw [ho.2.cell (p := ⟨b1, o1 + j * 2, none⟩) hblt]; exact h1
      have h2' := hide' h2
      obtain ⟨hs1, hs2⟩ := fit_at FT.out j G.out
      have cF := fun W => lowerRef ⟨(fs[j]'G.out).1.toArray⟩ W (by rw [size_l]; exact hs1)
      simp only at cF
      have CF := hide' cF
      clear cF hcell h1 h2
      by_cases he : lows (fs[j]'G.out).1 = lows nm
      · have R : Hid (valsOf (fs.take (j + 1)) nm = valsOf (fs.take j) nm ++ [(fs[j]'G.out).2]) := vals_hit fs nm j G.out he
        rw [he] at CF
        clear he
        generalize (fs[j]'G.out).1 = q1 at c1 CF hs1
        generalize (fs[j]'G.out).2 = q2 at h2' hs2 R
        go_wp2_with fail
        refine (CF.out _).mono ?_
        rintro e w2 ⟨rfl, hb2⟩
        have O2 := hide' (ownS_mono ho hb2)
        clear hb2 ho c1
        go_wp2_with fail
        refine (CN.out _).mono ?_
        rintro e w3 ⟨rfl, hb3⟩
        have ho3 := ownS_mono O2.out hb3
        have c2 : w3.cell? ⟨b1, o1 + j * 2 + 1, none⟩ = some (.string ⟨q2.toArray⟩) := by
          rw [ho3.2.cell (p := ⟨b1, o1 + j * 2 + 1, none⟩) hblt]; exact h2'.out
        clear hb3 O2
        go_wp2_with (at_builtin; refine appS rfl (.tmp 23) (.tmp 29) rfl w _ _ rfl ho3 q2 rfl rfl (by omega) ?_; intro v5 w5 ho5)
        go_roundw
        case rel => exact ⟨j + 1, by omega, by go_num, by rw [R.out]; exact ho5⟩
        case measure => simp [intOf]; omega
      · have R : Hid (valsOf (fs.take (j + 1)) nm = valsOf (fs.take j) nm) := vals_miss fs nm j G.out he
        have hne := ba_eql' _ _ he
        have hne2 : (lows (fs[j]'G.out).1 == lows nm) = false := by simpa using he
        clear he
        generalize (fs[j]'G.out).2 = q2 at h2' hs2
        generalize (fs[j]'G.out).1 = q1 at c1 CF hs1 hne hne2
        generalize lows q1 = l1 at CF hne hne2
        go_wp2_with fail
        refine (CF.out _).mono ?_
        rintro e w2 ⟨rfl, hb2⟩
        have O2 := hide' (ownS_mono ho hb2)
        clear hb2 ho c1
        go_wp2_with fail
        refine (CN.out _).mono ?_
        rintro e w3 ⟨rfl, hb3⟩
        have ho3 := ownS_mono O2.out hb3
        clear hb3 O2
        go_wp2_with fail
        go_roundw
        case rel => exact ⟨j + 1, by omega, by go_num, by rw [R.out]; exact ho3⟩
        case measure => simp [intOf]; omega
    · have E : Hid (fs.take j = fs) := List.take_of_length_le (by rw [N.out]; omega)
      rw [E.out] at ho
      go_wp2_with fail
      go_ret
      exact ⟨_, rfl, ho⟩
end Go.Proofs.YtipcmbonhkelbabGreatDoor
namespace Go.Proofs.YtipcmbonhkelbabGreatDoor
open Go.RowKit
theorem Tryz.Builder_Extra_156 : Builder.Extra Tryz.prog Tryz.lays156_ren where
  sizeBuilder := by kernel_rfl
  liesBuilder := by kernel_rfl
  t5 := Tryz.underlying5
  a5 := Tryz.isAgg5
  z5 := Tryz.sizeOf5
  v5 := Tryz.zeroValue5
  infoByte := by kernel_rfl
  cellsByte := by kernel_rfl
  sizeByte := by kernel_rfl
  neB5 := by decide
def joinOf (vs : List (List UInt8)) : List UInt8 := Lib.join vs [44, 32]
theorem tail_len (r : List (List UInt8)) : (Lib.joinTail [44, 32] r).length ≤ 2 * bulkT r := by
  induction r with
  | nil => simp [Lib.joinTail]
  | cons x r ih =>
    have e : Lib.joinTail [44, 32] (x :: r) = [44, 32] ++ x ++ Lib.joinTail [44, 32] r := by simp [Lib.joinTail]
    rw [e]
    simp only [List.length_append, List.length_cons, List.length_nil, bulkT]
    omega
theorem join_len (vs : List (List UInt8)) : (joinOf vs).length ≤ 2 * bulkT vs := by
  cases vs with
  | nil => simp [joinOf, Lib.join_nil]
  | cons x r =>
    unfold joinOf
    rw [Lib.join_cons, List.length_append]
    have := tail_len r
    simp only [bulkT]
    omega
theorem join_zero (vs : List (List UInt8)) : joinOf (vs.take 0) = [] := by simp [joinOf, Lib.join_nil]
theorem join_first (vs : List (List UInt8)) (h : 0 < vs.length) : joinOf (vs.take 1) = vs[0] := by
  cases vs with
  | nil => simp at h
  | cons x r => simp [joinOf, Lib.join_one]
theorem join_next (vs : List (List UInt8)) (k : Nat) (h : k < vs.length) (hk : 0 < k) : joinOf (vs.take (k + 1)) = joinOf (vs.take k) ++ [44, 32] ++ vs[k] := by
  cases vs with
  | nil => simp at h
  | cons x r =>
    obtain ⟨m, rfl⟩ : ∃ m, k = m + 1 := ⟨k - 1, by omega⟩
    unfold joinOf
    rw [List.take_succ_cons, List.take_succ_cons, Lib.join_cons, Lib.join_cons, Lib.joinTail_take_succ [44, 32] r m (r[m]'(by simpa using h)) (List.getElem?_eq_getElem _)]
    simp
theorem ba_of {s : ByteArray} {l : List UInt8} (h : s.data.toList = l) : s = ⟨l.toArray⟩ := by cases s; simp at h; simp [← h]
theorem joinCB (w1 wr : World) (F : List (List UInt8)) (u : Value) (hown : OwnS w1 u F wr) (hlen : bulkT F ≤ 9000000) :
    Calls Tryz.prog 35 #[u, .string ⟨#[44, 32]⟩] wr fun e w' => e = .returned (.string ⟨(joinOf F).toArray⟩) ∧ Below wr.heap.size wr w' := by
  have hF := bulkT_len F
  have hj := join_len F
  have em : (F.map (fun l => (⟨l.toArray⟩ : ByteArray))).map (·.data.toList) = F := by
    rw [List.map_map]
    conv => rhs; rw [← List.map_id F]
    exact List.map_congr_left (fun l _ => by simp)
  obtain ⟨hl, h1 | ⟨g, cap, cur, rfl, hg, hh, hr⟩⟩ := hown.1
  · obtain ⟨rfl, hn⟩ := h1
    obtain rfl : F = [] := List.eq_nil_of_length_eq_zero hn
    refine (Any.strings_Join_none Tryz.lays156 Tryz.Builder_Extra_156 none 0 ⟨#[44, 32]⟩ wr).mono ?_
    rintro e w' ⟨rfl, rfl⟩
    exact ⟨rfl, Below.refl _ _⟩
  · have hlt := hown.1.lt g rfl
    have c := Any.strings_Join Tryz.lays156 Tryz.Builder_Extra_156 g 0 cap (F.map (fun l => (⟨l.toArray⟩ : ByteArray))) ⟨#[44, 32]⟩ wr (by
      intro j x hx
      have h2 : j < F.length := by
        have := (List.getElem?_eq_some_iff.1 hx).1
        simpa using this
      rw [Nat.zero_add, hown.1.cellAt j (by omega)]
      rw [List.getElem?_map, List.getElem?_eq_getElem h2] at hx ⊢
      simp only [Option.map_some, Option.some.injEq] at hx ⊢
      rw [← hx]; rfl) hlt.2 (by rw [List.length_map]; omega) (by rw [List.length_map]; exact hr.1) (by rw [em]; show (joinOf F).length ≤ _; omega)
    rw [em, List.length_map] at c
    exact c
theorem joinC (w1 wr : World) (F : List (List UInt8)) (u : Value) (hown : OwnS w1 u F wr) (hlen : bulkT F ≤ 1048576) :
    Calls Tryz.prog 35 #[u, .string ⟨#[44, 32]⟩] wr fun e w' => e = .returned (.string ⟨(joinOf F).toArray⟩) ∧ Below wr.heap.size wr w' := joinCB w1 wr F u hown (by omega)
set_option maxHeartbeats 1000000 in
theorem getTokB (v : Value) (fs : FL) (nm : List UInt8) (w : World) (hv : HoldsF w v fs) (hb : bulkF fs ≤ 9000000) (hn : nm.length ≤ 1048576) :
    Calls Tryz.prog 15 #[v, .string ⟨nm.toArray⟩] w fun e w' => e = .returned (.tuple #[.string ⟨(joinOf (valsOf fs nm)).toArray⟩, .bool (decide (0 < (valsOf fs nm).length))]) ∧ Below w.heap.size w w' := by
  have hfl := bulkF_len fs
  have cV := hide' (valuesTok v fs nm w hv (fun f hf => by have := bulkF_mem fs f hf; omega) (by omega) (by omega))
  have hbv := bulk_vals fs nm
  have hlv := bulkT_len (valsOf fs nm)
  clear hv
  generalize valsOf fs nm = vs at cV hbv hlv ⊢
  obtain ⟨jv, ej⟩ : ∃ jv, jv = joinOf vs := ⟨_, rfl⟩
  have EJ := hide' ej
  rw [← ej]
  clear ej
  go_enter Tryz.func15, Tryz.ntmps15
  go_wp2_with fail
  refine cV.out.mono ?_
  rintro e w1 ⟨u, rfl, ho⟩
  have cJ := hide' (joinCB w w1 vs u ho (by omega))
  obtain ⟨ao, ca, b, o, hu, _⟩ := holds_parts (holds_own ho)
  have B1 := hide' ho.2
  rw [hu] at cJ ⊢
  clear ho cV hu
  rw [← EJ.out] at cJ
  go_wp2_with fail
  refine cJ.out.mono ?_
  rintro e w2 ⟨rfl, b2⟩
  have B2 := hide' (bt' B1.out b2)
  clear b2 cJ B1
  go_wp2_with fail
  go_ret2
  exact ⟨rfl, B2.out⟩
theorem getTok (v : Value) (fs : FL) (nm : List UInt8) (w : World) (hv : HoldsF w v fs) (hb : bulkF fs ≤ 1048576) (hn : nm.length ≤ 1048576) :
    Calls Tryz.prog 15 #[v, .string ⟨nm.toArray⟩] w fun e w' => e = .returned (.tuple #[.string ⟨(joinOf (valsOf fs nm)).toArray⟩, .bool (decide (0 < (valsOf fs nm).length))]) ∧ Below w.heap.size w w' := getTokB v fs nm w hv (by omega) hn
set_option maxHeartbeats 2000000 in
theorem getRef (v : Value) (fs : FL) (nm : List UInt8) (w : World) (hv : HoldsF w v fs) (hb : bulkF fs ≤ 1048576) (hn : nm.length ≤ 1048576) :
    Calls Tryz.prog 23 #[v, .string ⟨nm.toArray⟩] w fun e w' => e = .returned (.tuple #[.string ⟨(joinOf (valsOf fs nm)).toArray⟩, .bool (decide (0 < (valsOf fs nm).length))]) ∧ Below w.heap.size w w' := by
  have hfl := bulkF_len fs
  have cV := hide' (valuesRef v fs nm w hv (fun f hf => by have := bulkF_mem fs f hf; omega) (by omega) (by omega))
  have hbv := bulk_vals fs nm
  have hlv := bulkT_len (valsOf fs nm)
  clear hv
  generalize valsOf fs nm = vs at cV hbv hlv ⊢
  have JL : Hid (∀ k, (joinOf (vs.take k)).length ≤ 2097152) := fun k => by
    have h1 := join_len (vs.take k)
    have h2 := bulkT_take vs k
    omega
  have MM : Hid _ := bulkT_mem vs
  go_enter Tryz.func23, Tryz.ntmps23
  go_wp2_with fail
  refine cV.out.mono ?_
  rintro e w1 ⟨u, rfl, ho⟩
  obtain ⟨ao, ca, b, o, hu, hc⟩ := holds_parts (holds_own ho)
  have B1 := hide' ho.2
  have C := hide' hc
  rw [hu]
  clear ho cV hu hc
  obtain ⟨n, en⟩ : ∃ n, n = vs.length := ⟨_, rfl⟩
  have N : Hid (vs.length = n) := en.symm
  rw [N.out] at hlv ⊢
  clear en
  go_wp2_with fail
  go_loop [7, 8] (fun ov iv => ∃ (k : Nat) (s : ByteArray), k ≤ n ∧ iv = .int .i64 k ∧ ov = .string s ∧ Hid (s.data.toList = joinOf (vs.take k)) ∧ s.size ≤ 2097152) (fun _ iv => n - (intOf iv).toNat)
  case atStart => exact ⟨0, ⟨#[]⟩, Nat.zero_le _, rfl, rfl, (join_zero vs).symm, by decide⟩
  case round =>
    obtain ⟨k, s, hk, rfl, rfl, E, hs⟩ := hrel
    by_cases hlt : k < n
    · have G : Hid (k < vs.length) := by unfold Hid; rw [N.out]; exact hlt
      obtain ⟨hao, hblt, hcell⟩ := C.out (by have := G.out; omega)
      subst hao
      have ck := hcell k G.out
      unfold S at ck
      have hx := MM.out _ (List.getElem_mem G.out)
      have jl := JL.out (k + 1)
      clear hcell
      by_cases hk0 : 0 < k
      · have R : Hid (joinOf (vs.take (k + 1)) = joinOf (vs.take k) ++ [44, 32] ++ vs[k]'G.out) := join_next vs k G.out hk0
        generalize vs[k]'G.out = q at ck hx R
        have zx : (⟨q.toArray⟩ : ByteArray).size ≤ 1048576 := by rw [size_l]; omega
        have zz : ((s ++ (⟨#[44, 32]⟩ : ByteArray)) ++ (⟨q.toArray⟩ : ByteArray)).size = (joinOf (vs.take (k + 1))).length := by
          have h1 := ByteArray.size_append (a := s) (b := (⟨#[44, 32]⟩ : ByteArray))
          have h2 := ByteArray.size_append (a := s ++ (⟨#[44, 32]⟩ : ByteArray)) (b := (⟨q.toArray⟩ : ByteArray))
          have h3 : (⟨#[44, 32]⟩ : ByteArray).size = 2 := rfl
          have h4 := size_l q
          have e3 : s.data.toList.length = s.size := by simp
          rw [R.out, List.length_append, List.length_append, ← E.out, e3, h2, h1, h3, h4]
          rfl
        go_wp2_with fail
        go_round
        case rel => exact ⟨k + 1, _, by omega, by go_num, rfl, by unfold Hid; rw [R.out, ← E.out]; simp [ByteArray.data_append], by omega⟩
        case measure => simp [intOf]; omega
      · have hk1 : decide ((0 : Int) < k) = false := by simp; omega
        have ke : k = 0 := by omega
        have R : Hid (joinOf (vs.take (k + 1)) = vs[k]'G.out) := by unfold Hid; subst ke; exact join_first vs G.out
        have E0 : Hid (s.data.toList = []) := by unfold Hid; rw [E.out, ke]; exact join_zero vs
        generalize vs[k]'G.out = q at ck hx R
        have zx : (⟨q.toArray⟩ : ByteArray).size ≤ 1048576 := by rw [size_l]; omega
        have zz : (s ++ (⟨q.toArray⟩ : ByteArray)).size = (joinOf (vs.take (k + 1))).length := by
          have e2 : s.size = 0 := by
            have e3 : s.data.toList.length = s.size := by simp
            rw [← e3, E0.out]; rfl
          have h2 := ByteArray.size_append (a := s) (b := (⟨q.toArray⟩ : ByteArray))
          have h4 := size_l q
          rw [R.out]
          omega
        clear ke hk1
        go_wp2_with fail
        go_round
        case rel => exact ⟨k + 1, _, by omega, by go_num, rfl, by unfold Hid; rw [R.out]; simp [ByteArray.data_append, E0.out], by omega⟩
        case measure => simp [intOf]; omega
    · have E2 : Hid (vs.take k = vs) := List.take_of_length_le (by rw [N.out]; omega)
      rw [E2.out] at E
      have RS := hide' (ba_of E.out)
      go_wp2_with fail
      go_ret2
      rw [← RS.out, N.out]
      exact ⟨rfl, B1.out⟩
end Go.Proofs.YtipcmbonhkelbabGreatDoor
namespace Go.Proofs.YtipcmbonhkelbabGreatDoor
open Go.RowKit Go.Maps
theorem ownF_drew {w0 w : World} {v : Value} {ps : FL} (h : OwnF w0 v ps w) : OwnF w0 v ps w.drew := ownF_mono h (Below.refl _ _).drew
theorem st_callF {f : FuncId} {args : Array Value} {r : Value} (h : ∀ W : World, Calls Tryz.prog f args W fun e w' => e = .returned r ∧ Below W.heap.size W w') {w0 W : World} {v : Value} {acc : FL} (ho : OwnF w0 v acc W)
    {p q : Addr} {x y : Value} (hp : p.block < w0.heap.size) (hq : q.block < w0.heap.size) (cx : w0.cell? p = some x) (cy : w0.cell? q = some y) :
    Calls Tryz.prog f args W fun e w' => e = .returned r ∧ Hid (OwnF w0 v acc w') ∧ w'.cell? p = some x ∧ w'.cell? q = some y := by
  refine (h W).mono ?_
  rintro e w' ⟨rfl, hb⟩
  have o := ownF_mono ho hb
  exact ⟨rfl, o, by rw [o.2.cell hp]; exact cx, by rw [o.2.cell hq]; exact cy⟩
theorem in_step (ns : List (List UInt8)) (j : Nat) (h : j < ns.length) (x : List UInt8) : decide (x ∉ (ns.take (j + 1)).map lows) = (decide (x ∉ (ns.take j).map lows) && !decide (x = lows ns[j])) := by
  rw [List.take_succ_eq_append_getElem h, List.map_append]
  have e : (x ∉ (ns.take j).map lows ++ [ns[j]].map lows) ↔ (x ∉ (ns.take j).map lows ∧ ¬ x = lows ns[j]) := by
    rw [List.mem_append, not_or, List.map_cons, List.map_nil, List.mem_singleton]
  rw [decide_eq_decide.2 e, Bool.decide_and, decide_not, decide_not]
theorem ba_eql (a b : List UInt8) (h : ¬ a = b) : ((⟨a.toArray⟩ : ByteArray).toList == (⟨b.toArray⟩ : ByteArray).toList) = false := by
  rw [Lib.toList_data, Lib.toList_data]; simpa using h
attribute [local go_sem ↓] Go.wp_at_zero Go.wp_at_succ
set_option maxHeartbeats 4000000 in
theorem withoutRef (v vn : Value) (fs : FL) (ns : List (List UInt8)) (w : World) (hv : HoldsF w v fs) (hn : Holds w vn ns) (hfit : Fit fs) (hfn : ∀ n ∈ ns, n.length ≤ 140737488351232)
    (hl : fs.length * 32 ≤ 140737488355328) (hln : ns.length ≤ 8796093022208) :
    Calls Tryz.prog 26 #[v, vn] w fun e w' => ∃ u, e = .returned u ∧ OwnF w u (withoutOf fs ns) w' := by
  obtain ⟨ao, ca, b1, o1, rfl, hca⟩ := holdsF_parts hv
  obtain ⟨bo, cb, b2, o2, rfl, hcb⟩ := holds_parts hn
  have CA : Hid _ := hca
  have CB : Hid _ := hcb
  have FT : Hid _ := hfit
  have FN : Hid _ := hfn
  clear hca hcb hv hn hfit hfn
  obtain ⟨n, en⟩ : ∃ n, n = fs.length := ⟨_, rfl⟩
  obtain ⟨m, em⟩ : ∃ m, m = ns.length := ⟨_, rfl⟩
  have N : Hid (fs.length = n) := en.symm
  have M : Hid (ns.length = m) := em.symm
  rw [N.out] at hl ⊢
  rw [M.out] at hln ⊢
  clear en em
  go_enter Tryz.func26, Tryz.ntmps26
  go_wp2_with fail
  go_loopw [5, 6] (fun v i wr => ∃ (vo : Value) (k : Nat), vo = v ∧ k ≤ n ∧ i = .int .i64 k ∧ OwnF w vo (withoutOf (fs.take k) ns) wr) (fun _ i _ => n - (intOf i).toNat)
  case atStart => exact ⟨_, 0, rfl, Nat.zero_le _, rfl, ownF_empty w⟩
  case round =>
    obtain ⟨vo, k, rfl, hk, rfl, ho⟩ := hrel
    obtain ⟨w1, ew⟩ : ∃ w1, w1 = wr := ⟨_, rfl⟩
    subst ew
    have hac : (withoutOf (fs.take k) ns).length ≤ k := Nat.le_trans (without_len _ _) (List.length_take_le _ _)
    by_cases hlt : k < n
    · have G : Hid (k < fs.length) := by unfold Hid; rw [N.out]; exact hlt
      obtain ⟨hao, hblt, hcell⟩ := CA.out (by have := G.out; omega)
      subst hao
      obtain ⟨h1, h2⟩ := hcell k G.out
      unfold S at h1 h2
      obtain ⟨hs1, hs2⟩ := fit_at FT.out k G.out
      have cX := fun W => lowerRef ⟨(fs[k]'G.out).1.toArray⟩ W (by rw [size_l]; exact hs1)
      simp only at cX
      have R1 : Hid (lows (fs[k]'G.out).1 ∈ ns.map lows → withoutOf (fs.take (k + 1)) ns = withoutOf (fs.take k) ns) := fun h => without_hit fs ns k G.out h
      have R2 : Hid (lows (fs[k]'G.out).1 ∉ ns.map lows → withoutOf (fs.take (k + 1)) ns = withoutOf (fs.take k) ns ++ [((fs[k]'G.out).1, (fs[k]'G.out).2)]) := fun h => without_miss fs ns k G.out h
      have CX := hide' cX
      have O := hide' ho
      clear hcell cX ho
      generalize (fs[k]'G.out).1 = q1 at h1 CX hs1 R1 R2
      generalize (fs[k]'G.out).2 = q2 at h2 hs2 R2
      generalize withoutOf (fs.take k) ns = acc at O R1 R2 hac
      have C1 := hide' h1
      have C2 := hide' h2
      clear h1 h2
      go_wp2_with fail
      go_loopw [7, 8] (fun kp j wr => ∃ (i : Nat) (kb : Bool), i ≤ m ∧ j = .int .i64 i ∧ kp = .bool kb ∧ Hid (kb = decide (lows q1 ∉ (ns.take i).map lows)) ∧ Hid (OwnF w vo acc wr)) (fun _ j _ => m - (intOf j).toNat)
      case atStart => exact ⟨0, true, Nat.zero_le _, rfl, rfl, by unfold Hid; simp, O⟩
      case round =>
        clear O
        obtain ⟨i, kb, hi, rfl, rfl, KB, O⟩ := hrel
        by_cases hit : i < m
        · have G2 : Hid (i < ns.length) := by unfold Hid; rw [M.out]; exact hit
          obtain ⟨hbo, hblt2, hcell⟩ := CB.out (by have := G2.out; omega)
          subst hbo
          have hy := hcell i G2.out
          unfold S at hy
          have hs3 := FN.out _ (List.getElem_mem G2.out)
          have cY := fun W => lowerRef ⟨(ns[i]'G2.out).toArray⟩ W (by rw [size_l]; exact hs3)
          simp only at cY
          have R3 := hide' (in_step ns i G2.out (lows q1))
          have CY := hide' cY
          have cx : wr.cell? ⟨b1, o1 + k * 2, none⟩ = some (.string ⟨q1.toArray⟩) := by rw [O.out.2.cell (p := ⟨b1, o1 + k * 2, none⟩) hblt]; exact C1.out
          have cy : wr.cell? ⟨b2, o2 + i, none⟩ = some (.string ⟨(ns[i]'G2.out).toArray⟩) := by rw [O.out.2.cell (p := ⟨b2, o2 + i, none⟩) hblt2]; exact hy
          have C3 := hide' hy
          clear hcell cY hy
          generalize ns[i]'G2.out = q3 at CY C3 cy hs3 R3
          have kX := hide' (fun (W : World) (ho : OwnF w vo acc W) => st_callF CX.out ho (p := ⟨b1, o1 + k * 2, none⟩) (q := ⟨b2, o2 + i, none⟩) hblt hblt2 C1.out C3.out)
          have kY := hide' (fun (W : World) (ho : OwnF w vo acc W) => st_callF CY.out ho (p := ⟨b1, o1 + k * 2, none⟩) (q := ⟨b2, o2 + i, none⟩) hblt hblt2 C1.out C3.out)
          by_cases he : lows q1 = lows q3
          · rw [decide_eq_true he, Bool.not_true, Bool.and_false] at R3
            rw [← he] at kY
            clear he
            go_wp2_with fail
            go_region_held3 (fun w' => w'.cell? ⟨b1, o1 + k * 2, none⟩ = some (.string ⟨q1.toArray⟩) ∧ w'.cell? ⟨b2, o2 + i, none⟩ = some (.string ⟨q3.toArray⟩)) (go_keep)
              (first
                | (go_at_call_of 47 (q1); refine (kX.out _ ?_).mono ?_; (first | exact O2.out | exact ownF_drew O.out); rintro e w2 ⟨rfl, O2, k1, k2⟩)
                | (go_at_call_of 47 (q3); refine (kY.out _ ?_).mono ?_; (first | exact O2.out | exact ownF_drew O.out); rintro e w2 ⟨rfl, O2, k1, k2⟩))
            all_goals
              go_wp2_with fail
              go_roundw
              case rel => exact ⟨i + 1, _, by omega, by go_num, rfl, (by unfold Hid; rw [R3.out]), O2⟩
              case measure => simp [intOf]; omega
          · have hne := ba_eql _ _ he
            rw [decide_eq_false he, Bool.not_false, Bool.and_true] at R3
            have hne2 : (lows q1 == lows q3) = false := by simpa using he
            clear he
            generalize lows q3 = l3 at kY hne hne2 R3
            go_wp2_with fail
            go_region_held3 (fun w' => w'.cell? ⟨b1, o1 + k * 2, none⟩ = some (.string ⟨q1.toArray⟩) ∧ w'.cell? ⟨b2, o2 + i, none⟩ = some (.string ⟨q3.toArray⟩)) (go_keep)
              (first
                | (go_at_call_of 47 (q1); refine (kX.out _ ?_).mono ?_; (first | exact O2.out | exact ownF_drew O.out); rintro e w2 ⟨rfl, O2, k1, k2⟩)
                | (go_at_call_of 47 (q3); refine (kY.out _ ?_).mono ?_; (first | exact O2.out | exact ownF_drew O.out); rintro e w2 ⟨rfl, O2, k1, k2⟩))
            all_goals
              go_wp2_with fail
              go_roundw
              case rel => exact ⟨i + 1, _, by omega, by go_num, rfl, (by unfold Hid; rw [R3.out]; exact KB.out), O2⟩
              case measure => simp [intOf]; omega
        · have E : Hid (ns.take i = ns) := List.take_of_length_le (by rw [M.out]; omega)
          rw [E.out] at KB
          have cx : wr.cell? ⟨b1, o1 + k * 2, none⟩ = some (.string ⟨q1.toArray⟩) := by rw [O.out.2.cell (p := ⟨b1, o1 + k * 2, none⟩) hblt]; exact C1.out
          have cx2 : wr.cell? ⟨b1, o1 + k * 2 + 1, none⟩ = some (.string ⟨q2.toArray⟩) := by rw [O.out.2.cell (p := ⟨b1, o1 + k * 2 + 1, none⟩) hblt]; exact C2.out
          by_cases hin : lows q1 ∈ ns.map lows
          · have R := hide' (R1.out hin)
            have kf : kb = false := by rw [KB.out]; exact decide_eq_false (fun h => h hin)
            subst kf
            clear hin
            go_wp2_with fail
            go_roundw
            case rel => exact ⟨_, k + 1, rfl, by omega, by go_num, by rw [R.out]; exact O.out⟩
            case measure => simp [intOf]; omega
          · have R := hide' (R2.out hin)
            have kf : kb = true := by rw [KB.out]; exact decide_eq_true hin
            subst kf
            clear hin
            go_wp2_with (at_builtin; refine appF rfl (.tmp 35) (.tmp 40) rfl w _ _ rfl O.out (q1, q2) rfl rfl rfl rfl (by omega) ?_; intro v5 w5 ho5)
            go_roundw
            case rel => exact ⟨_, k + 1, rfl, by omega, by go_num, by rw [R.out]; exact ho5⟩
            case measure => simp [intOf]; omega
    · have E : Hid (fs.take k = fs) := List.take_of_length_le (by rw [N.out]; omega)
      rw [E.out] at ho
      go_wp2_with fail
      go_ret
      exact ⟨_, rfl, ho⟩
end Go.Proofs.YtipcmbonhkelbabGreatDoor
namespace Go.Proofs.YtipcmbonhkelbabGreatDoor
open Go.RowKit Go.Maps
theorem one_fit {n : List UInt8} (h : n.length ≤ 140737488351232) : ∀ x ∈ [n], x.length ≤ 140737488351232 := by
  intro x hx; obtain rfl := List.mem_singleton.1 hx; exact h
set_option maxHeartbeats 1000000 in
theorem putTok (v : Value) (fs : FL) (n x : List UInt8) (w : World) (hv : HoldsF w v fs) (hfit : Fit fs) (hn : n.length ≤ 140737488351232) (hx : x.length ≤ 140737488351232) (hl : (fs.length + 1) * 32 ≤ 140737488355328) :
    Calls Tryz.prog 41 #[v, .string ⟨n.toArray⟩, .string ⟨x.toArray⟩] w fun e w' => ∃ u, e = .returned u ∧ OwnF w u (putOf fs n x) w' := by
  have cW := hide' (withoutTok v _ fs [n] _ (holdsF_mono hv (below_alloc' w (.cells #[S n] 9))) (holds_lit1 w n) hfit (one_fit hn) (by omega) (by simp))
  have cC := hide' (fun W => cloneF ⟨n.toArray⟩ ⟨x.toArray⟩ W (by rw [size_l]; exact hn) (by rw [size_l]; exact hx))
  have hwl : (withoutOf fs [n]).length ≤ fs.length := without_len _ _
  have R := hide' (show putOf fs n x = withoutOf fs [n] ++ [(n, x)] from rfl)
  clear hv hfit
  generalize withoutOf fs [n] = acc at cW hwl R
  generalize fs.length = L at hwl hl
  go_enter Tryz.func41, Tryz.ntmps41
  go_wp2_with (first
    | (go_at_call 18; refine cW.out.mono ?_; rintro e w2 ⟨u, rfl, ho2⟩; have ho := ownF_base ho2 (below_alloc' w (.cells #[S n] 9)); clear ho2)
    | (go_at_call 40; refine (cC.out _).mono ?_; rintro e w3 ⟨rfl, hb3⟩; have ho3 := ownF_mono ho hb3; clear ho hb3)
    | (at_builtin; refine appF rfl (.tmp 10) (.tmp 14) rfl w _ _ rfl ho3 (n, x) rfl rfl rfl rfl (by omega) ?_; intro v5 w5 ho5))
  go_ret
  exact ⟨_, rfl, by rw [R.out]; exact ho5⟩
set_option maxHeartbeats 1000000 in
theorem putRef (v : Value) (fs : FL) (n x : List UInt8) (w : World) (hv : HoldsF w v fs) (hfit : Fit fs) (hn : n.length ≤ 140737488351232) (hl : (fs.length + 1) * 32 ≤ 140737488355328) :
    Calls Tryz.prog 27 #[v, .string ⟨n.toArray⟩, .string ⟨x.toArray⟩] w fun e w' => ∃ u, e = .returned u ∧ OwnF w u (putOf fs n x) w' := by
  have cW := hide' (withoutRef v _ fs [n] _ (holdsF_mono hv (below_alloc' w (.cells #[S n] 9))) (holds_lit1 w n) hfit (one_fit hn) (by omega) (by simp))
  have hwl : (withoutOf fs [n]).length ≤ fs.length := without_len _ _
  have R := hide' (show putOf fs n x = withoutOf fs [n] ++ [(n, x)] from rfl)
  clear hv hfit
  generalize withoutOf fs [n] = acc at cW hwl R
  generalize fs.length = L at hwl hl
  go_enter Tryz.func27, Tryz.ntmps27
  go_wp2_with (first
    | (go_at_call 26; refine cW.out.mono ?_; rintro e w2 ⟨u, rfl, ho2⟩; have ho := ownF_base ho2 (below_alloc' w (.cells #[S n] 9)); clear ho2)
    | (at_builtin; refine appF rfl (.tmp 10) (.tmp 14) rfl w _ _ rfl ho (n, x) rfl rfl rfl rfl (by omega) ?_; intro v5 w5 ho5))
  go_ret
  exact ⟨_, rfl, by rw [R.out]; exact ho5⟩
end Go.Proofs.YtipcmbonhkelbabGreatDoor
