/- The contracts of the library's Sort and Compact at a row of texts that a call owns; of Names. -/
import Derived.Test.YtmibgcbolnpffaaDoorVrP
import Derived.Test.YtmibgcbolnpffaaDoorBo
import Derived.Test.YtmibgcbolnpffaaDoorCtS
import Derived.Test.YtmibgcbolnpffaaDoorShelfK
import Derived.Test.YtmibgcbolnpffaaDoorShelfV
import Derived.Lib.OwnBridge
import Derived.Sort.OwnSorted
namespace Go.Proofs.YtmibgcbolnpffaaDoor
open Go.RowKit Go.Sort
theorem encS_S (ss : List Nm) : ss.map encStr = ss.map S := rfl
theorem sortT {w0 W : World} {u : Value} {ss : List Nm} (h : OwnS w0 u ss W) (hl : ss.length ≤ 1000000000) :
    Calls Tryd.prog 25 #[u] W fun e w' => e = .returned (.tuple #[]) ∧ OwnS w0 u (ss.mergeSort (fun x y => decide (x ≤ y))) w' := by
  have hlen : (ss.mergeSort (fun x y => decide (x ≤ y))).length = ss.length := List.length_mergeSort _
  obtain ⟨hl2, h1 | ⟨g, cap, cur, rfl, hg, hh, h3, h4, h5, h6⟩⟩ := h.1
  · obtain ⟨rfl, hn⟩ := h1
    obtain rfl : ss = [] := List.eq_nil_of_length_eq_zero hn
    refine (AnyM.slices_Sort_string_none Tryd.ssort none 0 W).mono ?_
    rintro e w' ⟨rfl, rfl⟩
    exact ⟨rfl, by simpa using h⟩
  · rw [Nat.mul_one] at h6
    refine (AnyM.slices_Sort_string Tryd.ssort g 0 cap ss W (holds_of_block hh h6) (h.1.lt g rfl).2 (by omega)).mono ?_
    rintro e w' ⟨rfl, n, os, rfl⟩
    refine ⟨rfl, ?_, ?_⟩
    · rw [hlen]
      exact ownsRow_sorted (by rw [hlen]) hg hh h3 h4 h5
    · exact Below.grown h.2 (grownBy_sorted _) h.2.size (fun k hk => by cases hk; exact hg)
theorem compact_len (ss : List Nm) : (Lib.compact ss).length ≤ ss.length := by
  unfold Lib.compact Lib.compactUpTo
  rw [List.length_map]
  exact Nat.le_trans (List.length_filter_le _ _) (by simp)
theorem compactT {w0 W : World} {u : Value} {ss : List Nm} (h : OwnS w0 u ss W) (hl : ss.length ≤ 1000000000) :
    Calls Tryd.prog 26 #[u] W fun e w' => ∃ u', e = .returned u' ∧ OwnS w0 u' (Lib.compact ss) w' := by
  have hc := compact_len ss
  obtain ⟨hl2, h1 | ⟨g, cap, cur, rfl, hg, hh, h3, h4, h5, h6⟩⟩ := h.1
  · obtain ⟨rfl, hn⟩ := h1
    obtain rfl : ss = [] := List.eq_nil_of_length_eq_zero hn
    refine (Any.slices_Compact_string_empty Tryd.lays194 none 0 W).mono ?_
    rintro e w' ⟨rfl, rfl⟩
    exact ⟨_, rfl, by simpa [Lib.compact, Lib.compactUpTo] using h⟩
  · have h7 := h6
    rw [Nat.mul_one] at h7
    refine (Any.slices_Compact_string Tryd.lays194 g 0 cap ss W (holds_of_block hh h7) (by omega) h3).mono ?_
    rintro e w' ⟨rfl, q, rfl⟩
    have h8 : W.ownsRow w0.heap.size 9 1 (.slice (some ⟨g, 0, none⟩) ss.length cap) ss.length (ss.map encStr) := h.1
    have h9 := Lib.ownsRow_putRow (q := q) (k := (Lib.compact ss).length) (ys := Lib.compact ss ++ List.replicate (ss.length - (Lib.compact ss).length) []) h8 (by simp; omega) hc
    rw [List.take_left'] at h9
    · exact ⟨_, rfl, h9, Lib.below_putRow h.2 hg⟩
    · rfl
theorem lows_idem (l : List UInt8) : lows (lows l) = lows l := by
  unfold lows
  rw [List.map_map]
  apply List.map_congr_left
  intro c _
  show low (low c) = low c
  by_cases h : 65 ≤ (c.toNat : Int) ∧ (c.toNat : Int) ≤ 90
  · have := low_up c h.1 h.2
    exact low_same _ (by omega)
  · rw [low_same c h]; exact low_same c h
set_option maxHeartbeats 1000000 in
theorem namesCB (v : Value) (fs : FL) (w : World) (hv : HoldsF w v fs) (hb : bulkF fs ≤ 2000000) :
    Calls Tryd.prog 11 #[v] w fun e w' => ∃ u, e = .returned (.tuple #[u, .bool (namesB fs)]) ∧ OwnS w u (namesV fs) w' := by
  have cT := hide' (tokensTokB v fs varyN w hv hb (by decide))
  have hl : (wordsV fs).length ≤ 2000000 := by
    have h1 := toks_len (valsOf fs varyN)
    have h2 := bulk_vals fs varyN
    unfold wordsV; omega
  unfold namesV namesB
  obtain ⟨ts, et⟩ : ∃ ts, ts = wordsV fs := ⟨_, rfl⟩
  have ET : Hid (toksOf (valsOf fs varyN) = ts) := et.symm
  rw [← et] at hl ⊢
  clear et hv hb
  rw [ET.out] at cT
  by_cases hs : ([42] : Nm) ∈ ts
  · have HS : Hid (decide (([42] : Nm) ∈ ts) = true) := by unfold Hid; simpa using hs
    rw [HS.out]
    clear hs
    go_enter Tryd.func11, Tryd.ntmps11
    go_wp2_with fail
    refine cT.out.mono ?_
    rintro e w1 ⟨u, rfl, ho⟩
    have O1 := hide' ho
    have cC := hide' (containsS u ts [42] w1 (holds_own ho) (by omega))
    rw [HS.out] at cC
    clear ho cT
    obtain ⟨ao, ca, b, o, hu, _⟩ := holds_parts (holds_own O1.out)
    rw [hu] at cC ⊢
    go_wp2_with fail
    refine cC.out.mono ?_
    rintro e w2 ⟨rfl, ew⟩
    rw [ew]
    clear cC ew
    go_wp2_with fail
    go_ret2
    exact ⟨_, rfl, ownS_nil _ _ O1.out.2⟩
  · have HS : Hid (decide (([42] : Nm) ∈ ts) = false) := by unfold Hid; simpa using hs
    rw [HS.out]
    clear hs
    go_enter Tryd.func11, Tryd.ntmps11
    go_wp2_with fail
    refine cT.out.mono ?_
    rintro e w1 ⟨u, rfl, ho⟩
    have O1 := hide' ho
    have cC := hide' (containsS u ts [42] w1 (holds_own ho) (by omega))
    have cS := hide' (sortT ho (by omega))
    rw [HS.out] at cC
    have hlen : (ts.mergeSort (fun x y => decide (x ≤ y))).length = ts.length := List.length_mergeSort _
    have cP := hide' (fun W (h : OwnS w u (ts.mergeSort (fun x y => decide (x ≤ y))) W) => compactT h (by omega))
    rw [compact_sorted] at cP
    clear ho cT hlen
    obtain ⟨ao, ca, b, o, hu, _⟩ := holds_parts (holds_own O1.out)
    rw [hu] at cC cS cP ⊢
    go_wp2_with fail
    refine cC.out.mono ?_
    rintro e w2 ⟨rfl, ew⟩
    rw [ew]
    clear cC ew
    go_wp2_with fail
    refine cS.out.mono ?_
    rintro e w3 ⟨rfl, h3⟩
    have CP := hide' (cP.out w3 h3)
    clear cP cS h3
    go_wp2_with fail
    refine CP.out.mono ?_
    rintro e w4 ⟨u4, rfl, h4⟩
    have O4 := hide' h4
    obtain ⟨a4, c4, b4, o4, hu4, _⟩ := holds_parts (holds_own h4)
    rw [hu4] at O4 ⊢
    clear h4 hu4
    go_wp2_with fail
    go_ret2
    exact ⟨_, rfl, O4.out⟩
theorem namesC (v : Value) (fs : FL) (w : World) (hv : HoldsF w v fs) (hb : bulkF fs ≤ 1048576) :
    Calls Tryd.prog 11 #[v] w fun e w' => ∃ u, e = .returned (.tuple #[u, .bool (namesB fs)]) ∧ OwnS w u (namesV fs) w' :=
  namesCB v fs w hv (Nat.le_trans hb (by decide))
end Go.Proofs.YtmibgcbolnpffaaDoor
