/- The walks of ControlParts, ControlCase and ControlFirst. -/
import Derived.Test.YtemmghmacbofaaaDoorLawKnB
import Derived.Test.YtemmghmacbofaaaDoorKnQ
import Derived.Test.YtemmghmacbofaaaDoorShw
namespace Go.Proofs.YtemmghmacbofaaaDoor
open Go.RowKit
theorem oneB (s : ByteArray) (w : World) :
    Calls Tryd.prog 13 #[.string s] w fun e w' => ∃ u, e = .returned u ∧ HoldsF w' u [(ccb, s.data.toList)] ∧ Below w.heap.size w w' := by
  have h := oneC s.data.toList w
  rw [ba_eta] at h
  exact h
theorem litB2 (w : World) (x y x' y' : ByteArray) : HoldsF (w.alloc (.cells #[.string x, .string y, .string x', .string y'] 34)) (.slice (some ⟨w.heap.size, 0, none⟩) 2 2) [(x.data.toList, y.data.toList), (x'.data.toList, y'.data.toList)] := by
  have h := holdsF_lit2 w x.data.toList y.data.toList x'.data.toList y'.data.toList
  unfold S at h
  rw [ba_eta, ba_eta, ba_eta, ba_eta] at h
  exact h
theorem ctl_shape (ds : List DV) (pr : Bool) : ∃ (b0 b1 b2 b3 b4 b5 : Bool) (n6 n7 n8 n9 : Int), ctlV ds pr = .agg #[.bool b0, .bool b1, .bool b2, .bool b3, .bool b4, .bool b5, .int .i64 n6, .int .i64 n7, .int .i64 n8, .int .i64 n9] := ⟨_, _, _, _, _, _, _, _, _, _, rfl⟩
theorem fit_four (x y x' y' : List UInt8) (h : x.length + y.length + x'.length + y'.length ≤ 140737488351232) : Fit [(x, y), (x', y')] := by
  intro f hf
  simp at hf
  rcases hf with rfl | rfl
  · exact ⟨by show x.length ≤ _; omega, by show y.length ≤ _; omega⟩
  · exact ⟨by show x'.length ≤ _; omega, by show y'.length ≤ _; omega⟩
/-- Parse of two fields of which the values are told -/
theorem ctlTwo (v : Value) (x y x' y' : List UInt8) (vs : List (List UInt8)) (w : World) (hv : HoldsF w v [(x, y), (x', y')]) (h : x.length + y.length + x'.length + y'.length ≤ 4190000) (he : valsOf [(x, y), (x', y')] ccb = vs) (hne : vs ≠ []) (hs : bulkT vs ≤ 4194000) :
    Calls Tryd.prog 10 #[v] w fun e w' => e = .returned (ctlV (dirsOf vs) false) ∧ Below w.heap.size w w' := by
  have h := ctlC v _ w hv (fit_four _ _ _ _ (by omega)) (by simp) (by rw [he]; exact hs) (fun e => absurd (he.symm.trans e) hne)
  have e : parOf [(x, y), (x', y')] = ctlV (dirsOf vs) false := by unfold parOf; rw [he, decide_eq_false hne]; rfl
  rw [e] at h
  exact h
theorem parts_l (a b : ByteArray) : ((a ++ ⟨#[44]⟩) ++ b).data.toList = a.data.toList ++ 44 :: b.data.toList := by simp [ByteArray.data_append]
set_option maxHeartbeats 2000000 in
theorem partsW (a b : ByteArray) (w : World) (hs : a.size + b.size ≤ 1048576) :
    Calls Tryd.prog 6 #[.string a, .string b] w fun e w' => e = .returned (.bool true) ∧ Below w.heap.size w w' := by
  have cA := hide' (aliveK w)
  have la : a.data.toList.length = a.size := by simp
  have lb : b.data.toList.length = b.size := by simp
  have lc : ccb.length = 13 := rfl
  obtain ⟨b0, b1, b2, b3, b4, b5, n6, n7, n8, n9, hE⟩ := ctl_shape (dirsOf [a.data.toList, b.data.toList]) false
  have c1 := hide' (fun (hq : ∀ x ∈ a.data.toList, ¬ (x.toNat : Int) = 34) u W (hu : HoldsF W u [(ccb, ((a ++ ⟨#[44]⟩) ++ b).data.toList)]) => by
    have h := ctlOne u _ W hu (by rw [parts_l, List.length_append, List.length_cons]; omega)
    rw [parts_l, dirs_parts _ _ hq, hE] at h
    exact h)
  have c2 := hide' (fun W => by
    have h := ctlTwo (.slice (some ⟨W.heap.size, 0, none⟩) 2 2) ccb a.data.toList ccb b.data.toList [a.data.toList, b.data.toList] (W.alloc (.cells #[.string ⟨ccb.toArray⟩, .string a, .string ⟨ccb.toArray⟩, .string b] 34)) (litB2 W ⟨ccb.toArray⟩ a ⟨ccb.toArray⟩ b) (by rw [la, lb, lc]; omega) (by simp [valsOf]) (by simp) (by simp [bulkT]; omega)
    rw [hE] at h
    exact h)
  clear hE la lb lc
  go_enter Tryd.func6, Tryd.ntmps6
  go_wp2_with fail
  refine cA.out.mono ?_
  rintro e w1 ⟨rfl, bw⟩
  have B1 := hide' bw
  clear bw cA
  go_wp2_with fail
  go_loop [5] (fun i => ∃ k : Nat, k ≤ a.size ∧ i = .int .i64 k ∧ Hid (∀ j (hj : j < a.size), j < k → ¬ (a[j].toNat : Int) = 34)) (fun i => a.size - (intOf i).toNat)
  case atStart => exact ⟨0, Nat.zero_le _, rfl, fun j h hj => absurd hj (by omega)⟩
  case round =>
    obtain ⟨k, hk, rfl, A⟩ := hrel
    by_cases hlt : k < a.size
    · have hb := byte_lt a[k]
      by_cases he : (a[k].toNat : Int) = 34
      · go_wp2_with fail
        go_ret
        exact ⟨rfl, B1.out⟩
      · have A2 : Hid (∀ j (hj : j < a.size), j < k + 1 → ¬ (a[j].toNat : Int) = 34) := by
          intro j h hj
          by_cases hjk : j = k
          · subst hjk; exact he
          · exact A.out j h (by omega)
        clear A
        go_wp2_with fail
        go_round
        case rel => exact ⟨k + 1, by omega, by go_num, A2⟩
        case measure => simp [intOf]; omega
    · have hq : Hid (∀ x ∈ a.data.toList, ¬ (x.toNat : Int) = 34) := by
        intro x hx
        obtain ⟨j, hj, rfl⟩ := List.getElem_of_mem hx
        have hj' : j < a.size := by simpa using hj
        exact A.out j hj' (by omega)
      replace c1 := hide' (c1.out hq.out)
      clear A hq
      have cO := hide' (oneB ((a ++ ⟨#[44]⟩) ++ b) w1)
      go_wp2_with fail
      refine cO.out.mono ?_
      rintro e w2 ⟨u, rfl, hu, bw⟩
      have B2 := hide' (B1.out.trans (bw.mono B1.out.size))
      have c3 := hide' (c1.out u w2 hu)
      obtain ⟨ao, ca, _, _, he, -⟩ := holdsF_parts hu
      replace he : u = .slice ao 1 ca := he
      rw [he] at c3 ⊢
      clear hu bw he B1 c1 cO
      go_wp2_with fail
      refine c3.out.mono ?_
      rintro e w3 ⟨rfl, bw⟩
      have B3 := hide' (B2.out.trans (bw.mono B2.out.size))
      clear bw B2 c3
      go_wp2_with fail
      refine (c2.out _).mono ?_
      rintro e w4 ⟨rfl, bw⟩
      have B4 := hide' ((B3.out.alloc B3.out.size _).trans (bw.mono (B3.out.alloc B3.out.size (.cells #[.string ⟨ccb.toArray⟩, .string a, .string ⟨ccb.toArray⟩, .string b] 34)).size))
      clear bw B3 c2
      go_wp2_with fail
      go_ret
      exact ⟨rfl, B4.out⟩
end Go.Proofs.YtemmghmacbofaaaDoor
