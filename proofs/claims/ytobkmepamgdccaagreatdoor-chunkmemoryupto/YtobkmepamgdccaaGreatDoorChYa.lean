/- The contract of appendChunk. -/
import Derived.Test.YtobkmepamgdccaaGreatDoorChY
namespace Go.Proofs.YtobkmepamgdccaaGreatDoor
open Go.RowKit
set_option maxRecDepth 20000 in
set_option maxHeartbeats 2000000 in
theorem appChunkC (w0 : World) (cv dv : Value) (ps ds : List UInt8) (w : World) (hown : Own w0 cv ps w) (hd : HoldsB w0 dv ds) (h0 : 0 < ds.length) (h1 : ds.length ≤ 65536) (hl : ps.length ≤ 900000000) (Z : Bru w0) :
    Calls Tryz.prog 25 #[cv, dv] w fun e w' => ∃ v', e = .returned v' ∧ Own w0 v' (ps ++ hexOf ds.length ++ [13, 10] ++ ds ++ [13, 10]) w' := by
  have C := hide' (appC w0 cv ps ds.length h0 h1 w hown (by omega) (bru_below Z hown.2))
  have hx := (hexOf_facts ds.length h1).2.1
  have HD := hide' hd
  obtain ⟨ca, cc, hcv⟩ := row_slice hown.1
  subst hcv
  obtain ⟨ao, cap, rfl, _⟩ := hd
  obtain ⟨n, hn⟩ : ∃ n, n = ds.length := ⟨_, rfl⟩
  have HN := hide' hn
  rw [← hn] at C hx h1 h0 HD ⊢
  generalize hexOf n = hx' at C hx ⊢
  clear hown Z hn
  go_enter Tryz.func25, Tryz.ntmps25
  go_wp2_with fail
  refine C.out.mono ?_
  rintro e w1 ⟨v1, rfl, ho1⟩
  have O1 := hide' ho1
  have HD1 := hide' (holdsB_mono HD.out ho1.2)
  clear ho1 C
  have L1 : Hid ((ps ++ hx').length ≤ 900000008) := by unfold Hid; rw [List.length_append]; omega
  obtain ⟨p1, hp1⟩ : ∃ p1, p1 = ps ++ hx' := ⟨_, rfl⟩
  have HP1 := hide' hp1
  rw [← hp1] at O1 L1
  clear hp1
  have L2 : Hid ((p1 ++ [13, 10]).length ≤ 900000010) := by unfold Hid; rw [List.length_append]; have := L1.out; simp; omega
  have L3 : Hid ((p1 ++ [13, 10] ++ ds).length ≤ 900065546) := by unfold Hid; rw [List.length_append]; have h5 := L2.out; have h6 := HN.out; omega
  obtain ⟨va, vc, hv1⟩ := row_slice O1.out.1
  subst hv1
  go_wp2_with (first
    | (at_builtin; refine appStr rfl (.tmp 9) (.const (.string ⟨#[13, 10]⟩)) rfl w0 _ p1 rfl O1.out [13, 10] rfl (by have := L1.out; simp; omega) ?_; intro v2 w2 ho2 _; have O2 := hide' ho2; have HD2 := hide' (holdsB_mono HD.out ho2.2); clear ho2)
    | (at_builtin; refine appAllB rfl (.tmp 11) (.tmp 12) rfl w0 _ (p1 ++ [13, 10]) rfl O2.out _ ds rfl HD2.out (by have h5 := L2.out; have h6 := HN.out; omega) ?_; intro v3 w3 ho3; have O3 := hide' ho3; clear ho3)
    | (at_builtin; refine appStr rfl (.tmp 14) (.const (.string ⟨#[13, 10]⟩)) rfl w0 _ (p1 ++ [13, 10] ++ ds) rfl O3.out [13, 10] rfl (by have h5 := L3.out; rw [show ([13, 10] : List UInt8).length = 2 from rfl]; omega) ?_; intro v4 w4 ho4 _))
  go_ret
  exact ⟨v4, rfl, by rw [← HP1.out]; exact ho4⟩
end Go.Proofs.YtobkmepamgdccaaGreatDoor
