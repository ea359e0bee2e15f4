/- The contract of the document's body. -/
import Derived.Test.YtmikgpmnffdnnabGreatDoorInT
import Derived.Test.YtmikgpmnffdnnabGreatDoorInE
import Derived.Test.YtmikgpmnffdnnabGreatDoorChK
import Derived.Test.YtmikgpmnffdnnabGreatDoorBj
import Derived.Test.YtmikgpmnffdnnabGreatDoorChLn
import Derived.Deep.RegionHeld3
namespace Go.Proofs.YtmikgpmnffdnnabGreatDoor
open Go.RowKit
theorem bodyM_other (b : List UInt8) (n : Nat) (k l : Int) (h1 : k ≠ 1) (h2 : k ≠ 2) : bodyM b n k l = ([], [], n, 0) := by unfold bodyM; rw [if_neg h1, if_neg h2]
theorem bodyM_short (b : List UInt8) (n l : Nat) (hn : n ≤ b.length) (h : b.length - n < l) : bodyM b n 1 (l : Int) = ([], [], 0, 0) := by
  unfold bodyM; rw [if_pos rfl, if_pos (by omega)]
theorem bodyM_len (b : List UInt8) (n l : Nat) (hn : n ≤ b.length) (h : ¬ b.length - n < l) : bodyM b n 1 (l : Int) = ((b.drop n).take l, [], n + l, 0) := by
  unfold bodyM; rw [if_pos rfl, if_neg (by omega), Int.toNat_natCast]
theorem bodyM_dec (b : List UInt8) (n : Nat) (l : Int) : bodyM b n 2 l = if (decOf (b.drop n)).2.2.2 ≠ 0 ∨ (decOf (b.drop n)).2.2.1 = 0 then ([], [], 0, (decOf (b.drop n)).2.2.2) else ((decOf (b.drop n)).1, (decOf (b.drop n)).2.1, n + (decOf (b.drop n)).2.2.1, 0) := by
  unfold bodyM; rw [if_neg (by decide), if_pos rfl]
set_option maxRecDepth 100000 in
set_option maxHeartbeats 4000000 in
theorem bodyRef0 (v : Value) (bs : List UInt8) (n : Nat) (l : Int) (w : World) (hv : HoldsB w v bs) (hn : n ≤ bs.length) (_hn0 : 0 < n) (hs : bs.length < 4294967281) :
    Calls Tryz.prog 24 #[v, .int .i64 (n : Int), .agg #[.int .i64 0, .int .i64 l]] w fun e w' => ∃ dv lv, e = .returned (decV (bodyM bs n 0 l) dv lv) ∧ Own w dv (bodyM bs n 0 l).1 w' ∧ OwnF w lv (bodyM bs n 0 l).2.1 w' := by
  rw [bodyM_other bs n 0 l (by decide) (by decide)]
  have b1 := below_alloc' w (.cells #[.int .i64 0, .int .i64 l] 48)
  have B1 := hide' b1
  have D1 := hide' (duo_lit w (.int .i64 0) (.int .i64 l) 48)
  have HV := hide' hv
  obtain ⟨N, hN⟩ : ∃ N, N = bs.length := ⟨_, rfl⟩
  have HN := hide' hN
  obtain ⟨ao, cap, rfl, h0, hcp, _⟩ := hv
  rw [← hN] at hn hcp hs ⊢
  have hn2 : n < 4294967281 := by omega
  clear HV hN b1 h0
  go_enter Tryz.func24, Tryz.ntmps24
  go_wp2_with fail
  exact bodyPost_ret (v := .tuple #[.slice none 0 0, .slice none 0 0, .int .i64 (n : Int), .int .i64 0]) (by simp [results, Tryz.results24, go_sem]) rfl ⟨_, _, rfl, own_nil _ _ B1.out, ownF_nil _ _ B1.out⟩
set_option maxRecDepth 100000 in
set_option maxHeartbeats 4000000 in
theorem bodyRef1 (v : Value) (bs : List UInt8) (n : Nat) (l : Nat) (w : World) (hv : HoldsB w v bs) (hn : n ≤ bs.length) (_hn0 : 0 < n) (hs : bs.length < 4294967281) (hl : l ≤ 65536) :
    Calls Tryz.prog 24 #[v, .int .i64 (n : Int), .agg #[.int .i64 1, .int .i64 (l : Int)]] w fun e w' => ∃ dv lv, e = .returned (decV (bodyM bs n 1 (l : Int)) dv lv) ∧ Own w dv (bodyM bs n 1 (l : Int)).1 w' ∧ OwnF w lv (bodyM bs n 1 (l : Int)).2.1 w' := by
  have e1 := bodyM_short bs n l hn
  have e2 := bodyM_len bs n l hn
  have b1 := below_alloc' w (.cells #[.int .i64 1, .int .i64 (l : Int)] 48)
  have B1 := hide' b1
  have D1 := hide' (duo_lit w (.int .i64 1) (.int .i64 (l : Int)) 48)
  have HV := hide' hv
  obtain ⟨N, hN⟩ : ∃ N, N = bs.length := ⟨_, rfl⟩
  have HN := hide' hN
  obtain ⟨ao, cap, rfl, h0, hcp, _⟩ := hv
  rw [← hN] at hn hcp hs ⊢
  have hn2 : n < 4294967281 := by omega
  rw [← hN] at e1 e2
  have E1 := hide' e1
  have E2 := hide' e2
  by_cases hlt : N - n < l
  · have hlt' : (N : Int) - (n : Int) < (l : Int) := by omega
    rw [e1 hlt]
    clear HV hN b1 h0 e1 e2 E1 E2
    go_enter Tryz.func24, Tryz.ntmps24
    go_wp2_with fail
    exact bodyPost_ret (v := .tuple #[.slice none 0 0, .slice none 0 0, .int .i64 0, .int .i64 0]) (by simp [results, Tryz.results24, go_sem]) rfl ⟨_, _, rfl, own_nil _ _ B1.out, ownF_nil _ _ B1.out⟩
  · have hlt' : ¬ (N : Int) - (n : Int) < (l : Int) := by omega
    rw [e2 hlt]
    obtain ⟨pv, sl, HP⟩ := holdsB_mid HV.out n (n + l) ((n : Int) + (l : Int)) (by omega) (by omega) (by rw [← hN]; omega)
    rw [← hN] at sl
    have e3 : n + l - n = l := by omega
    rw [e3] at HP
    have hcl : ((bs.drop n).take l).length ≤ N := by rw [List.length_take, List.length_drop]; omega
    have C := hide' (fun W (h : Below (w.alloc (.cells #[.int .i64 1, .int .i64 (l : Int)] 48)).heap.size (w.alloc (.cells #[.int .i64 1, .int .i64 (l : Int)] 48)) W) => (copyB pv _ W (holdsB_mono HP (bt' B1.out h)) (by omega)).mono (R' := fun e w' => ∃ u, e = .returned u ∧ Hid (Own w u ((bs.drop n).take l) w') ∧ w'.cell? ⟨w.heap.size, 1, none⟩ = some (.int .i64 (l : Int))) (by
      rintro e w' ⟨u, rfl, ho⟩
      exact ⟨u, rfl, own_base ho (bt' B1.out h), (duo_below D1.out (bt' h ho.2)).2.1⟩))
    generalize (bs.drop n).take l = cs at C ⊢
    clear HV hN b1 h0 e1 e2 E1 E2 HP hcl
    obtain ⟨d0, d1, d2, d3, dz⟩ := D1.out
    have hw : IntKind.i64.wrap ((n : Int) + (l : Int)) = (n : Int) + (l : Int) := by rw [IntKind.wrap_i64]; omega
    go_enter Tryz.func24, Tryz.ntmps24
    go_wp2_with fail
    go_region_held3 (fun w' => w'.cell? ⟨w.heap.size, 1, none⟩ = some (.int .i64 (l : Int))) (go_keep)
      (first
        | (go_at_call 7; refine (C.out _ ?_).mono ?_; (first | exact (Below.refl _ _).drew | exact Below.refl _ _); rintro e w2 ⟨u, rfl, O2, k1⟩))
    all_goals
      go_wp2_with fail
      exact bodyPost_ret (v := .tuple #[u, .slice none 0 0, .int .i64 ((n + l : Nat) : Int), .int .i64 0]) (by simp [results, Tryz.results24, go_sem]) rfl ⟨_, _, rfl, O2.out, ownF_nil _ _ O2.out.2⟩
set_option maxRecDepth 100000 in
set_option maxHeartbeats 4000000 in
theorem bodyRef2 (v : Value) (bs : List UInt8) (n : Nat) (l : Int) (w : World) (hv : HoldsB w v bs) (hn : n ≤ bs.length) (_hn0 : 0 < n) (hs : bs.length < 4294967281) :
    Calls Tryz.prog 24 #[v, .int .i64 (n : Int), .agg #[.int .i64 2, .int .i64 l]] w fun e w' => ∃ dv lv, e = .returned (decV (bodyM bs n 2 l) dv lv) ∧ Own w dv (bodyM bs n 2 l).1 w' ∧ OwnF w lv (bodyM bs n 2 l).2.1 w' := by
  have e1 := bodyM_dec bs n l
  have hle : (decOf (bs.drop n)).2.2.1 ≤ bs.length := by
    rcases Nat.eq_zero_or_pos (decOf (bs.drop n)).2.2.1 with h | h
    · omega
    · obtain ⟨j, e1, _, j1, _, _⟩ := dec_own _ (bs.drop n) [] 0 (Nat.lt_succ_self _) h
      have e2 : (decOf (bs.drop n)).2.2.1 = j := by unfold decOf; rw [e1, Nat.zero_add]
      rw [List.length_drop] at j1
      omega
  have b1 := below_alloc' w (.cells #[.int .i64 2, .int .i64 l] 48)
  have B1 := hide' b1
  have D1 := hide' (duo_lit w (.int .i64 2) (.int .i64 l) 48)
  have HV := hide' hv
  obtain ⟨N, hN⟩ : ∃ N, N = bs.length := ⟨_, rfl⟩
  have HN := hide' hN
  obtain ⟨ao, cap, rfl, h0, hcp, _⟩ := hv
  rw [← hN] at hn hcp hs ⊢
  have hn2 : n < 4294967281 := by omega
  have hnb : n ≤ bs.length := by rw [← hN]; exact hn
  have sl := fun W => from_run ao bs.length cap n hnb (by rw [← hN]; exact hcp) W
  have HS := holdsB_suf HV.out n hnb
  rw [← hN] at sl hle
  have C := decRef _ (bs.drop n) _ (holdsB_mono HS b1) (by rw [List.length_drop]; omega)
  rw [← hN] at C
  rw [e1]
  generalize decOf (bs.drop n) = D at C hle ⊢
  obtain ⟨d, fs, k, er⟩ := D
  unfold decV at C ⊢
  simp only at C hle ⊢
  have CC := hide' C
  generalize hsv : Lib.fromV ao N cap n = sv at sl CC
  clear HV hN b1 h0 C HS e1 hsv
  go_enter Tryz.func24, Tryz.ntmps24
  go_wp2_with fail
  refine CC.out.mono ?_
  rintro e w2 ⟨dv, lv, rfl, ho, hf⟩
  have B2 := hide' (bt' B1.out ho.2)
  have HO := hide' (own_base ho B1.out)
  have HF := hide' (show OwnF w lv fs w2 from ⟨row_base hf.1 (by simp), bt' B1.out hf.2⟩)
  clear ho hf CC
  by_cases h1 : er = 0
  · subst h1
    by_cases h2 : k = 0
    · subst h2
      go_wp2_with fail
      exact bodyPost_ret (v := .tuple #[.slice none 0 0, .slice none 0 0, .int .i64 0, .int .i64 0]) (by simp [results, Tryz.results24, go_sem]) rfl ⟨.slice none 0 0, .slice none 0 0, by simp, by simpa using own_nil _ _ B2.out, by simpa using ownF_nil _ _ B2.out⟩
    · have hz : ((k : Int) == 0) = false := by simp; omega
      have hk2 : k < 4294967281 := by omega
      go_wp2_with fail
      exact bodyPost_ret (v := .tuple #[dv, lv, .int .i64 ((n + k : Nat) : Int), .int .i64 0]) (by simp [results, Tryz.results24, go_sem]) rfl ⟨dv, lv, by simp, by simpa [h2] using HO.out, by simpa [h2] using HF.out⟩
  · have h1' : (er == 0) = false := by simpa using h1
    have h1'' : (er != 0) = true := by simpa using h1
    go_wp2_with fail
    exact bodyPost_ret (v := .tuple #[.slice none 0 0, .slice none 0 0, .int .i64 0, .int .i64 er]) (by simp [results, Tryz.results24, go_sem]) rfl ⟨.slice none 0 0, .slice none 0 0, by simp, by simpa [h1] using own_nil _ _ B2.out, by simpa [h1] using ownF_nil _ _ B2.out⟩
theorem bodyRef (v : Value) (bs : List UInt8) (n : Nat) (k l : Int) (w : World) (hv : HoldsB w v bs) (hn : n ≤ bs.length) (hn0 : 0 < n) (hs : bs.length < 4294967281) (hk : Kind (k, l, 0)) (h3 : k ≠ 3) :
    Calls Tryz.prog 24 #[v, .int .i64 (n : Int), .agg #[.int .i64 k, .int .i64 l]] w fun e w' => ∃ dv lv, e = .returned (decV (bodyM bs n k l) dv lv) ∧ Own w dv (bodyM bs n k l).1 w' ∧ OwnF w lv (bodyM bs n k l).2.1 w' := by
  rcases hk with hk | ⟨hk, l', hl, hlb⟩ | hk | hk
  · simp only at hk; subst hk; exact bodyRef0 v bs n l w hv hn hn0 hs
  · simp only at hk hl; subst hk hl; exact bodyRef1 v bs n l' w hv hn hn0 hs hlb
  · simp only at hk; subst hk; exact bodyRef2 v bs n l w hv hn hn0 hs
  · exact absurd hk h3
end Go.Proofs.YtmikgpmnffdnnabGreatDoor
