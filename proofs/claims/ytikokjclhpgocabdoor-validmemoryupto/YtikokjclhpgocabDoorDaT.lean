/- Numbers as texts: the contracts of twoDigits and of the document's Show of a number, two, week and month. -/
import Derived.Test.YtikokjclhpgocabDoorBn
import Derived.Test.YtikokjclhpgocabDoorOwnB
import Derived.Test.YtikokjclhpgocabDoorShelf
namespace Go.Proofs.YtikokjclhpgocabDoor
open Go.RowKit
def dg (v : Int) : UInt8 := UInt8.ofNat (48 + v.toNat)
def D2 (v : Int) : List UInt8 := [dg (v / 10), dg (v % 10)]
def D4 (v : Int) : List UInt8 := [dg (v / 1000), dg (v / 100 % 10), dg (v / 10 % 10), dg (v % 10)]
theorem toList_mk (l : List UInt8) : (⟨l.toArray⟩ : ByteArray).data.toList = l := rfl
theorem ba_ofD {s : ByteArray} {l : List UInt8} (h : s.data.toList = l) : s = ⟨l.toArray⟩ := by cases s; simp at h; simp [← h]
theorem size_of {s : ByteArray} {l : List UInt8} (h : s.data.toList = l) : s.size = l.length := by rw [← h]; simp
theorem app_list (a b : ByteArray) : (a ++ b).data.toList = a.data.toList ++ b.data.toList := by simp [ByteArray.data_append]
theorem dec_small1 {n : Nat} (h : n < 10) : Lib.decDigits n = [dg n] := by rw [Lib.decDigits_one h]; rfl
theorem dg_nat (n : Nat) : UInt8.ofNat (48 + n) = dg (n : Int) := rfl
theorem dec_twoD {n : Nat} (h1 : 10 ≤ n) (h2 : n < 100) : Lib.decDigits n = D2 n := by
  rw [Lib.decDigits_two (by omega) h2]; rfl
theorem dec_four {n : Nat} (h1 : 1000 ≤ n) (h2 : n < 10000) : Lib.decDigits n = D4 n := by
  rw [Lib.decDigits, dif_neg (by omega), Lib.decDigits, dif_neg (by omega), Lib.decDigits, dif_neg (by omega), Lib.decDigits_one (by omega)]
  simp only [D4, dg, List.cons_append, List.nil_append, List.cons.injEq]
  exact ⟨congrArg _ (by omega), congrArg _ (by omega), congrArg _ (by omega), congrArg _ (by omega), trivial⟩
theorem dg_zero {n : Nat} (h : n < 10) : D2 n = [48, dg n] := by
  unfold D2
  rw [show ((n : Int) / 10) = 0 by omega, show ((n : Int) % 10) = n by omega]; rfl
def decED (k : Nat) : List UInt8 := if k = 0 then [] else Lib.decDigits k
theorem decED_step {k : Nat} (h : k ≠ 0) : decED k = decED (k / 10) ++ [UInt8.ofNat (48 + k % 10)] := by
  unfold decED
  rw [if_neg h]
  by_cases h1 : k < 10
  · rw [if_pos (by omega), Lib.decDigits_one h1, show k % 10 = k by omega]; rfl
  · rw [if_neg (by omega), Lib.decDigits, dif_neg h1]
theorem dig_valD (k : Nat) : (48 + (k : Int) % 10) = ((UInt8.ofNat (48 + k % 10)).toNat : Int) := by
  rw [UInt8.toNat_ofNat']; omega
theorem drop_revD {ds : List UInt8} {k : Nat} (h : k + 1 ≤ ds.length) : (ds.drop k).reverse = (ds.drop (k + 1)).reverse ++ [ds[k]'(by omega)] := by
  rw [List.drop_eq_getElem_cons (by omega)]; simp
set_option maxHeartbeats 2000000 in
theorem showNum (n : Nat) (hn : n ≤ 9999) (w : World) :
    Calls Tryd.prog 63 #[.int .i64 n] w fun e w' => e = .returned (.string ⟨(Lib.decDigits n).toArray⟩) ∧ Below w.heap.size w w' := by
  by_cases h0 : n = 0
  · subst h0
    have H : Hid (Lib.decDigits 0 = [48]) := by unfold Hid; rw [Lib.decDigits_one (by omega)]; rfl
    clear hn
    go_enter Tryd.func63, Tryd.ntmps63
    go_wp2
    go_ret
    rw [H.out]
    exact ⟨rfl, Below.refl _ _⟩
  · have b0 : ((n : Int) == 0) = false := by simp; omega
    have HD : Hid (decED n = Lib.decDigits n) := by unfold Hid decED; rw [if_neg h0]
    have hpos : 0 < n := by omega
    clear h0
    generalize Lib.decDigits n = D at HD ⊢
    go_enter Tryd.func63, Tryd.ntmps63
    go_wp2
    go_loopw [0, 3, 5] (fun vv dv _ wr => ∃ (k : Nat) (ds : List UInt8), vv = .int .i64 k ∧ k + ds.length ≤ n ∧ Hid (decED k ++ ds.reverse = D) ∧ Own w dv ds wr) (fun vv _ _ _ => (intOf vv).toNat)
    case atStart => exact ⟨n, [], rfl, by simp, by unfold Hid; rw [HD.out]; simp, own_empty w⟩
    case round =>
      obtain ⟨k, ds, rfl, hk, hR, hown⟩ := hrel
      obtain ⟨w5, e5⟩ : ∃ x, x = wr := ⟨_, rfl⟩
      subst e5
      by_cases hk0 : k = 0
      · have HE : Hid (ds.reverse = D) := by have := hR.out; unfold Hid; rw [hk0] at this; simpa [decED] using this
        have e0 : (k : Int) = 0 := by omega
        rw [e0]
        clear e0 hR
        rcases hown.1.2 with ⟨rfl, hn0⟩ | ⟨g, cap, cur, rfl, hh⟩
        · exfalso
          have e1 : ds = [] := List.eq_nil_of_length_eq_zero hn0
          have e2 : decED n = [] := by rw [HD.out, ← HE.out, e1]; rfl
          rw [decED_step (by omega)] at e2
          simp at e2
        · obtain ⟨m, hm⟩ : ∃ m, m = ds.length := ⟨_, rfl⟩
          have hml : m ≤ 9999 := by omega
          have HO : Hid (Own w (.slice (some ⟨g, 0, none⟩) ds.length cap) ds w5) := hown
          rw [← hm] at hown ⊢
          have hgl : g < w5.heap.size := (hown.1.lt g rfl).2
          have HM : Hid (m = ds.length) := hm
          clear hm hh hown
          go_wp2_with fail
          go_loopw [6, 7] (fun ov iv wr => ∃ (j : Nat), j ≤ m ∧ iv = .int .i64 ((j : Int) - 1) ∧ Own w5 ov ((ds.drop j).reverse) wr) (fun _ iv _ => (intOf iv + 1).toNat)
          case atStart => exact ⟨m, by omega, rfl, by rw [HM.out, List.drop_length]; exact own_empty w5⟩
          case round =>
            obtain ⟨j, hj, rfl, hown2⟩ := hrel
            cases j with
            | zero =>
              have hc := own_conv hown2
              have HF : Hid ((⟨((ds.drop 0).reverse).toArray⟩ : ByteArray) = ⟨D.toArray⟩) := by unfold Hid; rw [List.drop_zero, HE.out]
              generalize (ds.drop 0).reverse = Z at hc HF hown2
              go_wp2_with fail
              go_ret
              rw [HF.out]
              exact ⟨rfl, HO.out.2.trans (hown2.2.mono HO.out.2.size)⟩
            | succ j =>
              have hjl : j < ds.length := by have := HM.out; omega
              have hcell : w5.cell? ⟨g, j, none⟩ = some (.int .u8 (ds[j].toNat : Int)) := by
                have := HO.out.1.cells rfl j (B ds[j]) (by simp [hjl])
                rcases Nat.eq_zero_or_pos j with rfl | hp
                · simpa [Addr.add, B] using this
                · simpa [Addr.add, B, Nat.ne_of_gt hp] using this
              have hc2 : wr.cell? ⟨g, j, none⟩ = some (.int .u8 (ds[j].toNat : Int)) := by
                rw [hown2.2.cell (p := ⟨g, j, none⟩) hgl]; exact hcell
              have R : Hid ((ds.drop j).reverse = (ds.drop (j + 1)).reverse ++ [ds[j]]) := drop_revD (by omega)
              have hl : ((ds.drop (j + 1)).reverse).length ≤ 9999 := by simp; have := HM.out; omega
              have hb := byte_lt ds[j]
              generalize ds[j] = c at hcell hc2 R hb
              generalize (ds.drop (j + 1)).reverse = Z at hown2 R hl
              have j0 : (0 : Int) ≤ ((j + 1 : Nat) : Int) - 1 := by omega
              clear hcell hjl
              go_wp2_with (at_builtin; refine app1 rfl (.tmp 41) (.tmp 46) rfl w5 _ _ rfl hown2 c rfl rfl (by omega) ?_; intro v1 w3 hown3)
              go_roundw
              case rel => exact ⟨j, by omega, by go_num, by rw [R.out]; exact hown3⟩
              case measure => simp [intOf]
      · have b1 : ((k : Int) != 0) = true := by simp; omega
        have r0 : 0 ≤ (k : Int) % 10 := by omega
        have r1 : (k : Int) % 10 ≤ 9 := by omega
        have dv := dig_valD k
        have R : Hid (decED (k / 10) ++ (ds ++ [UInt8.ofNat (48 + k % 10)]).reverse = D) := by
          unfold Hid; rw [← hR.out, decED_step hk0]; simp
        have DV : Hid (48 + (k : Int) % 10 = ((UInt8.ofNat (48 + k % 10)).toNat : Int)) := dv
        generalize UInt8.ofNat (48 + k % 10) = c at R DV
        clear dv hR
        go_wp2_with (at_builtin; refine app1 rfl (.tmp 21) (.tmp 25) rfl w _ _ rfl hown c (DV.out) rfl (by omega) ?_; intro v1 w1 hown1)
        go_roundw
        case rel => exact ⟨k / 10, ds ++ [c], by go_num, by simp; omega, R, hown1⟩
        case measure => simp [intOf]; omega
end Go.Proofs.YtikokjclhpgocabDoor
