/- The document's decimal text of any number. A row of bytes of the call's own whose block may bear a mark (as a text that was converted leaves it); more appended to it. The contract of the document's Print. -/
import Derived.Test.YtenegcoapejbmaaGreatDoorBa
import Derived.Lib.ItoaNum
import Derived.Handy
import Derived.Test.YtenegcoapejbmaaGreatDoorBb
import Derived.Laws.IdiomCopy
import Derived.Deep.MidRow
import Derived.Lib.AppendZeros
import Derived.Test.YtenegcoapejbmaaGreatDoorBf
import Derived.Deep.RegionHeldLaw
import Derived.Deep.DrawnRows
namespace Go.Proofs.YtenegcoapejbmaaGreatDoor
open Go.RowKit
theorem hideS {p : Prop} (h : p) : Hid p := h
def decE (k : Nat) : List UInt8 := if k = 0 then [] else Lib.decDigits k
theorem decE_step {k : Nat} (h : k ≠ 0) : decE k = decE (k / 10) ++ [UInt8.ofNat (48 + k % 10)] := by
  unfold decE
  rw [if_neg h]
  by_cases h1 : k < 10
  · rw [if_pos (by omega), Lib.decDigits_one h1, show k % 10 = k by omega]; rfl
  · rw [if_neg (by omega), Lib.decDigits, dif_neg h1]
theorem decE_len : ∀ (m k : Nat), k < 10 ^ m → (decE k).length ≤ m := by
  intro m
  induction m with
  | zero => intro k h; obtain rfl : k = 0 := by simpa using h
            simp [decE]
  | succ m ih =>
    intro k h
    by_cases h0 : k = 0
    · subst h0; simp [decE]
    · rw [decE_step h0, List.length_append, List.length_singleton]
      have := ih (k / 10) (by rw [Nat.pow_succ] at h; omega)
      omega
theorem dig_val (k : Nat) : (48 + (k : Int) % 10) = ((UInt8.ofNat (48 + k % 10)).toNat : Int) := by
  rw [UInt8.toNat_ofNat']; omega
theorem drop_rev {ds : List UInt8} {k : Nat} (h : k + 1 ≤ ds.length) : (ds.drop k).reverse = (ds.drop (k + 1)).reverse ++ [ds[k]'(by omega)] := by
  rw [List.drop_eq_getElem_cons (by omega)]; simp
theorem own_some {w0 w : World} {v : Value} {bs : List UInt8} (h : Own w0 v bs w) (hp : 0 < bs.length) : ∃ g cap, v = .slice (some ⟨g, 0, none⟩) bs.length cap := by
  rcases h.1.2 with ⟨_, hn⟩ | ⟨g, cap, cur, e, _⟩
  · omega
  · exact ⟨g, cap, e⟩
theorem app1i {ops : Array Oper} {rest : List Oper} {o : Oper} {a : Act} {Q : Exit → Act → World → Prop} {wr : World} {n : Int} (hgd : o.guard = none) (s x : Operand)
    (ho : o.op = .call { callee := .builtin .append, args := #[s, x], argTypes := #[22, 22] }) (w0 : World) (v : Value) (bs : List UInt8) (hs : a.eval s = v) (hown : Own w0 v bs wr)
    (c : UInt8) (hn : n = (c.toNat : Int)) (hx : a.eval x = .slice (some ⟨wr.heap.size, 0, none⟩) 1 1) (hlen : bs.length + 1 ≤ 140737488355328)
    (h : ∀ v' w', Own w0 v' (bs ++ [c]) w' → wpList Tryz.prog ops Q rest (a.put o.dst v') w') : wpList Tryz.prog ops Q (o :: rest) a (wr.alloc (.cells #[.int .u8 n] 5)) :=
  app1 hgd s x ho w0 v bs hs hown c hn hx hlen h
set_option maxHeartbeats 2000000 in
theorem showNat (n : Nat) (hn : n ≤ 9223372036854775807) (w : World) :
    Calls Tryz.prog 53 #[.int .i64 n] w fun e w' => e = .returned (.string ⟨(Lib.decDigits n).toArray⟩) ∧ Below w.heap.size w w' := by
  by_cases h0 : n = 0
  · subst h0
    have H : Hid (Lib.decDigits 0 = [48]) := by unfold Hid; rw [Lib.decDigits_one (by omega)]; rfl
    clear hn
    go_enter Tryz.func53, Tryz.ntmps53
    go_wp2
    go_ret
    rw [H.out]
    exact ⟨rfl, Below.refl _ _⟩
  · have b0 : ((n : Int) == 0) = false := by simp; omega
    have HD : Hid (decE n = Lib.decDigits n) := by unfold Hid decE; rw [if_neg h0]
    have hDl : (Lib.decDigits n).length ≤ 20 := by rw [← HD.out]; exact decE_len 20 n (by omega)
    have hpos : 0 < n := by omega
    clear h0
    generalize Lib.decDigits n = D at HD hDl ⊢
    go_enter Tryz.func53, Tryz.ntmps53
    go_wp2
    go_loopw [0, 3, 5] (fun vv dv _ wr => ∃ (k : Nat) (ds : List UInt8), vv = .int .i64 k ∧ k ≤ n ∧ ds.length ≤ 20 ∧ Hid (decE k ++ ds.reverse = D) ∧ Own w dv ds wr) (fun vv _ _ _ => (intOf vv).toNat)
    case atStart => exact ⟨n, [], rfl, by omega, by simp, by unfold Hid; rw [HD.out]; simp, own_empty w⟩
    case round =>
      obtain ⟨k, ds, rfl, hk, hdl, hR, hown⟩ := hrel
      obtain ⟨w5, e5⟩ : ∃ x, x = wr := ⟨_, rfl⟩
      subst e5
      by_cases hk0 : k = 0
      · have HE : Hid (ds.reverse = D) := by have := hR.out; unfold Hid; rw [hk0] at this; simpa [decE] using this
        have e0 : (k : Int) = 0 := by omega
        rw [e0]
        clear e0 hR
        rcases hown.1.2 with ⟨rfl, hn0⟩ | ⟨g, cap, cur, rfl, hh⟩
        · exfalso
          have e1 : ds = [] := List.eq_nil_of_length_eq_zero hn0
          have e2 : decE n = [] := by rw [HD.out, ← HE.out, e1]; rfl
          rw [decE_step (by omega)] at e2
          simp at e2
        · obtain ⟨m, hm⟩ : ∃ m, m = ds.length := ⟨_, rfl⟩
          have hml : m ≤ 40 := by omega
          have HO : Hid (Own w (.slice (some ⟨g, 0, none⟩) ds.length cap) ds w5) := hown
          rw [← hm] at hown ⊢
          have hgl : g < w5.heap.size := (hown.1.lt g rfl).2
          have HM : Hid (m = ds.length) := hm
          clear hm hh hown
          go_wp2_with fail
          go_loopw [6, 7] (fun ov iv wr => ∃ (j : Nat), j ≤ m ∧ iv = .int .i64 ((j : Int) - 1) ∧ Own w5 ov ((ds.drop j).reverse) wr) (fun _ iv _ => (intOf iv + 1).toNat)
          case atStart => exact ⟨m, by omega, rfl, by rw [HM.out, List.drop_length]; exact own_empty w5⟩
          case round =>
            obtain ⟨j, hj, rfl, hown2⟩ := hrel
            cases j with
            | zero =>
              have hc := own_conv hown2
              have HF : Hid ((⟨((ds.drop 0).reverse).toArray⟩ : ByteArray) = ⟨D.toArray⟩) := by unfold Hid; rw [List.drop_zero, HE.out]
              generalize (ds.drop 0).reverse = Z at hc HF hown2
              go_wp2_with fail
              go_ret
              rw [HF.out]
              exact ⟨rfl, HO.out.2.trans (hown2.2.mono HO.out.2.size)⟩
            | succ j =>
              have hjl : j < ds.length := by have := HM.out; omega
              have hcell : w5.cell? ⟨g, j, none⟩ = some (.int .u8 (ds[j].toNat : Int)) := by
                have := HO.out.1.cells rfl j (B ds[j]) (by simp [hjl])
                rcases Nat.eq_zero_or_pos j with rfl | hp
                · simpa [Addr.add, B] using this
                · simpa [Addr.add, B, Nat.ne_of_gt hp] using this
              have hc2 : wr.cell? ⟨g, j, none⟩ = some (.int .u8 (ds[j].toNat : Int)) := by
                rw [hown2.2.cell (p := ⟨g, j, none⟩) hgl]; exact hcell
              have R : Hid ((ds.drop j).reverse = (ds.drop (j + 1)).reverse ++ [ds[j]]) := drop_rev (by omega)
              have hl : ((ds.drop (j + 1)).reverse).length ≤ 9999 := by simp; have := HM.out; omega
              have hb := byte_lt ds[j]
              generalize ds[j] = c at hcell hc2 R hb
              generalize (ds.drop (j + 1)).reverse = Z at hown2 R hl
              have j0 : (0 : Int) ≤ ((j + 1 : Nat) : Int) - 1 := by omega
              clear hcell hjl
              go_wp2_with (at_builtin; refine app1 rfl (.tmp 41) (.tmp 46) rfl w5 _ _ rfl hown2 c rfl rfl (by omega) ?_; intro v1 w3 hown3)
              go_roundw
              case rel => exact ⟨j, by omega, by go_num, by rw [R.out]; exact hown3⟩
              case measure => simp [intOf]
      · have b1 : ((k : Int) != 0) = true := by simp; omega
        have r0 : 0 ≤ (k : Int) % 10 := by omega
        have r1 : (k : Int) % 10 ≤ 9 := by omega
        have dv := dig_val k
        have R : Hid (decE (k / 10) ++ (ds ++ [UInt8.ofNat (48 + k % 10)]).reverse = D) := by
          unfold Hid; rw [← hR.out, decE_step hk0]; simp
        have DV : Hid (48 + (k : Int) % 10 = ((UInt8.ofNat (48 + k % 10)).toNat : Int)) := dv
        have hnl : (ds ++ [UInt8.ofNat (48 + k % 10)]).length ≤ 20 := by
          have h := congrArg List.length R.out
          rw [List.length_append, List.length_reverse] at h
          omega
        generalize UInt8.ofNat (48 + k % 10) = c at R DV hnl
        clear dv hR
        go_wp2_with (at_builtin; refine app1 rfl (.tmp 21) (.tmp 25) rfl w _ _ rfl hown c (DV.out) rfl (by omega) ?_; intro v1 w1 hown1)
        go_roundw
        case rel => exact ⟨k / 10, ds ++ [c], by go_num, by omega, hnl, R, hown1⟩
        case measure => simp [intOf]; omega
theorem tm (k : Nat) : (-(k : Int)).tmod 10 = -((k % 10 : Nat) : Int) := by
  rw [Int.neg_tmod]; norm_cast
theorem td (k : Nat) : (-(k : Int)).tdiv 10 = -((k / 10 : Nat) : Int) := by
  rw [Int.neg_tdiv]; norm_cast
set_option maxHeartbeats 2000000 in
theorem showNeg (n : Nat) (hpos : 0 < n) (hn : n ≤ 9223372036854775808) (w : World) :
    Calls Tryz.prog 53 #[.int .i64 (-(n : Int))] w fun e w' => e = .returned (.string ⟨(45 :: Lib.decDigits n).toArray⟩) ∧ Below w.heap.size w w' := by
  have HD : Hid (45 :: decE n = 45 :: Lib.decDigits n) := by unfold Hid decE; rw [if_neg (by omega)]
  have hDl : (45 :: Lib.decDigits n).length ≤ 21 := by rw [← HD.out, List.length_cons]; have := decE_len 20 n (by omega); omega
  generalize 45 :: Lib.decDigits n = D at HD hDl ⊢
  obtain ⟨x, hx⟩ : ∃ x : Int, x = -(n : Int) := ⟨_, rfl⟩
  rw [← hx]
  have HX := hideS hx
  have b0 : (x == 0) = false := by simp; omega
  have bb : decide (x < 0) = true := by simp; omega
  have x0 : -9223372036854775808 ≤ x := by omega
  have x1 : x ≤ 0 := by omega
  clear hx
  go_enter Tryz.func53, Tryz.ntmps53
  go_wp2
  go_loopw [0, 3, 5] (fun vv dv _ wr => ∃ (y : Int) (k : Nat) (ds : List UInt8), vv = .int .i64 y ∧ Hid (y = -(k : Int)) ∧ k ≤ n ∧ ds.length ≤ 20 ∧ Hid (45 :: (decE k ++ ds.reverse) = D) ∧ Own w dv ds wr) (fun vv _ _ _ => (-(intOf vv)).toNat)
  case atStart => exact ⟨x, n, [], rfl, HX, by omega, by simp, by unfold Hid; rw [← HD.out]; simp, own_empty w⟩
  case round =>
    obtain ⟨y, k, ds, rfl, hy, hk, hdl, hR, hown⟩ := hrel
    obtain ⟨w5', e5⟩ : ∃ x, x = wr := ⟨_, rfl⟩
    subst e5
    by_cases hk0 : k = 0
    · have HE : Hid ((ds ++ [45]).reverse = D) := by have := hR.out; unfold Hid; rw [hk0] at this; simpa [decE] using this
      have e0 : y = 0 := by have := hy.out; omega
      subst e0
      clear hR hy
      go_wp2_with (at_builtin; refine app1 rfl (.tmp 30) (.tmp 31) rfl w _ _ rfl hown 45 rfl rfl (by omega) ?_; intro v4 w5 hown4; obtain ⟨g, cap, rfl⟩ := own_some hown4 (by simp); obtain ⟨m, hm⟩ : ∃ m, m = (ds ++ [45]).length := ⟨_, rfl⟩; have hml : m ≤ 40 := (by rw [hm, List.length_append]; simp; omega); have HO := hideS hown4; have HM := hideS hm; rw [← hm] at hown4 ⊢; have hgl : g < w5.heap.size := (hown4.1.lt g rfl).2; clear hm hown4 hown)
      generalize ds ++ [45] = es at HE HO HM
      clear hdl
      go_loopw [6, 7] (fun ov iv wr => ∃ (j : Nat), j ≤ m ∧ iv = .int .i64 ((j : Int) - 1) ∧ Own w5 ov ((es.drop j).reverse) wr) (fun _ iv _ => (intOf iv + 1).toNat)
      case atStart => exact ⟨m, by omega, rfl, by rw [HM.out, List.drop_length]; exact own_empty w5⟩
      case round =>
        obtain ⟨j, hj, rfl, hown2⟩ := hrel
        cases j with
        | zero =>
          have hc := own_conv hown2
          have HF : Hid ((⟨((es.drop 0).reverse).toArray⟩ : ByteArray) = ⟨D.toArray⟩) := by unfold Hid; rw [List.drop_zero, HE.out]
          generalize (es.drop 0).reverse = Z at hc HF hown2
          go_wp2_with fail
          go_ret
          rw [HF.out]
          exact ⟨rfl, HO.out.2.trans (hown2.2.mono HO.out.2.size)⟩
        | succ j =>
          have hjl : j < es.length := by have := HM.out; omega
          have hcell : w5.cell? ⟨g, j, none⟩ = some (.int .u8 (es[j].toNat : Int)) := by
            have := HO.out.1.cells rfl j (B es[j]) (by simp [hjl])
            rcases Nat.eq_zero_or_pos j with rfl | hp
            · simpa [Addr.add, B] using this
            · simpa [Addr.add, B, Nat.ne_of_gt hp] using this
          have hc2 : wr.cell? ⟨g, j, none⟩ = some (.int .u8 (es[j].toNat : Int)) := by
            rw [hown2.2.cell (p := ⟨g, j, none⟩) hgl]; exact hcell
          have R : Hid ((es.drop j).reverse = (es.drop (j + 1)).reverse ++ [es[j]]) := drop_rev (by omega)
          have hl : ((es.drop (j + 1)).reverse).length ≤ 9999 := by simp; have := HM.out; omega
          have hb := byte_lt es[j]
          generalize es[j] = c at hcell hc2 R hb
          generalize (es.drop (j + 1)).reverse = Z at hown2 R hl
          have j0 : (0 : Int) ≤ ((j + 1 : Nat) : Int) - 1 := by omega
          clear hcell hjl
          go_wp2_with (at_builtin; refine app1 rfl (.tmp 41) (.tmp 46) rfl w5 _ _ rfl hown2 c rfl rfl (by omega) ?_; intro v1 w3 hown3)
          go_roundw
          case rel => exact ⟨j, by omega, by go_num, by rw [R.out]; exact hown3⟩
          case measure => simp [intOf]
    · have b1 : (y != 0) = true := by have := hy.out; simp; omega
      have y0 : -9223372036854775808 ≤ y := by have := hy.out; omega
      have y1 : y < 0 := by have := hy.out; omega
      have m1 : y.tmod 10 = -((k % 10 : Nat) : Int) := by rw [hy.out]; exact tm k
      have d1 : y.tdiv 10 = -((k / 10 : Nat) : Int) := by rw [hy.out]; exact td k
      have dv := dig_val k
      have R : Hid (45 :: (decE (k / 10) ++ (ds ++ [UInt8.ofNat (48 + k % 10)]).reverse) = D) := by
        unfold Hid; rw [← hR.out, decE_step hk0]; simp
      have DV : Hid (48 + ((k % 10 : Nat) : Int) = ((UInt8.ofNat (48 + k % 10)).toNat : Int)) := by unfold Hid; rw [← dv]; omega
      have hnl : (ds ++ [UInt8.ofNat (48 + k % 10)]).length ≤ 20 := by
        have h := congrArg List.length R.out
        rw [List.length_cons, List.length_append, List.length_reverse] at h
        omega
      have hr : k % 10 ≤ 9 := by omega
      obtain ⟨q, hq⟩ : ∃ q, q = k / 10 := ⟨_, rfl⟩
      have hqk : q < k := by omega
      rw [← hq] at d1 R
      have HQ := hideS hq
      have HY := hideS hk0
      generalize UInt8.ofNat (48 + k % 10) = c at R DV hnl
      generalize k % 10 = r at m1 DV hr
      clear dv hR hq hk0
      obtain ⟨p, hp⟩ : ∃ p : Int, p = -(r : Int) := ⟨_, rfl⟩
      obtain ⟨z, hz⟩ : ∃ z : Int, z = -(q : Int) := ⟨_, rfl⟩
      rw [← hp] at m1
      rw [← hz] at d1
      have HZ := hideS hz
      have z0 : -9223372036854775808 ≤ z := by omega
      have z1 : z ≤ 0 := by omega
      by_cases hr0 : r = 0
      · subst hr0
        have p0 : p = 0 := by omega
        subst p0
        have tp : decide ((0 : Int) < 0) = false := by decide
        clear hz hp
        go_wp2_with (at_builtin; refine app1 rfl (.tmp 21) (.tmp 25) rfl w _ _ rfl hown c (DV.out) rfl (by omega) ?_; intro v1 w1 hown1)
        go_roundw
        case rel => exact ⟨z, q, ds ++ [c], by go_num, HZ, by omega, hnl, R, hown1⟩
        case measure => have := HZ.out; have := hy.out; simp [intOf]; omega
      · have tp : decide (p < 0) = true := by simp; omega
        have np : -p = (r : Int) := by omega
        have p1 : -9 ≤ p := by omega
        have p2 : p < 0 := by omega
        clear hz hp
        go_wp2_with (at_builtin; refine app1 rfl (.tmp 21) (.tmp 25) rfl w _ _ rfl hown c (DV.out) rfl (by omega) ?_; intro v1 w1 hown1)
        go_roundw
        case rel => exact ⟨z, q, ds ++ [c], by go_num, HZ, by omega, hnl, R, hown1⟩
        case measure => have := HZ.out; have := hy.out; simp [intOf]; omega
theorem showInt (v : Int) (h0 : -9223372036854775808 ≤ v) (h1 : v ≤ 9223372036854775807) (w : World) :
    Calls Tryz.prog 53 #[.int .i64 v] w fun e w' => e = .returned (.string ⟨(Lib.itoa v).toArray⟩) ∧ Below w.heap.size w w' := by
  by_cases hv : v < 0
  · obtain ⟨n, hn⟩ : ∃ n : Nat, v = -(n : Int) := ⟨v.natAbs, by omega⟩
    have e : Lib.itoa v = 45 :: Lib.decDigits n := by unfold Lib.itoa; rw [if_pos hv, show v.natAbs = n by omega]
    rw [e, hn]
    exact showNeg n (by omega) (by omega) w
  · obtain ⟨n, hn⟩ : ∃ n : Nat, v = (n : Int) := ⟨v.toNat, by omega⟩
    have e : Lib.itoa v = Lib.decDigits n := by unfold Lib.itoa; rw [if_neg hv, show v.toNat = n by omega]
    rw [e, hn]
    exact showNat n (by omega) w
end Go.Proofs.YtenegcoapejbmaaGreatDoor
namespace Go.Proofs.YtenegcoapejbmaaGreatDoor
open Go.RowKit
/-- v holds just the bytes bs, in a block of the call's own of which no cell is frozen -/
def OwnM (w0 : World) (v : Value) (bs : List UInt8) (w : World) : Prop :=
  ∃ g cap, v = .slice (some ⟨g, 0, none⟩) bs.length cap ∧ w0.heap.size ≤ g ∧ g < w.heap.size ∧ bs.length ≤ cap ∧ (∀ j, j < cap → (w.cell? ⟨g, j, none⟩).isSome = true ∧ w.frozen? ⟨g, j, none⟩ = false) ∧ (∀ j (h : j < bs.length), w.cell? ⟨g, j, none⟩ = some (B bs[j])) ∧ Below w0.heap.size w0 w
theorem ownM_mono {w0 w w' : World} {v : Value} {bs : List UInt8} (h : OwnM w0 v bs w) (hb : Below w.heap.size w w') : OwnM w0 v bs w' := by
  obtain ⟨g, cap, e, hg, hlt, hc, h1, h2, hB⟩ := h
  exact ⟨g, cap, e, hg, Nat.lt_of_lt_of_le hlt hb.size, hc, fun j hj => ⟨by rw [hb.cell (p := ⟨g, j, none⟩) hlt]; exact (h1 j hj).1, by rw [hb.frozen (p := ⟨g, j, none⟩) hlt]; exact (h1 j hj).2⟩, fun j hj => by rw [hb.cell (p := ⟨g, j, none⟩) hlt]; exact h2 j hj, hB.trans (hb.mono hB.size)⟩
theorem ownM_base {w w1 w2 : World} {v : Value} {bs : List UInt8} (h : OwnM w1 v bs w2) (hb : Below w.heap.size w w1) : OwnM w v bs w2 := by
  obtain ⟨g, cap, e, hg, hlt, hc, h1, h2, hB⟩ := h
  have := hb.size
  exact ⟨g, cap, e, by omega, hlt, hc, h1, h2, hb.trans (hB.mono this)⟩
theorem ownM_holds {w0 w : World} {v : Value} {bs : List UInt8} (h : OwnM w0 v bs w) : HoldsB w v bs := by
  obtain ⟨g, cap, e, hg, hlt, hc, h1, h2, hB⟩ := h
  exact ⟨_, cap, e, (fun e => by cases e), hc, fun _ => ⟨g, 0, rfl, hlt, fun j hj => by rw [Nat.zero_add]; exact h2 j hj⟩⟩
theorem ownM_conv (s : ByteArray) (w : World) : ∃ (v : Value) (w1 : World), Sem.run Tryz.prog (convert 9 22 (.string s)) w = .ok v w1 ∧ OwnM w v s.data.toList w1 := by
  have hl : s.data.toList.length = s.size := by simp
  have hge := grownCap_ge w s.size 0 5
  have hsz : (bytesRow s (grownCap w s.size 0 5)).size = grownCap w s.size 0 5 := by
    unfold bytesRow; simp; omega
  refine ⟨_, _, run_bytes_of_string w 9 22 5 s Tryz.underlying9 Tryz.underlying22 Tryz.underlying5, ?_⟩
  have hcell := fun j => cell_of_row (w.drew.alloc (.cells (bytesRow s (grownCap w s.size 0 5)) 5 ((bytesRow s (grownCap w s.size 0 5)).size, (bytesRow s (grownCap w s.size 0 5)).size + 1))) w.heap.size j _ 5 _ (heap_alloc_new w.drew _)
  refine ⟨w.heap.size, grownCap w s.size 0 5, by rw [hl], Nat.le_refl _, by simp, by rw [hl]; exact hge, fun j hj => ⟨?_, ?_⟩, fun j hj => ?_, ((Below.refl _ _).drew).alloc (Nat.le_refl _) _⟩
  · rw [hcell j, Array.getElem?_eq_getElem (by rw [hsz]; exact hj)]; rfl
  · unfold World.frozen?
    rw [show (w.drew.alloc (.cells (bytesRow s (grownCap w s.size 0 5)) 5 ((bytesRow s (grownCap w s.size 0 5)).size, (bytesRow s (grownCap w s.size 0 5)).size + 1))).heap[w.heap.size]? = _ from heap_alloc_new w.drew _]
    simp
    omega
  · rw [hcell j, bytesRow_at s _ j (by omega)]
    rfl
theorem below_setCells {B g : Nat} {a : World} (hg : B ≤ g) : ∀ (vs : List Value) (o : Nat) (w : World), Below B a w → Below B a (w.setCells g o vs) := by
  intro vs
  induction vs with
  | nil => intro o w h; exact h
  | cons v r ih => intro o w h; exact ih (o + 1) _ (h.setCell hg v)
theorem size_setCells (g : Nat) : ∀ (vs : List Value) (o : Nat) (w : World), (w.setCells g o vs).heap.size = w.heap.size := by
  intro vs
  induction vs with
  | nil => intro o w; rfl
  | cons v r ih => intro o w; rw [World.setCells, ih]; simp
theorem appM (W w0 : World) (v u : Value) (ps qs : List UInt8) (ty : TypeId) (hown : OwnM w0 v ps W) (hu : HoldsB W u qs) (hlen : ps.length + qs.length ≤ 1000000000) :
    ∃ v' w', (Builtin.append_ #[22, 22] ty #[v, u]).run Tryz.prog W = .ok v' w' ∧ OwnM w0 v' (ps ++ qs) w' := by
  obtain ⟨i0, hi, hz0, hz1, hz2⟩ := info_parts Tryz.info5
  obtain ⟨g, cap, rfl, hg, hlt, hc, h1, h2, hB⟩ := hown
  have hsize := hB.size
  obtain ⟨ao, uc, rfl, hn0, hucp, hcell⟩ := hu
  by_cases hq : qs = []
  · subst hq
    rw [List.append_nil]
    refine ⟨.slice (some ⟨g, 0, none⟩) ps.length cap, W, ?_, ⟨g, cap, rfl, hg, hlt, hc, h1, h2, hB⟩⟩
    cases ao with
    | none =>
      obtain rfl := hn0 rfl
      simp [Builtin.append_, run_underlying Tryz.underlying22, sizeOf, typeInfo, hi, Builtin.lenOf, hc, Builtin.firstCells, storeCells]
    | some a =>
      have hf := run_firstCells_some (P := Tryz.prog) W i0.size 0 a 0 uc [] (by simp) (by simp)
      simp [Builtin.append_, run_underlying Tryz.underlying22, sizeOf, typeInfo, hi, Builtin.lenOf, hc, hf, storeCells]
  · obtain ⟨b, off, rfl, hblt, hcl⟩ := hcell hq
    have hnews : ∀ j x, (qs.map B)[j]? = some x → W.cell? ((⟨b, off, none⟩ : Addr).add j) = some x := by
      intro j x hj
      rw [Go.WideShapes.add_plain]
      obtain ⟨hj1, hj2⟩ := List.getElem?_eq_some_iff.1 hj
      rw [List.length_map] at hj1
      rw [hcl j hj1, ← hj2]
      simp
    have hone : ∀ x ∈ qs.map B, x.oneCell' = true := by intro x hx; obtain ⟨y, _, rfl⟩ := List.mem_map.1 hx; rfl
    by_cases hroom : ps.length + qs.length ≤ cap
    · have hf := run_firstCells_some (P := Tryz.prog) W i0.size qs.length ⟨b, off, none⟩ qs.length uc (qs.map B) (by rw [hz1]; simp) hnews
      have hst := run_storeCells_cells (P := Tryz.prog) g ps.length (qs.map B) 0 W (fun j hj => (h1 (ps.length + 0 + j) (by rw [List.length_map] at hj; omega)).1) (fun j hj => (h1 (ps.length + 0 + j) (by rw [List.length_map] at hj; omega)).2) hone
      simp only [Nat.add_zero] at hst
      refine ⟨.slice (some ⟨g, 0, none⟩) (ps.length + qs.length) cap, W.setCells g ps.length (qs.map B), ?_, ⟨g, cap, by rw [List.length_append], hg, by rw [size_setCells]; exact hlt, by rw [List.length_append]; exact hroom, fun j hj => ⟨World.isSome_setCells _ _ _ _ _ (h1 j hj).1, by rw [World.frozen?_setCells]; exact (h1 j hj).2⟩, fun j hj => ?_, below_setCells hg _ _ _ hB⟩⟩
      · rw [hz1] at hf
        simp [Builtin.append_, run_underlying Tryz.underlying22, sizeOf, typeInfo, hi, hz1, Builtin.lenOf, hroom, hf, Addr.add_lit, hst]
      · rw [List.length_append] at hj
        by_cases hjp : j < ps.length
        · rw [World.cell?_setCells_out _ _ _ _ _ (fun _ _ => Or.inl hjp), h2 j hjp, List.getElem_append_left hjp]
        · have hin := World.cell?_setCells_in g (qs.map B) ps.length W (fun i hi => (h1 (ps.length + i) (by rw [List.length_map] at hi; omega)).1) (j - ps.length) (by rw [List.length_map]; omega)
          rw [show ps.length + (j - ps.length) = j by omega] at hin
          rw [hin, List.getElem_append_right (by omega)]
          simp
    · have holds : ∀ j x, (ps.map B)[j]? = some x → W.cell? ((⟨g, 0, none⟩ : Addr).add j) = some x := by
        intro j x hj
        rw [Go.WideShapes.add_plain, Nat.zero_add]
        obtain ⟨hj1, hj2⟩ := List.getElem?_eq_some_iff.1 hj
        rw [List.length_map] at hj1
        rw [h2 j hj1, ← hj2]
        simp
      have hr := run_append_grow (P := Tryz.prog) W 22 ty 5 i0 (.int .u8 0) Tryz.underlying22 hi hz0 ⟨g, 0, none⟩ ps.length cap (ps.map B) (by rw [hz1]; simp) holds ⟨b, off, none⟩ qs.length uc (qs.map B) (by rw [hz1]; simp) hnews (by omega) (by omega) (by rw [hz2]; exact growslice_fits (by omega) (by omega))
      have hge := grownCap_ge W (ps.length + qs.length) cap 5
      have hcell := fun j => cell_of_row (W.drew.alloc (.cells ((ps.map B).toArray ++ (qs.map B).toArray ++ Builtin.zeroCells (Value.int .u8 0).cells (grownCap W (ps.length + qs.length) cap 5 - (ps.length + qs.length))) 5)) W.heap.size j _ 5 _ (heap_alloc_new W.drew _)
      have hcz : (Value.int .u8 0).cells.size = 1 := rfl
      have hsz : ((ps.map B).toArray ++ (qs.map B).toArray ++ Builtin.zeroCells (Value.int .u8 0).cells (grownCap W (ps.length + qs.length) cap 5 - (ps.length + qs.length))).size = grownCap W (ps.length + qs.length) cap 5 := by
        rw [Array.size_append, Array.size_append, size_zeroCells, hcz, List.size_toArray, List.size_toArray, List.length_map, List.length_map]
        omega
      refine ⟨_, _, hr, ⟨W.heap.size, _, by rw [List.length_append], hsize, by simp, by rw [List.length_append]; exact hge, fun j hj => ⟨?_, ?_⟩, fun j hj => ?_, (hB.drew).alloc hsize _⟩⟩
      · rw [hcell j, Array.getElem?_eq_getElem (by rw [hsz]; exact hj)]; rfl
      · unfold World.frozen?
        rw [show (W.drew.alloc (.cells ((ps.map B).toArray ++ (qs.map B).toArray ++ Builtin.zeroCells (Value.int .u8 0).cells (grownCap W (ps.length + qs.length) cap 5 - (ps.length + qs.length))) 5)).heap[W.heap.size]? = _ from heap_alloc_new W.drew _]
        simp
      · rw [hcell j, Array.getElem?_append_left (by rw [Array.size_append, List.size_toArray, List.size_toArray, List.length_map, List.length_map]; rw [List.length_append] at hj; exact hj)]
        rw [List.append_toArray, ← List.map_append, List.getElem?_toArray, List.getElem?_map, List.getElem?_eq_getElem hj]
        rfl
end Go.Proofs.YtenegcoapejbmaaGreatDoor
namespace Go.Proofs.YtenegcoapejbmaaGreatDoor
open Go.RowKit
theorem step_appB {ops : Array Oper} {o : Oper} {a : Act} {K : Act → World → Prop} {Q : Exit → Act → World → Prop} {E : Prop} {W : World} (hgd : o.guard = none) (s x : Operand)
    (ho : o.op = .call { callee := .builtin .append, args := #[s, x], argTypes := #[22, 22] }) (w0 : World) (v : Value) (bs : List UInt8) (hs : a.eval s = v) (hown : Own w0 v bs W)
    (l : List UInt8) (b cap : Nat) (hx : a.eval x = .slice (some ⟨b, 0, none⟩) l.length cap) (hnews : ∀ j (h : j < l.length), W.cell? ⟨b, j, none⟩ = some (B l[j])) (hlen : bs.length + l.length ≤ 140737488355328)
    (h : ∀ v' w', Own w0 v' (bs ++ l) w' → K (a.put o.dst v') w') : if Region.wanted o (yielded ops a.tmps) = true then Oper.wp Tryz.prog o a W K Q else E := by
  obtain ⟨i0, hi, hz0, hz1, hz2⟩ := info_parts Tryz.info5
  have hw : Region.wanted o (yielded ops a.tmps) = true := by simp [Region.wanted, hgd]
  rw [if_pos hw]
  refine wp_append_own W s x 22 ho w0.heap.size 5 i0 (.int .u8 0) 1 1 Tryz.underlying22 hi hz0 hz1 hz2 rfl (by decide) v bs.length (bs.map B) hs hown.1 ⟨b, 0, none⟩ l.length cap (l.map B) hx (by simp) ?_ ?_ ?_ ?_ ?_ ?_
  · intro j u hj
    obtain ⟨hj1, hj2⟩ := List.getElem?_eq_some_iff.1 hj
    rw [List.length_map] at hj1
    have e : (⟨b, 0, none⟩ : Addr).add j = ⟨b, 0 + j, none⟩ := Go.WideShapes.add_plain _ _ _
    rw [e, Nat.zero_add, hnews j hj1, ← hj2]
    simp
  · intro u hu; obtain ⟨x, _, rfl⟩ := List.mem_map.1 hu; rfl
  · unfold maxLen; omega
  · omega
  · exact hown.2.size
  · intro v' w' h1 h2 _
    refine h v' w' ⟨by rw [List.map_append, List.length_append]; exact h1, ?_⟩
    refine Below.grown hown.2 h2 hown.2.size ?_
    intro k hk
    exact (hown.1.lt k hk).1
theorem mixed_now' (s : ByteArray) (j : Nat) (h : j < s.size) : (Value.int .u8 ((mixed s 0 j).toNat : Int)) = B (s.data.toList[j]'(by simpa using h)) := by
  unfold mixed B; rw [dif_pos h, if_neg (by omega)]; rfl
theorem conv_line (s : ByteArray) (l : List UInt8) (w : World) (e : s.data.toList = l) : ∃ (cap : Nat) (w1 : World), Sem.run Tryz.prog (convert 9 22 (.string s)) w.drew = .ok (.slice (some ⟨w.heap.size, 0, none⟩) l.length cap) w1 ∧
    (∀ j (h : j < l.length), w1.cell? ⟨w.heap.size, j, none⟩ = some (B l[j])) ∧ Below w.heap.size w w1 := by
  obtain ⟨cap, w1, h1, h2, _, h4, _⟩ := conv_bytes s w.drew
  subst e
  have hs : s.data.toList.length = s.size := by simp
  refine ⟨cap, w1, by rw [h1, hs]; rfl, ?_, ?_⟩
  · intro j hj
    have hj' : j < s.size := by rw [← hs]; exact hj
    have := h2 j hj'
    rw [mixed_now' s j hj'] at this
    exact this
  · exact ((Below.refl w.heap.size w).drew).trans h4
set_option maxRecDepth 20000 in
set_option maxHeartbeats 4000000 in
theorem printRef (v : Value) (fs : FL) (w : World) (hv : HoldsF w v fs) (hfit : Fit fs) (hl : fs.length ≤ 140737488351232) (hP : (printOf fs).length ≤ 8000000) :
    Calls Tryz.prog 69 #[v] w fun e w' => ∃ u, e = .returned (.tuple #[u, .int .i64 (printP fs).2]) ∧ Own w u (printP fs).1 w' := by
  obtain ⟨ao, ca, b1, o1, rfl, hca⟩ := holdsF_parts hv
  have CA : Hid _ := hca
  have FT : Hid _ := hfit
  clear hca hv hfit
  obtain ⟨n, en⟩ : ∃ n, n = fs.length := ⟨_, rfl⟩
  have N : Hid (fs.length = n) := en.symm
  rw [N.out] at hl ⊢
  have HP := hide' hP
  clear en hP
  go_enter Tryz.func69, Tryz.ntmps69
  go_wp2_with fail
  go_loopw [4] (fun i wr => ∃ j : Nat, j ≤ n ∧ i = .int .i64 j ∧ Hid ((fs.take j).all goodF = true) ∧ Hid (wr = w)) (fun i _ => n - (intOf i).toNat)
  case atStart => exact ⟨0, Nat.zero_le _, rfl, by unfold Hid; simp, rfl⟩
  case round =>
    obtain ⟨j, hj, rfl, hg, hb⟩ := hrel
    have hb' := hb.out
    subst hb'
    clear hb
    by_cases hlt : j < n
    · have G : Hid (j < fs.length) := by unfold Hid; rw [N.out]; exact hlt
      obtain ⟨hao, hblt, hcell⟩ := CA.out (by have := G.out; omega)
      subst hao
      obtain ⟨c1, c2⟩ := hcell j G.out
      unfold S at c1 c2
      obtain ⟨hs1, hs2⟩ := fit_at FT.out j G.out
      have cT := tokenRef ⟨(fs[j]'G.out).1.toArray⟩ wr (by rw [size_l]; exact hs1)
      have cV := valueRef ⟨(fs[j]'G.out).2.toArray⟩ wr (by rw [size_l]; exact hs2)
      simp only at cT cV
      have hgd : goodF (fs[j]'G.out) = (isTok (fs[j]'G.out).1 && goodV (fs[j]'G.out).2) := rfl
      clear hcell
      have RT : isTok (fs[j]'G.out).1 = true → goodV (fs[j]'G.out).2 = true → (fs.take (j + 1)).all goodF = true := by
        intro h1 h2
        rw [List.take_succ_eq_append_getElem G.out, List.all_append, hg.out]
        simp [hgd, h1, h2]
      have RF : goodF (fs[j]'G.out) = false → printP fs = ([], 40) := by
        intro hgf
        unfold printP
        rw [if_pos]
        rw [Bool.eq_false_iff]
        intro h
        have := List.all_eq_true.1 h _ (List.getElem_mem G.out)
        rw [hgf] at this
        cases this
      cases h1 : isTok (fs[j]'G.out).1 with
      | true =>
        rw [h1] at cT
        cases h2 : goodV (fs[j]'G.out).2 with
        | true =>
          have R := hide' (RT h1 h2)
          rw [h2] at cV
          have CT := hide' cT
          have CV := hide' cV
          clear cT cV hgd RT RF h1 h2 hs1 hs2
          generalize (fs[j]'G.out).1 = q1 at c1 CT
          generalize (fs[j]'G.out).2 = q2 at c2 CV
          go_wp2_with (first | (go_at_call 66; refine CT.out.mono ?_; rintro e w2 ⟨rfl, hw2⟩; rw [hw2]; clear hw2) | (go_at_call 68; refine CV.out.mono ?_; rintro e w2 ⟨rfl, hw2⟩; rw [hw2]; clear hw2))
          go_roundw
          case rel => exact ⟨j + 1, by omega, by go_num, R, by first | exact trivial | exact rfl⟩
          case measure => simp [intOf]; omega
        | false =>
          have R := hide' (RF (by rw [hgd, h1, h2]; rfl))
          rw [h2] at cV
          have CT := hide' cT
          have CV := hide' cV
          clear cT cV hgd RT RF h1 h2 hs1 hs2
          generalize (fs[j]'G.out).1 = q1 at c1 CT
          generalize (fs[j]'G.out).2 = q2 at c2 CV
          go_wp2_with (first | (go_at_call 66; refine CT.out.mono ?_; rintro e w2 ⟨rfl, hw2⟩; rw [hw2]; clear hw2) | (go_at_call 68; refine CV.out.mono ?_; rintro e w2 ⟨rfl, hw2⟩; rw [hw2]; clear hw2))
          go_ret2
          rw [R.out]
          exact ⟨_, rfl, own_nil _ _ (Below.refl _ _)⟩
      | false =>
        have R := hide' (RF (by rw [hgd, h1]; rfl))
        rw [h1] at cT
        have CT := hide' cT
        clear cT cV hgd RT RF h1 hs1 hs2
        generalize (fs[j]'G.out).1 = q1 at c1 CT
        generalize (fs[j]'G.out).2 = q2 at c2
        go_wp2_with (go_at_call 66; refine CT.out.mono ?_; rintro e w2 ⟨rfl, hw2⟩; rw [hw2]; clear hw2)
        go_ret2
        rw [R.out]
        exact ⟨_, rfl, own_nil _ _ (Below.refl _ _)⟩
    · have hall : fs.all goodF = true := by
        have := hg.out; rwa [List.take_of_length_le (by rw [N.out]; omega)] at this
      by_cases h100 : 100 < n
      · have R : Hid (printP fs = ([], 42)) := by
          unfold Hid printP
          rw [if_neg (by rw [hall]; simp), if_pos (by rw [N.out]; exact h100)]
        clear hall
        go_wp2_with fail
        go_ret2
        rw [R.out]
        exact ⟨_, rfl, own_nil _ _ (Below.refl _ _)⟩
      · have R : Hid (printP fs = (printOf fs, 0)) := by
          unfold Hid printP
          rw [if_neg (by rw [hall]; simp), if_neg (by rw [N.out]; exact h100)]
        clear hall
        obtain ⟨wa, ewa⟩ : ∃ wa, wa = wr := ⟨_, rfl⟩
        rw [← ewa] at CA ⊢
        have EW := hide' ewa
        clear ewa
        go_wp2_with fail
        go_loopw [5, 6] (fun v i wr => ∃ j : Nat, j ≤ n ∧ i = .int .i64 j ∧ Hid (Own wa v (printOf (fs.take j)) wr)) (fun _ i _ => n - (intOf i).toNat)
        case atStart => exact ⟨0, Nat.zero_le _, rfl, own_empty wa⟩
        case round =>
          obtain ⟨j, hj, rfl, ho⟩ := hrel
          by_cases hlt : j < n
          · have G : Hid (j < fs.length) := by unfold Hid; rw [N.out]; exact hlt
            obtain ⟨hao, hblt, hcell⟩ := CA.out (by have := G.out; omega)
            subst hao
            obtain ⟨h1, h2⟩ := hcell j G.out
            have c1 : wr.cell? ⟨b1, o1 + j * 2, none⟩ = some (.string ⟨(fs[j]'G.out).1.toArray⟩) := by
              rw [ho.out.2.cell (p := ⟨b1, o1 + j * 2, none⟩) hblt]; exact h1
            have c2 : wr.cell? ⟨b1, o1 + j * 2 + 1, none⟩ = some (.string ⟨(fs[j]'G.out).2.toArray⟩) := by
              rw [ho.out.2.cell (p := ⟨b1, o1 + j * 2 + 1, none⟩) hblt]; exact h2
            have R2 : Hid (printOf (fs.take (j + 1)) = printOf (fs.take j) ++ lineB (fs[j]'G.out)) := print_snoc fs j G.out
            have t1 := print_take fs (j + 1)
            rw [print_snoc fs j G.out, List.length_append, lineB_len] at t1
            have t2 := HP.out
            have el := lineB_len (fs[j]'G.out)
            have LN : Hid ((printOf (fs.take j)).length + (lineB (fs[j]'G.out)).length ≤ 140737488355328) := by unfold Hid; omega
            have za : (⟨(fs[j]'G.out).1.toArray⟩ : ByteArray).size ≤ 8000000 := by rw [size_l]; omega
            have zb : (⟨(fs[j]'G.out).2.toArray⟩ : ByteArray).size ≤ 8000000 := by rw [size_l]; omega
            have ex : ((⟨(fs[j]'G.out).1.toArray⟩ : ByteArray) ++ (⟨#[58, 32]⟩ : ByteArray) ++ (⟨(fs[j]'G.out).2.toArray⟩ : ByteArray) ++ (⟨#[13, 10]⟩ : ByteArray)).data.toList = lineB (fs[j]'G.out) := by
              simp [ByteArray.data_append, lineB]
            obtain ⟨cap, wc, hconv, hcc, hbc⟩ := conv_line _ _ wr ex
            have z1 : ((⟨(fs[j]'G.out).1.toArray⟩ : ByteArray) ++ (⟨#[58, 32]⟩ : ByteArray)).size ≤ 8000002 := by
              rw [ByteArray.size_append]; have : (⟨#[58, 32]⟩ : ByteArray).size = 2 := rfl; omega
            have z2 : ((⟨(fs[j]'G.out).1.toArray⟩ : ByteArray) ++ (⟨#[58, 32]⟩ : ByteArray) ++ (⟨(fs[j]'G.out).2.toArray⟩ : ByteArray)).size ≤ 16000002 := by
              rw [ByteArray.size_append]; omega
            have hlw : b1 < wr.heap.size := Nat.lt_of_lt_of_le hblt ho.out.2.size
            have k1 : wc.cell? ⟨b1, o1 + j * 2, none⟩ = some (.string ⟨(fs[j]'G.out).1.toArray⟩) := by rw [hbc.cell (p := ⟨b1, o1 + j * 2, none⟩) hlw]; exact c1
            have k2 : wc.cell? ⟨b1, o1 + j * 2 + 1, none⟩ = some (.string ⟨(fs[j]'G.out).2.toArray⟩) := by rw [hbc.cell (p := ⟨b1, o1 + j * 2 + 1, none⟩) hlw]; exact c2
            have X1 := hide' h1
            have X2 := hide' h2
            unfold S at X1 X2
            have O1 := hide' (own_mono ho.out hbc)
            have NW := hide' hcc
            clear hcell h1 h2 t1 t2 el ex hcc hbc
            generalize (⟨(fs[j]'G.out).1.toArray⟩ : ByteArray) = A at c1 za z1 z2 hconv k1 X1
            generalize (⟨(fs[j]'G.out).2.toArray⟩ : ByteArray) = D at c2 zb z2 hconv k2 X2
            generalize lineB (fs[j]'G.out) = ln at R2 LN hconv NW
            generalize printOf (fs.take j) = acc at ho R2 LN O1
            go_wp2_with fail
            go_region_held_law (fun w' => w'.cell? ⟨b1, o1 + j * 2, none⟩ = some (.string A) ∧ w'.cell? ⟨b1, o1 + j * 2 + 1, none⟩ = some (.string D)) (go_keep)
              ((refine step_appB (by rfl) (.tmp 39) (.tmp 53) (by rfl) wa _ acc (by rfl) O1.out ln _ _ (by rfl) NW.out LN.out ?_; intro v2 w2 ho2; have m1 : w2.cell? ⟨b1, o1 + j * 2, none⟩ = some (.string A) := (by rw [ho2.2.cell (p := ⟨b1, o1 + j * 2, none⟩) hblt]; exact X1.out); have m2 : w2.cell? ⟨b1, o1 + j * 2 + 1, none⟩ = some (.string D) := (by rw [ho2.2.cell (p := ⟨b1, o1 + j * 2 + 1, none⟩) hblt]; exact X2.out); have O2 := hide' ho2; clear ho2))
            all_goals
              go_wp2_with fail
              go_roundw
              case rel => exact ⟨j + 1, by omega, by go_num, by unfold Hid; rw [R2.out]; exact O2.out⟩
              case measure => simp [intOf]; omega
          · have E : Hid (fs.take j = fs) := List.take_of_length_le (by rw [N.out]; omega)
            rw [E.out] at ho
            go_wp2_with fail
            go_ret2
            rw [R.out]
            obtain rfl := EW.out
            exact ⟨_, rfl, ho.out⟩
end Go.Proofs.YtenegcoapejbmaaGreatDoor
