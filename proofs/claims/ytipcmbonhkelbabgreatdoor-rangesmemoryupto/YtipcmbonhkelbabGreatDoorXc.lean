/- A table of numbers that the row lists, out of the row's own condition. What the library's table of powers holds, out of the row's own condition; Itoa. The document's decimal text of any number. The contract of the document's place: the text of a Content-Range. The contract of the program's placeOf: the text of a Content-Range. -/
import Derived.Test.YtipcmbonhkelbabGreatDoorOwnB
import Derived.Lib.LaidTab
import Derived.MakeChecks
import Derived.Test.YtipcmbonhkelbabGreatDoorShelfH
import Derived.Lib.AppendIntMem
import Derived.Lib.ItoaNum
import Derived.Handy
import Derived.Test.YtipcmbonhkelbabGreatDoorBk
import Derived.Deep.RegionHeld3
namespace Go.Proofs.YtipcmbonhkelbabGreatDoor
open Go.RowKit
theorem laid_memL {P : Program} {w : World} {n : String} {d : DataW Unit} : ∀ {l : List (String × DataW Unit)} {ps : List MemPlace}, DataW.LaidVars P w l ps → (n, d) ∈ l →
    ∃ (ps' : List MemPlace), DataW.LaidVars P w [(n, d)] ps' := by
  intro l
  induction l with
  | nil => intro ps _ hm; cases hm
  | cons x r ih =>
    intro ps h hm
    obtain ⟨n0, d0⟩ := x
    obtain ⟨g, t, cs, fuel, p, q, e1, e2, e3, e4, hr, rfl⟩ := h
    rcases List.mem_cons.1 hm with hm | hm
    · cases hm
      exact ⟨_, g, t, cs, fuel, p, [], e1, e2, e3, e4, rfl, rfl⟩
    · exact ih hr hm
theorem var_intsL {W : World} {l : List (String × DataW Unit)} (h : laidMet Tryz.prog l W) {n : String} {zs : List Int} {k : IntKind} (hm : (n, Lib.tabData k zs) ∈ l) {g : Nat} {t e : TypeId} {c : Nat}
    (hg : Tryz.prog.globalNamed n = some g) (hty : (Tryz.prog.globals[g]?).map (·.type) = some t) (ht : Tryz.prog.underlying t = some (.array c e)) (he : Tryz.prog.underlying e = some (.int k)) (hce : Tryz.prog.cellsOf e = 1) (hct : Tryz.prog.cellsOf t = c) :
    Lib.TabIs Tryz.prog W n k zs := by
  obtain ⟨ps, hl, _⟩ := h
  obtain ⟨ps', g', t', cs, fuel, p, q, hg', ht', hvar, hd, _, _⟩ := laid_memL hl hm
  obtain rfl := Option.some.inj (hg.symm.trans hg')
  obtain rfl := Option.some.inj (hty.symm.trans ht')
  unfold Lib.TabIs
  rw [hvar, ← Lib.cells_of_tab ht he hce hct hd]
end Go.Proofs.YtipcmbonhkelbabGreatDoor
namespace Go.Proofs.YtipcmbonhkelbabGreatDoor
open Go.RowKit
def Tab (w : World) : Prop := Lib.TabIs Tryz.prog w "internal/strconv.uint64pow10" .u64 Lib.pow10Tab
theorem tab_below {w w' : World} (h : Tab w) (b : Below w.heap.size w w') : Tab w' := Lib.tabBelow_of_tabIs h w' b
theorem tab_of {W : World} {l : List (String × DataW Unit)} (h : laidMet Tryz.prog l W) (h4 : ("internal/strconv.uint64pow10", Lib.tabData .u64 Lib.pow10Tab) ∈ l) : Tab W :=
  var_intsL h h4 (g := 4) (t := 134) (e := 123) (c := 20) (by kernel_rfl) (by kernel_rfl) Tryz.underlying134 Tryz.underlying123 (by kernel_rfl) (by kernel_rfl)
theorem itoaTab (p : Int) (h0 : -9223372036854775808 ≤ p) (h1 : p ≤ 9223372036854775807) (w : World) (T : Tab w) :
    Calls Tryz.prog 42 #[.int .i64 p] w fun e w' => e = .returned (.string ⟨(Lib.itoa p).toArray⟩) ∧ Below w.heap.size w w' := by
  refine (Any.strconv_Itoa Tryz.laysM171 p h0 h1 w T).mono ?_
  rintro e w' ⟨rfl, k, os, rfl⟩
  exact ⟨rfl, Lib.below_grow _ w (Nat.le_refl _) k os⟩
end Go.Proofs.YtipcmbonhkelbabGreatDoor
namespace Go.Proofs.YtipcmbonhkelbabGreatDoor
open Go.RowKit
theorem hideS {p : Prop} (h : p) : Hid p := h
def decE (k : Nat) : List UInt8 := if k = 0 then [] else Lib.decDigits k
theorem decE_step {k : Nat} (h : k ≠ 0) : decE k = decE (k / 10) ++ [UInt8.ofNat (48 + k % 10)] := by
  unfold decE
  rw [if_neg h]
  by_cases h1 : k < 10
  · rw [if_pos (by omega), Lib.decDigits_one h1, show k % 10 = k by omega]; rfl
  · rw [if_neg (by omega), Lib.decDigits, dif_neg h1]
theorem decE_len : ∀ (m k : Nat), k < 10 ^ m → (decE k).length ≤ m := by
  intro m
  induction m with
  | zero => intro k h; obtain rfl : k = 0 := by simpa using h
            simp [decE]
  | succ m ih =>
    intro k h
    by_cases h0 : k = 0
    · subst h0; simp [decE]
    · rw [decE_step h0, List.length_append, List.length_singleton]
      have := ih (k / 10) (by rw [Nat.pow_succ] at h; omega)
      omega
theorem dig_val (k : Nat) : (48 + (k : Int) % 10) = ((UInt8.ofNat (48 + k % 10)).toNat : Int) := by
  rw [UInt8.toNat_ofNat']; omega
theorem drop_rev {ds : List UInt8} {k : Nat} (h : k + 1 ≤ ds.length) : (ds.drop k).reverse = (ds.drop (k + 1)).reverse ++ [ds[k]'(by omega)] := by
  rw [List.drop_eq_getElem_cons (by omega)]; simp
theorem own_some {w0 w : World} {v : Value} {bs : List UInt8} (h : Own w0 v bs w) (hp : 0 < bs.length) : ∃ g cap, v = .slice (some ⟨g, 0, none⟩) bs.length cap := by
  rcases h.1.2 with ⟨_, hn⟩ | ⟨g, cap, cur, e, _⟩
  · omega
  · exact ⟨g, cap, e⟩
theorem app1i {ops : Array Oper} {rest : List Oper} {o : Oper} {a : Act} {Q : Exit → Act → World → Prop} {wr : World} {n : Int} (hgd : o.guard = none) (s x : Operand)
    (ho : o.op = .call { callee := .builtin .append, args := #[s, x], argTypes := #[25, 25] }) (w0 : World) (v : Value) (bs : List UInt8) (hs : a.eval s = v) (hown : Own w0 v bs wr)
    (c : UInt8) (hn : n = (c.toNat : Int)) (hx : a.eval x = .slice (some ⟨wr.heap.size, 0, none⟩) 1 1) (hlen : bs.length + 1 ≤ 140737488355328)
    (h : ∀ v' w', Own w0 v' (bs ++ [c]) w' → wpList Tryz.prog ops Q rest (a.put o.dst v') w') : wpList Tryz.prog ops Q (o :: rest) a (wr.alloc (.cells #[.int .u8 n] 5)) :=
  app1 hgd s x ho w0 v bs hs hown c hn hx hlen h
set_option maxHeartbeats 2000000 in
theorem showNat (n : Nat) (hn : n ≤ 9223372036854775807) (w : World) :
    Calls Tryz.prog 28 #[.int .i64 n] w fun e w' => e = .returned (.string ⟨(Lib.decDigits n).toArray⟩) ∧ Below w.heap.size w w' := by
  by_cases h0 : n = 0
  · subst h0
    have H : Hid (Lib.decDigits 0 = [48]) := by unfold Hid; rw [Lib.decDigits_one (by omega)]; rfl
    clear hn
    go_enter Tryz.func28, Tryz.ntmps28
    go_wp2
    go_ret
    rw [H.out]
    exact ⟨rfl, Below.refl _ _⟩
  · have b0 : ((n : Int) == 0) = false := by simp; omega
    have HD : Hid (decE n = Lib.decDigits n) := by unfold Hid decE; rw [if_neg h0]
    have hDl : (Lib.decDigits n).length ≤ 20 := by rw [← HD.out]; exact decE_len 20 n (by omega)
    have hpos : 0 < n := by omega
    clear h0
    generalize Lib.decDigits n = D at HD hDl ⊢
    go_enter Tryz.func28, Tryz.ntmps28
    go_wp2
    go_loopw [0, 3, 5] (fun vv dv _ wr => ∃ (k : Nat) (ds : List UInt8), vv = .int .i64 k ∧ k ≤ n ∧ ds.length ≤ 20 ∧ Hid (decE k ++ ds.reverse = D) ∧ Own w dv ds wr) (fun vv _ _ _ => (intOf vv).toNat)
    case atStart => exact ⟨n, [], rfl, by omega, by simp, by unfold Hid; rw [HD.out]; simp, own_empty w⟩
    case round =>
      obtain ⟨k, ds, rfl, hk, hdl, hR, hown⟩ := hrel
      obtain ⟨w5, e5⟩ : ∃ x, x = wr := ⟨_, rfl⟩
      subst e5
      by_cases hk0 : k = 0
      · have HE : Hid (ds.reverse = D) := by have := hR.out; unfold Hid; rw [hk0] at this; simpa [decE] using this
        have e0 : (k : Int) = 0 := by omega
        rw [e0]
        clear e0 hR
        rcases hown.1.2 with ⟨rfl, hn0⟩ | ⟨g, cap, cur, rfl, hh⟩
        · exfalso
          have e1 : ds = [] := List.eq_nil_of_length_eq_zero hn0
          have e2 : decE n = [] := by rw [HD.out, ← HE.out, e1]; rfl
          rw [decE_step (by omega)] at e2
          simp at e2
        · obtain ⟨m, hm⟩ : ∃ m, m = ds.length := ⟨_, rfl⟩
          have hml : m ≤ 40 := by omega
          have HO : Hid (Own w (.slice (some ⟨g, 0, none⟩) ds.length cap) ds w5) := hown
          rw [← hm] at hown ⊢
          have hgl : g < w5.heap.size := (hown.1.lt g rfl).2
          have HM : Hid (m = ds.length) := hm
          clear hm hh hown
          go_wp2_with fail
          go_loopw [6, 7] (fun ov iv wr => ∃ (j : Nat), j ≤ m ∧ iv = .int .i64 ((j : Int) - 1) ∧ Own w5 ov ((ds.drop j).reverse) wr) (fun _ iv _ => (intOf iv + 1).toNat)
          case atStart => exact ⟨m, by omega, rfl, by rw [HM.out, List.drop_length]; exact own_empty w5⟩
          case round =>
            obtain ⟨j, hj, rfl, hown2⟩ := hrel
            cases j with
            | zero =>
              have hc := own_conv hown2
              have HF : Hid ((⟨((ds.drop 0).reverse).toArray⟩ : ByteArray) = ⟨D.toArray⟩) := by unfold Hid; rw [List.drop_zero, HE.out]
              generalize (ds.drop 0).reverse = Z at hc HF hown2
              go_wp2_with fail
              go_ret
              rw [HF.out]
              exact ⟨rfl, HO.out.2.trans (hown2.2.mono HO.out.2.size)⟩
            | succ j =>
              have hjl : j < ds.length := by have := HM.out; omega
              have hcell : w5.cell? ⟨g, j, none⟩ = some (.int .u8 (ds[j].toNat : Int)) := by
                have := HO.out.1.cells rfl j (B ds[j]) (by simp [hjl])
                rcases Nat.eq_zero_or_pos j with rfl | hp
                · simpa [Addr.add, B] using this
                · simpa [Addr.add, B, Nat.ne_of_gt hp] using this
              have hc2 : wr.cell? ⟨g, j, none⟩ = some (.int .u8 (ds[j].toNat : Int)) := by
                rw [hown2.2.cell (p := ⟨g, j, none⟩) hgl]; exact hcell
              have R : Hid ((ds.drop j).reverse = (ds.drop (j + 1)).reverse ++ [ds[j]]) := drop_rev (by omega)
              have hl : ((ds.drop (j + 1)).reverse).length ≤ 9999 := by simp; have := HM.out; omega
              have hb := byte_lt ds[j]
              generalize ds[j] = c at hcell hc2 R hb
              generalize (ds.drop (j + 1)).reverse = Z at hown2 R hl
              have j0 : (0 : Int) ≤ ((j + 1 : Nat) : Int) - 1 := by omega
              clear hcell hjl
              go_wp2_with (at_builtin; refine app1 rfl (.tmp 41) (.tmp 46) rfl w5 _ _ rfl hown2 c rfl rfl (by omega) ?_; intro v1 w3 hown3)
              go_roundw
              case rel => exact ⟨j, by omega, by go_num, by rw [R.out]; exact hown3⟩
              case measure => simp [intOf]
      · have b1 : ((k : Int) != 0) = true := by simp; omega
        have r0 : 0 ≤ (k : Int) % 10 := by omega
        have r1 : (k : Int) % 10 ≤ 9 := by omega
        have dv := dig_val k
        have R : Hid (decE (k / 10) ++ (ds ++ [UInt8.ofNat (48 + k % 10)]).reverse = D) := by
          unfold Hid; rw [← hR.out, decE_step hk0]; simp
        have DV : Hid (48 + (k : Int) % 10 = ((UInt8.ofNat (48 + k % 10)).toNat : Int)) := dv
        have hnl : (ds ++ [UInt8.ofNat (48 + k % 10)]).length ≤ 20 := by
          have h := congrArg List.length R.out
          rw [List.length_append, List.length_reverse] at h
          omega
        generalize UInt8.ofNat (48 + k % 10) = c at R DV hnl
        clear dv hR
        go_wp2_with (at_builtin; refine app1 rfl (.tmp 21) (.tmp 25) rfl w _ _ rfl hown c (DV.out) rfl (by omega) ?_; intro v1 w1 hown1)
        go_roundw
        case rel => exact ⟨k / 10, ds ++ [c], by go_num, by omega, hnl, R, hown1⟩
        case measure => simp [intOf]; omega
theorem tm (k : Nat) : (-(k : Int)).tmod 10 = -((k % 10 : Nat) : Int) := by
  rw [Int.neg_tmod]; norm_cast
theorem td (k : Nat) : (-(k : Int)).tdiv 10 = -((k / 10 : Nat) : Int) := by
  rw [Int.neg_tdiv]; norm_cast
set_option maxHeartbeats 2000000 in
theorem showNeg (n : Nat) (hpos : 0 < n) (hn : n ≤ 9223372036854775808) (w : World) :
    Calls Tryz.prog 28 #[.int .i64 (-(n : Int))] w fun e w' => e = .returned (.string ⟨(45 :: Lib.decDigits n).toArray⟩) ∧ Below w.heap.size w w' := by
  have HD : Hid (45 :: decE n = 45 :: Lib.decDigits n) := by unfold Hid decE; rw [if_neg (by omega)]
  have hDl : (45 :: Lib.decDigits n).length ≤ 21 := by rw [← HD.out, List.length_cons]; have := decE_len 20 n (by omega); omega
  generalize 45 :: Lib.decDigits n = D at HD hDl ⊢
  obtain ⟨x, hx⟩ : ∃ x : Int, x = -(n : Int) := ⟨_, rfl⟩
  rw [← hx]
  have HX := hideS hx
  have b0 : (x == 0) = false := by simp; omega
  have bb : decide (x < 0) = true := by simp; omega
  have x0 : -9223372036854775808 ≤ x := by omega
  have x1 : x ≤ 0 := by omega
  clear hx
  go_enter Tryz.func28, Tryz.ntmps28
  go_wp2
  go_loopw [0, 3, 5] (fun vv dv _ wr => ∃ (y : Int) (k : Nat) (ds : List UInt8), vv = .int .i64 y ∧ Hid (y = -(k : Int)) ∧ k ≤ n ∧ ds.length ≤ 20 ∧ Hid (45 :: (decE k ++ ds.reverse) = D) ∧ Own w dv ds wr) (fun vv _ _ _ => (-(intOf vv)).toNat)
  case atStart => exact ⟨x, n, [], rfl, HX, by omega, by simp, by unfold Hid; rw [← HD.out]; simp, own_empty w⟩
  case round =>
    obtain ⟨y, k, ds, rfl, hy, hk, hdl, hR, hown⟩ := hrel
    obtain ⟨w5', e5⟩ : ∃ x, x = wr := ⟨_, rfl⟩
    subst e5
    by_cases hk0 : k = 0
    · have HE : Hid ((ds ++ [45]).reverse = D) := by have := hR.out; unfold Hid; rw [hk0] at this; simpa [decE] using this
      have e0 : y = 0 := by have := hy.out; omega
      subst e0
      clear hR hy
      go_wp2_with (at_builtin; refine app1 rfl (.tmp 30) (.tmp 31) rfl w _ _ rfl hown 45 rfl rfl (by omega) ?_; intro v4 w5 hown4; obtain ⟨g, cap, rfl⟩ := own_some hown4 (by simp); obtain ⟨m, hm⟩ : ∃ m, m = (ds ++ [45]).length := ⟨_, rfl⟩; have hml : m ≤ 40 := (by rw [hm, List.length_append]; simp; omega); have HO := hideS hown4; have HM := hideS hm; rw [← hm] at hown4 ⊢; have hgl : g < w5.heap.size := (hown4.1.lt g rfl).2; clear hm hown4 hown)
      generalize ds ++ [45] = es at HE HO HM
      clear hdl
      go_loopw [6, 7] (fun ov iv wr => ∃ (j : Nat), j ≤ m ∧ iv = .int .i64 ((j : Int) - 1) ∧ Own w5 ov ((es.drop j).reverse) wr) (fun _ iv _ => (intOf iv + 1).toNat)
      case atStart => exact ⟨m, by omega, rfl, by rw [HM.out, List.drop_length]; exact own_empty w5⟩
      case round =>
        obtain ⟨j, hj, rfl, hown2⟩ := hrel
        cases j with
        | zero =>
          have hc := own_conv hown2
          have HF : Hid ((⟨((es.drop 0).reverse).toArray⟩ : ByteArray) = ⟨D.toArray⟩) := by unfold Hid; rw [List.drop_zero, HE.out]
          generalize (es.drop 0).reverse = Z at hc HF hown2
          go_wp2_with fail
          go_ret
          rw [HF.out]
          exact ⟨rfl, HO.out.2.trans (hown2.2.mono HO.out.2.size)⟩
        | succ j =>
          have hjl : j < es.length := by have := HM.out; omega
          have hcell : w5.cell? ⟨g, j, none⟩ = some (.int .u8 (es[j].toNat : Int)) := by
            have := HO.out.1.cells rfl j (B es[j]) (by simp [hjl])
            rcases Nat.eq_zero_or_pos j with rfl | hp
            · simpa [Addr.add, B] using this
            · simpa [Addr.add, B, Nat.ne_of_gt hp] using this
          have hc2 : wr.cell? ⟨g, j, none⟩ = some (.int .u8 (es[j].toNat : Int)) := by
            rw [hown2.2.cell (p := ⟨g, j, none⟩) hgl]; exact hcell
          have R : Hid ((es.drop j).reverse = (es.drop (j + 1)).reverse ++ [es[j]]) := drop_rev (by omega)
          have hl : ((es.drop (j + 1)).reverse).length ≤ 9999 := by simp; have := HM.out; omega
          have hb := byte_lt es[j]
          generalize es[j] = c at hcell hc2 R hb
          generalize (es.drop (j + 1)).reverse = Z at hown2 R hl
          have j0 : (0 : Int) ≤ ((j + 1 : Nat) : Int) - 1 := by omega
          clear hcell hjl
          go_wp2_with (at_builtin; refine app1 rfl (.tmp 41) (.tmp 46) rfl w5 _ _ rfl hown2 c rfl rfl (by omega) ?_; intro v1 w3 hown3)
          go_roundw
          case rel => exact ⟨j, by omega, by go_num, by rw [R.out]; exact hown3⟩
          case measure => simp [intOf]
    · have b1 : (y != 0) = true := by have := hy.out; simp; omega
      have y0 : -9223372036854775808 ≤ y := by have := hy.out; omega
      have y1 : y < 0 := by have := hy.out; omega
      have m1 : y.tmod 10 = -((k % 10 : Nat) : Int) := by rw [hy.out]; exact tm k
      have d1 : y.tdiv 10 = -((k / 10 : Nat) : Int) := by rw [hy.out]; exact td k
      have dv := dig_val k
      have R : Hid (45 :: (decE (k / 10) ++ (ds ++ [UInt8.ofNat (48 + k % 10)]).reverse) = D) := by
        unfold Hid; rw [← hR.out, decE_step hk0]; simp
      have DV : Hid (48 + ((k % 10 : Nat) : Int) = ((UInt8.ofNat (48 + k % 10)).toNat : Int)) := by unfold Hid; rw [← dv]; omega
      have hnl : (ds ++ [UInt8.ofNat (48 + k % 10)]).length ≤ 20 := by
        have h := congrArg List.length R.out
        rw [List.length_cons, List.length_append, List.length_reverse] at h
        omega
      have hr : k % 10 ≤ 9 := by omega
      obtain ⟨q, hq⟩ : ∃ q, q = k / 10 := ⟨_, rfl⟩
      have hqk : q < k := by omega
      rw [← hq] at d1 R
      have HQ := hideS hq
      have HY := hideS hk0
      generalize UInt8.ofNat (48 + k % 10) = c at R DV hnl
      generalize k % 10 = r at m1 DV hr
      clear dv hR hq hk0
      obtain ⟨p, hp⟩ : ∃ p : Int, p = -(r : Int) := ⟨_, rfl⟩
      obtain ⟨z, hz⟩ : ∃ z : Int, z = -(q : Int) := ⟨_, rfl⟩
      rw [← hp] at m1
      rw [← hz] at d1
      have HZ := hideS hz
      have z0 : -9223372036854775808 ≤ z := by omega
      have z1 : z ≤ 0 := by omega
      by_cases hr0 : r = 0
      · subst hr0
        have p0 : p = 0 := by omega
        subst p0
        have tp : decide ((0 : Int) < 0) = false := by decide
        clear hz hp
        go_wp2_with (at_builtin; refine app1 rfl (.tmp 21) (.tmp 25) rfl w _ _ rfl hown c (DV.out) rfl (by omega) ?_; intro v1 w1 hown1)
        go_roundw
        case rel => exact ⟨z, q, ds ++ [c], by go_num, HZ, by omega, hnl, R, hown1⟩
        case measure => have := HZ.out; have := hy.out; simp [intOf]; omega
      · have tp : decide (p < 0) = true := by simp; omega
        have np : -p = (r : Int) := by omega
        have p1 : -9 ≤ p := by omega
        have p2 : p < 0 := by omega
        clear hz hp
        go_wp2_with (at_builtin; refine app1 rfl (.tmp 21) (.tmp 25) rfl w _ _ rfl hown c (DV.out) rfl (by omega) ?_; intro v1 w1 hown1)
        go_roundw
        case rel => exact ⟨z, q, ds ++ [c], by go_num, HZ, by omega, hnl, R, hown1⟩
        case measure => have := HZ.out; have := hy.out; simp [intOf]; omega
theorem showInt (v : Int) (h0 : -9223372036854775808 ≤ v) (h1 : v ≤ 9223372036854775807) (w : World) :
    Calls Tryz.prog 28 #[.int .i64 v] w fun e w' => e = .returned (.string ⟨(Lib.itoa v).toArray⟩) ∧ Below w.heap.size w w' := by
  by_cases hv : v < 0
  · obtain ⟨n, hn⟩ : ∃ n : Nat, v = -(n : Int) := ⟨v.natAbs, by omega⟩
    have e : Lib.itoa v = 45 :: Lib.decDigits n := by unfold Lib.itoa; rw [if_pos hv, show v.natAbs = n by omega]
    rw [e, hn]
    exact showNeg n (by omega) (by omega) w
  · obtain ⟨n, hn⟩ : ∃ n : Nat, v = (n : Int) := ⟨v.toNat, by omega⟩
    have e : Lib.itoa v = Lib.decDigits n := by unfold Lib.itoa; rw [if_neg hv, show v.toNat = n by omega]
    rw [e, hn]
    exact showNat n (by omega) w
end Go.Proofs.YtipcmbonhkelbabGreatDoor
namespace Go.Proofs.YtipcmbonhkelbabGreatDoor
open Go.RowKit
def placeL (a b z : Int) : List UInt8 := [98, 121, 116, 101, 115, 32] ++ Lib.itoa a ++ [45] ++ Lib.itoa b ++ [47] ++ Lib.itoa z
theorem itoa_le (v : Int) (h0 : -9223372036854775808 ≤ v) (h1 : v ≤ 9223372036854775807) : (Lib.itoa v).length ≤ 20 := by
  have key : ∀ (k n : Nat), n < 10 ^ (k + 1) → (Lib.decDigits n).length ≤ k + 1 := by
    intro k
    induction k with
    | zero => intro n h; rw [Lib.decDigits_one (by simpa using h)]; simp
    | succ k ih =>
      intro n h
      by_cases h1 : n < 10
      · rw [Lib.decDigits_one h1]; simp
      · rw [Lib.decDigits, dif_neg h1]
        have := ih (n / 10) (by rw [Nat.pow_succ] at h; omega)
        simp; omega
  have h3 := key 18 v.natAbs (by show v.natAbs < 10000000000000000000; omega)
  unfold Lib.itoa
  split
  · simp; omega
  · have h4 := key 18 v.toNat (by show v.toNat < 10000000000000000000; omega)
    omega
theorem baA (a b : List UInt8) : (⟨a.toArray⟩ : ByteArray) ++ ⟨b.toArray⟩ = ⟨(a ++ b).toArray⟩ := by
  rw [← ba_eta (⟨a.toArray⟩ ++ ⟨b.toArray⟩)]
  simp
set_option maxHeartbeats 4000000 in
set_option maxRecDepth 20000 in
theorem placeRG (a b z : Int) (a0 : -9223372036854775808 ≤ a) (a1 : a ≤ 9223372036854775807) (b0 : -9223372036854775808 ≤ b) (b1 : b ≤ 9223372036854775807) (z0 : -9223372036854775808 ≤ z) (z1 : z ≤ 9223372036854775807) (w : World) :
    Calls Tryz.prog 29 #[.agg #[.int .i64 a, .int .i64 b], .int .i64 z] w fun e w' => e = .returned (.string ⟨(placeL a b z).toArray⟩) ∧ Below w.heap.size w w' := by
  obtain ⟨A, eA⟩ : ∃ A : ByteArray, A = ⟨(Lib.itoa a).toArray⟩ := ⟨_, rfl⟩
  obtain ⟨B, eB⟩ : ∃ B : ByteArray, B = ⟨(Lib.itoa b).toArray⟩ := ⟨_, rfl⟩
  obtain ⟨Z, eZ⟩ : ∃ Z : ByteArray, Z = ⟨(Lib.itoa z).toArray⟩ := ⟨_, rfl⟩
  have lA : A.size ≤ 20 := by rw [eA, size_l]; exact itoa_le a a0 a1
  have lB : B.size ≤ 20 := by rw [eB, size_l]; exact itoa_le b b0 b1
  have lZ : Z.size ≤ 20 := by rw [eZ, size_l]; exact itoa_le z z0 z1
  have sA := showInt a a0 a1
  have sB := showInt b b0 b1
  have sZ := showInt z z0 z1
  rw [← eA] at sA
  rw [← eB] at sB
  rw [← eZ] at sZ
  have FIN := hide' (show ((((((⟨#[98, 121, 116, 101, 115, 32]⟩ : ByteArray) ++ A) ++ ⟨#[45]⟩) ++ B) ++ ⟨#[47]⟩) ++ Z) = ⟨(placeL a b z).toArray⟩ from by
    rw [eA, eB, eZ, show (⟨#[98, 121, 116, 101, 115, 32]⟩ : ByteArray) = ⟨([98, 121, 116, 101, 115, 32] : List UInt8).toArray⟩ from rfl, show (⟨#[45]⟩ : ByteArray) = ⟨([45] : List UInt8).toArray⟩ from rfl, show (⟨#[47]⟩ : ByteArray) = ⟨([47] : List UInt8).toArray⟩ from rfl]
    simp only [baA]
    rfl)
  have y0 : (⟨#[98, 121, 116, 101, 115, 32]⟩ : ByteArray).size = 6 := rfl
  have y1 : (⟨#[45]⟩ : ByteArray).size = 1 := rfl
  have y2 : (⟨#[47]⟩ : ByteArray).size = 1 := rfl
  have p1 : ∀ W, (Op.stringOp .add ⟨#[98, 121, 116, 101, 115, 32]⟩ A).run Tryz.prog W = .ok (.string (⟨#[98, 121, 116, 101, 115, 32]⟩ ++ A)) W := fun W => run_string_add_sum W _ _ (by omega)
  have q1 : ((⟨#[98, 121, 116, 101, 115, 32]⟩ : ByteArray) ++ A).size ≤ 26 := by rw [ByteArray.size_append]; omega
  generalize ((⟨#[98, 121, 116, 101, 115, 32]⟩ : ByteArray) ++ A) = T1 at p1 q1 FIN
  have p2 : ∀ W, (Op.stringOp .add T1 ⟨#[45]⟩).run Tryz.prog W = .ok (.string (T1 ++ ⟨#[45]⟩)) W := fun W => run_string_add_sum W _ _ (by omega)
  have q2 : (T1 ++ (⟨#[45]⟩ : ByteArray)).size ≤ 27 := by rw [ByteArray.size_append]; omega
  generalize T1 ++ (⟨#[45]⟩ : ByteArray) = T2 at p2 q2 FIN
  have p3 : ∀ W, (Op.stringOp .add T2 B).run Tryz.prog W = .ok (.string (T2 ++ B)) W := fun W => run_string_add_sum W _ _ (by omega)
  have q3 : (T2 ++ B).size ≤ 47 := by rw [ByteArray.size_append]; omega
  generalize T2 ++ B = T3 at p3 q3 FIN
  have p4 : ∀ W, (Op.stringOp .add T3 ⟨#[47]⟩).run Tryz.prog W = .ok (.string (T3 ++ ⟨#[47]⟩)) W := fun W => run_string_add_sum W _ _ (by omega)
  have q4 : (T3 ++ (⟨#[47]⟩ : ByteArray)).size ≤ 48 := by rw [ByteArray.size_append]; omega
  generalize T3 ++ (⟨#[47]⟩ : ByteArray) = T4 at p4 q4 FIN
  have p5 : ∀ W, (Op.stringOp .add T4 Z).run Tryz.prog W = .ok (.string (T4 ++ Z)) W := fun W => run_string_add_sum W _ _ (by omega)
  generalize T4 ++ Z = T5 at p5 FIN
  rw [← FIN.out]
  clear eA eB eZ FIN y0 y1 y2 q1 q2 q3 q4 lA lB lZ a0 a1 b0 b1 z0 z1
  obtain ⟨W0, eW⟩ : ∃ W0, W0 = w.alloc (.cells #[.int .i64 a, .int .i64 b] 44) := ⟨_, rfl⟩
  obtain ⟨g, hg⟩ : ∃ g, g = w.heap.size := ⟨_, rfl⟩
  have C0 : W0.cell? ⟨g, 0, none⟩ = some (.int .i64 a) ∧ W0.cell? ⟨g, 1, none⟩ = some (.int .i64 b) := by
    rw [eW, hg]
    have h : Blk w.heap.size (w.alloc (.cells #[.int .i64 a, .int .i64 b] 44)) [.int .i64 a, .int .i64 b] := cells_lit w _ _
    exact ⟨(h.1 0 (by simp)).1, (h.1 1 (by simp)).1⟩
  have LW : g < W0.heap.size := by rw [eW, hg]; simp
  have BW : Hid (Below w.heap.size w W0) := by unfold Hid; rw [eW]; exact below_alloc' _ _
  have mk : ∀ (v : Int) (X : ByteArray), (∀ W, Calls Tryz.prog 28 #[.int .i64 v] W fun e w' => e = .returned (.string X) ∧ Below W.heap.size W w') → ∀ W, Below W0.heap.size W0 W → Calls Tryz.prog 28 #[.int .i64 v] W fun e w' => e = .returned (.string X) ∧ Hid (Below W0.heap.size W0 w') ∧ w'.cell? ⟨g, 0, none⟩ = some (.int .i64 a) ∧ w'.cell? ⟨g, 1, none⟩ = some (.int .i64 b) := by
    intro v X c W hb
    refine (c W).mono ?_
    rintro e w' ⟨rfl, b⟩
    have b2 : Below W0.heap.size W0 w' := hb.trans (b.mono hb.size)
    exact ⟨rfl, b2, by rw [b2.cell (p := ⟨g, 0, none⟩) LW]; exact C0.1, by rw [b2.cell (p := ⟨g, 1, none⟩) LW]; exact C0.2⟩
  have kA := hide' (mk a A sA)
  have kB := hide' (mk b B sB)
  have kZ := hide' (mk z Z sZ)
  clear mk sA sB sZ
  have O1 : Hid (Below W0.heap.size W0 W0) := Below.refl _ _
  obtain ⟨c0, c1⟩ := C0
  go_enter Tryz.func29, Tryz.ntmps29
  go_wp2_with fail
  rw [← eW, ← hg]
  clear eW hg
  go_region_held3 (fun w' => w'.cell? ⟨g, 0, none⟩ = some (.int .i64 a) ∧ w'.cell? ⟨g, 1, none⟩ = some (.int .i64 b)) (go_keep)
    (first
      | (go_at_call_of 28 (Value.int .i64 a); refine (kA.out _ (by first | exact O1.out | exact O1.out.drew)).mono ?_; rintro e w2 ⟨rfl, O2, d0, d1⟩)
      | (go_at_call_of 28 (Value.int .i64 b); refine (kB.out _ O2.out).mono ?_; rintro e w3 ⟨rfl, O3, d2, d3⟩)
      | (go_at_call_of 28 (Value.int .i64 z); refine (kZ.out _ O3.out).mono ?_; rintro e w4 ⟨rfl, O4, d4, d5⟩))
  all_goals
    go_wp2_with fail
    go_ret
    exact ⟨rfl, BW.out.trans (O4.out.mono BW.out.size)⟩
end Go.Proofs.YtipcmbonhkelbabGreatDoor
namespace Go.Proofs.YtipcmbonhkelbabGreatDoor
open Go.RowKit
set_option maxHeartbeats 4000000 in
set_option maxRecDepth 20000 in
theorem placeG (a b z : Int) (a0 : -9223372036854775808 ≤ a) (a1 : a ≤ 9223372036854775807) (b0 : -9223372036854775808 ≤ b) (b1 : b ≤ 9223372036854775807) (z0 : -9223372036854775808 ≤ z) (z1 : z ≤ 9223372036854775807) (w : World) (T : Tab w) :
    Calls Tryz.prog 44 #[.agg #[.int .i64 a, .int .i64 b], .int .i64 z] w fun e w' => e = .returned (.string ⟨(placeL a b z).toArray⟩) ∧ Below w.heap.size w w' := by
  obtain ⟨A, eA⟩ : ∃ A : ByteArray, A = ⟨(Lib.itoa a).toArray⟩ := ⟨_, rfl⟩
  obtain ⟨B, eB⟩ : ∃ B : ByteArray, B = ⟨(Lib.itoa b).toArray⟩ := ⟨_, rfl⟩
  obtain ⟨Z, eZ⟩ : ∃ Z : ByteArray, Z = ⟨(Lib.itoa z).toArray⟩ := ⟨_, rfl⟩
  have lA : A.size ≤ 20 := by rw [eA, size_l]; exact itoa_le a a0 a1
  have lB : B.size ≤ 20 := by rw [eB, size_l]; exact itoa_le b b0 b1
  have lZ : Z.size ≤ 20 := by rw [eZ, size_l]; exact itoa_le z z0 z1
  have sA := itoaTab a a0 a1
  have sB := itoaTab b b0 b1
  have sZ := itoaTab z z0 z1
  rw [← eA] at sA
  rw [← eB] at sB
  rw [← eZ] at sZ
  have FIN := hide' (show ((((((⟨#[98, 121, 116, 101, 115, 32]⟩ : ByteArray) ++ A) ++ ⟨#[45]⟩) ++ B) ++ ⟨#[47]⟩) ++ Z) = ⟨(placeL a b z).toArray⟩ from by
    rw [eA, eB, eZ, show (⟨#[98, 121, 116, 101, 115, 32]⟩ : ByteArray) = ⟨([98, 121, 116, 101, 115, 32] : List UInt8).toArray⟩ from rfl, show (⟨#[45]⟩ : ByteArray) = ⟨([45] : List UInt8).toArray⟩ from rfl, show (⟨#[47]⟩ : ByteArray) = ⟨([47] : List UInt8).toArray⟩ from rfl]
    simp only [baA]
    rfl)
  have y0 : (⟨#[98, 121, 116, 101, 115, 32]⟩ : ByteArray).size = 6 := rfl
  have y1 : (⟨#[45]⟩ : ByteArray).size = 1 := rfl
  have y2 : (⟨#[47]⟩ : ByteArray).size = 1 := rfl
  have p1 : ∀ W, (Op.stringOp .add ⟨#[98, 121, 116, 101, 115, 32]⟩ A).run Tryz.prog W = .ok (.string (⟨#[98, 121, 116, 101, 115, 32]⟩ ++ A)) W := fun W => run_string_add_sum W _ _ (by omega)
  have q1 : ((⟨#[98, 121, 116, 101, 115, 32]⟩ : ByteArray) ++ A).size ≤ 26 := by rw [ByteArray.size_append]; omega
  generalize ((⟨#[98, 121, 116, 101, 115, 32]⟩ : ByteArray) ++ A) = T1 at p1 q1 FIN
  have p2 : ∀ W, (Op.stringOp .add T1 ⟨#[45]⟩).run Tryz.prog W = .ok (.string (T1 ++ ⟨#[45]⟩)) W := fun W => run_string_add_sum W _ _ (by omega)
  have q2 : (T1 ++ (⟨#[45]⟩ : ByteArray)).size ≤ 27 := by rw [ByteArray.size_append]; omega
  generalize T1 ++ (⟨#[45]⟩ : ByteArray) = T2 at p2 q2 FIN
  have p3 : ∀ W, (Op.stringOp .add T2 B).run Tryz.prog W = .ok (.string (T2 ++ B)) W := fun W => run_string_add_sum W _ _ (by omega)
  have q3 : (T2 ++ B).size ≤ 47 := by rw [ByteArray.size_append]; omega
  generalize T2 ++ B = T3 at p3 q3 FIN
  have p4 : ∀ W, (Op.stringOp .add T3 ⟨#[47]⟩).run Tryz.prog W = .ok (.string (T3 ++ ⟨#[47]⟩)) W := fun W => run_string_add_sum W _ _ (by omega)
  have q4 : (T3 ++ (⟨#[47]⟩ : ByteArray)).size ≤ 48 := by rw [ByteArray.size_append]; omega
  generalize T3 ++ (⟨#[47]⟩ : ByteArray) = T4 at p4 q4 FIN
  have p5 : ∀ W, (Op.stringOp .add T4 Z).run Tryz.prog W = .ok (.string (T4 ++ Z)) W := fun W => run_string_add_sum W _ _ (by omega)
  generalize T4 ++ Z = T5 at p5 FIN
  rw [← FIN.out]
  clear eA eB eZ FIN y0 y1 y2 q1 q2 q3 q4 lA lB lZ a0 a1 b0 b1 z0 z1
  obtain ⟨W0, eW⟩ : ∃ W0, W0 = w.alloc (.cells #[.int .i64 a, .int .i64 b] 44) := ⟨_, rfl⟩
  obtain ⟨g, hg⟩ : ∃ g, g = w.heap.size := ⟨_, rfl⟩
  have C0 : W0.cell? ⟨g, 0, none⟩ = some (.int .i64 a) ∧ W0.cell? ⟨g, 1, none⟩ = some (.int .i64 b) := by
    rw [eW, hg]
    have h : Blk w.heap.size (w.alloc (.cells #[.int .i64 a, .int .i64 b] 44)) [.int .i64 a, .int .i64 b] := cells_lit w _ _
    exact ⟨(h.1 0 (by simp)).1, (h.1 1 (by simp)).1⟩
  have LW : g < W0.heap.size := by rw [eW, hg]; simp
  have BW : Hid (Below w.heap.size w W0) := by unfold Hid; rw [eW]; exact below_alloc' _ _
  have mk : ∀ (v : Int) (X : ByteArray), (∀ W, Tab W → Calls Tryz.prog 42 #[.int .i64 v] W fun e w' => e = .returned (.string X) ∧ Below W.heap.size W w') → ∀ W, Below W0.heap.size W0 W → Calls Tryz.prog 42 #[.int .i64 v] W fun e w' => e = .returned (.string X) ∧ Hid (Below W0.heap.size W0 w') ∧ w'.cell? ⟨g, 0, none⟩ = some (.int .i64 a) ∧ w'.cell? ⟨g, 1, none⟩ = some (.int .i64 b) := by
    intro v X c W hb
    refine (c W (tab_below T (BW.out.trans (hb.mono BW.out.size)))).mono ?_
    rintro e w' ⟨rfl, b⟩
    have b2 : Below W0.heap.size W0 w' := hb.trans (b.mono hb.size)
    exact ⟨rfl, b2, by rw [b2.cell (p := ⟨g, 0, none⟩) LW]; exact C0.1, by rw [b2.cell (p := ⟨g, 1, none⟩) LW]; exact C0.2⟩
  have kA := hide' (mk a A sA)
  have kB := hide' (mk b B sB)
  have kZ := hide' (mk z Z sZ)
  clear mk sA sB sZ T
  have O1 : Hid (Below W0.heap.size W0 W0) := Below.refl _ _
  obtain ⟨c0, c1⟩ := C0
  go_enter Tryz.func44, Tryz.ntmps44
  go_wp2_with fail
  rw [← eW, ← hg]
  clear eW hg
  go_region_held3 (fun w' => w'.cell? ⟨g, 0, none⟩ = some (.int .i64 a) ∧ w'.cell? ⟨g, 1, none⟩ = some (.int .i64 b)) (go_keep)
    (first
      | (go_at_call_of 42 (Value.int .i64 a); refine (kA.out _ (by first | exact O1.out | exact O1.out.drew)).mono ?_; rintro e w2 ⟨rfl, O2, d0, d1⟩)
      | (go_at_call_of 42 (Value.int .i64 b); refine (kB.out _ O2.out).mono ?_; rintro e w3 ⟨rfl, O3, d2, d3⟩)
      | (go_at_call_of 42 (Value.int .i64 z); refine (kZ.out _ O3.out).mono ?_; rintro e w4 ⟨rfl, O4, d4, d5⟩))
  all_goals
    go_wp2_with fail
    go_ret
    exact ⟨rfl, BW.out.trans (O4.out.mono BW.out.size)⟩
end Go.Proofs.YtipcmbonhkelbabGreatDoor
