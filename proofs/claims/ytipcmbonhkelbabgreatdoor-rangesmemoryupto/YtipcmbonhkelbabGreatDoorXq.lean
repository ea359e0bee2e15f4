/- The second that a text says, to date.Parse and to the document's. The contracts of second and Ask. The contracts of the document's Tag and Same. -/
import Derived.Test.YtipcmbonhkelbabGreatDoorXf
import Derived.Test.YtipcmbonhkelbabGreatDoorXg
import Derived.Test.YtipcmbonhkelbabGreatDoorVaT
import Derived.Test.YtipcmbonhkelbabGreatDoorBo
import Derived.Test.YtipcmbonhkelbabGreatDoorXd
import Derived.Test.YtipcmbonhkelbabGreatDoorBm
import Derived.Test.YtipcmbonhkelbabGreatDoorBk
import Derived.Deep.Cut
namespace Go.Proofs.YtipcmbonhkelbabGreatDoor
open Go.RowKit
/-- what date.Parse needs of the world -/
def EvD (w : World) : Prop := Vars w ∧ MaxVD w
theorem evD_below {w w' : World} (h : EvD w) (b : Below w.heap.size w w') : EvD w' := ⟨h.1.below b, h.2.below b⟩
/-- d is the second that the text says, -1 where it says none -/
def DtP (l : List UInt8) (d : Int) : Prop := -1 ≤ d ∧ d ≤ 253402300799 ∧ ∃ v e : Int, ((d < 0 ∧ v = 0 ∧ e = 20) ∨ (0 ≤ d ∧ v = d ∧ e = 0)) ∧ Ans ⟨l.toArray⟩ v e
/-- .. and the document reads it so, too -/
def DtQ (l : List UInt8) (d : Int) : Prop := ∃ v e : Int, ((d < 0 ∧ v = 0 ∧ e = 20) ∨ (0 ≤ d ∧ v = d ∧ e = 0)) ∧ RefAns ⟨l.toArray⟩ v e
def DtB (l : List UInt8) (d : Int) : Prop := DtP l d ∧ DtQ l d
end Go.Proofs.YtipcmbonhkelbabGreatDoor
namespace Go.Proofs.YtipcmbonhkelbabGreatDoor
open Go.RowKit
theorem getJ_eq (fs : FL) (n : List UInt8) : joinOf (valsOf fs n) = getJ fs n := rfl
theorem vals_low2 (fs : FL) {a b : List UInt8} (h : lows a = lows b) : valsOf fs a = valsOf fs b := by unfold valsOf; rw [h]
theorem getJ_low (fs : FL) {a b : List UInt8} (h : lows a = lows b) : getJ fs a = getJ fs b := by unfold getJ; rw [vals_low2 fs h]
def etU : List UInt8 := [69, 84, 97, 103]
def lmU : List UInt8 := [76, 97, 115, 116, 45, 77, 111, 100, 105, 102, 105, 101, 100]
theorem getJ_et (fs : FL) : getJ fs etU = getJ fs etN := getJ_low fs (by decide)
theorem getJ_lm (fs : FL) : getJ fs lmU = getJ fs lmN := getJ_low fs (by decide)
theorem getJ_len (fs : FL) (n : List UInt8) : (getJ fs n).length ≤ 2 * bulkF fs := by
  have h1 := join_len (valsOf fs n)
  have h2 := bulk_vals fs n
  show (joinOf (valsOf fs n)).length ≤ _
  omega
theorem put_nil (n x : List UInt8) : putOf [] n x = [(n, x)] := rfl
theorem put_ask (y x : List UInt8) : putOf [(inN, y)] imN x = [(inN, y), (imN, x)] := by
  have ne : ¬ lows inN = lows imN := by decide
  unfold putOf withoutOf
  simp [ne]
/-- what Ask makes, step by step -/
theorem ask_step (D : List UInt8 → Int) (fs : FL) : askOf D fs = if 0 ≤ D (getJ fs lmN) then putOf (askT fs) imN (getJ fs lmN) else askT fs := by
  unfold askOf askD
  split
  · unfold askT
    split
    · rw [put_ask]; rfl
    · rw [put_nil]; rfl
  · rw [List.append_nil]
theorem blk4 {b : Nat} {W : World} {x0 x1 x2 x3 : Value} (h : Blk b W [x0, x1, x2, x3]) : W.cell? ⟨b, 0, none⟩ = some x0 ∧ W.cell? ⟨b, 1, none⟩ = some x1 ∧ W.cell? ⟨b, 2, none⟩ = some x2 ∧ W.cell? ⟨b, 3, none⟩ = some x3 ∧ b < W.heap.size :=
  ⟨(h.1 0 (by simp)).1, (h.1 1 (by simp)).1, (h.1 2 (by simp)).1, (h.1 3 (by simp)).1, h.2⟩
theorem fit_one {n x : List UInt8} (hn : n.length ≤ 140737488351232) (hx : x.length ≤ 140737488351232) : Fit [(n, x)] := by
  intro f hf
  obtain rfl := List.mem_singleton.1 hf
  exact ⟨hn, hx⟩
end Go.Proofs.YtipcmbonhkelbabGreatDoor
namespace Go.Proofs.YtipcmbonhkelbabGreatDoor
open Go.RowKit
/-- what the document's Tag answers: of what is left behind the mark -/
def ansT (o wk : Bool) (r : ByteArray) : Value := if o = true then .tuple #[.string r, .bool wk, .bool true] else .tuple #[.string ⟨#[]⟩, .bool false, .bool false]
theorem ansT_eq (l : List UInt8) : ansT (isO (restW l)) (isW l) ⟨(restW l).toArray⟩ = .tuple #[.string ⟨(tagS l).toArray⟩, .bool (tagK l), .bool (tagB l)] := by
  unfold ansT tagS tagK tagB
  cases isO (restW l) <;> simp
set_option maxRecDepth 20000 in
set_option maxHeartbeats 4000000 in
theorem tagRA (s : ByteArray) (w : World) (hs : s.size ≤ 140737488351232) :
    Calls Tryz.prog 73 #[.string s] w fun e w' => e = .returned (ansT (isO (restW s.data.toList)) (isW s.data.toList) ⟨(restW s.data.toList).toArray⟩) ∧ w' = w := by
  have hl : s.data.toList.length = s.size := by simp
  by_cases hw : isW s.data.toList = true
  · have hz : 2 ≤ s.size := by
      unfold isW at hw
      rw [decide_eq_true_eq] at hw
      have := congrArg List.length hw
      rw [List.length_take] at this
      simp only [List.length_cons, List.length_nil] at this
      omega
    have hx : ((s.extract 0 2).toList == [87, 47]) = true := by
      rw [Lib.toList_data, ByteArray.data_extract, Array.toList_extract, List.extract_eq_take_drop]
      unfold isW at hw
      simpa using hw
    obtain ⟨t, et⟩ : ∃ t, t = s.extract 2 s.size := ⟨_, rfl⟩
    have TS : Hid (s.extract 2 s.size = t) := et.symm
    have tl : t.data.toList = s.data.toList.drop 2 := by
      rw [et, ByteArray.data_extract, Array.toList_extract, List.extract_eq_take_drop, List.take_of_length_le (by rw [List.length_drop]; omega)]
    have re : restW s.data.toList = t.data.toList := by unfold restW; rw [if_pos hw, tl]
    have tz : t.size ≤ 140737488351232 := by
      have h1 := congrArg List.length tl
      rw [List.length_drop] at h1
      simp at h1
      omega
    rw [re, hw]
    have TO := hide' (show ∀ o, ansT o true ⟨t.data.toList.toArray⟩ = if o = true then .tuple #[.string t, .bool true, .bool true] else .tuple #[.string ⟨#[]⟩, .bool false, .bool false] from fun o => by rw [ba_eta]; rfl)
    clear et tl re hw hl hs
    go_enter Tryz.func73, Tryz.ntmps73
    go_upto_region 4 with fail
    rw [TS.out]
    clear TS hx hz
    by_cases h2 : t.size < 2
    · have F := hide' (isO_short t h2)
      go_wp2
      go_ret3
      exact ⟨by rw [TO.out, F.out]; rfl, rfl⟩
    have h3 : 2 ≤ t.size := by omega
    clear h2
    have E := hide' (isO_eq t h3)
    by_cases c0 : (t[0].toNat : Int) = 34
    · by_cases c1 : (t[t.size - 1].toNat : Int) = 34
      · have E2 := hide' (show isO t.data.toList = (inner t).all etB from by rw [E.out]; simp [c0, c1])
        have b0 : ((t[0].toNat : Int) != 34) = false := by simp [c0]
        have b1 : ((t[t.size - 1].toNat : Int) != 34) = false := by simp [c1]
        have BAD := hide' (inner_bad t h3)
        have STEP := hide' (inner_step t h3)
        have FIN := hide' (inner_end t h3)
        clear c0 c1 E
        go_wp2
        clear b0 b1
        go_loop [6] (fun i => ∃ k : Nat, 1 ≤ k ∧ k + 1 ≤ t.size ∧ i = .int .i64 k ∧ Hid (((inner t).take (k - 1)).all etB = true)) (fun i => t.size - (intOf i).toNat)
        case atStart => exact ⟨1, by omega, by omega, rfl, by unfold Hid; simp⟩
        case round =>
          obtain ⟨k, k1, k2, rfl, ha⟩ := hrel
          by_cases hlt : k + 1 < t.size
          · have hb := byte_lt t[k]
            cases ht : etI (t[k].toNat : Int) with
            | true =>
              have A := hide' (STEP.out k k1 hlt ht ha.out)
              unfold etI at ht
              rw [decide_eq_true_eq] at ht
              obtain ⟨g1, g2, g3⟩ := ht
              have q1 : ¬ (t[k].toNat : Int) < 33 := by omega
              have q2 : ((t[k].toNat : Int) == 34) = false := by simpa using g2
              have q3 : ((t[k].toNat : Int) == 127) = false := by simpa using g3
              clear BAD STEP FIN ha g1 g2 g3
              go_wp2
              go_round
              case rel => exact ⟨k + 1, by omega, by omega, by go_num, A⟩
              case measure => simp [intOf]; omega
            | false =>
              have F := hide' (BAD.out k k1 hlt ht)
              unfold etI at ht
              rw [decide_eq_false_iff_not] at ht
              clear BAD STEP FIN ha
              by_cases q1 : (t[k].toNat : Int) < 33
              · clear ht
                go_wp2
                go_ret3
                exact ⟨by rw [TO.out, F.out]; rfl, rfl⟩
              by_cases g2 : (t[k].toNat : Int) = 34
              · have q2 : ((t[k].toNat : Int) == 34) = true := by simpa using g2
                clear ht g2
                go_wp2
                go_ret3
                exact ⟨by rw [TO.out, F.out]; rfl, rfl⟩
              · have q2 : ((t[k].toNat : Int) == 34) = false := by simpa using g2
                have q3 : ((t[k].toNat : Int) == 127) = true := by
                  have : (t[k].toNat : Int) = 127 := by
                    rcases Classical.em ((t[k].toNat : Int) = 127) with h | h
                    · exact h
                    · exact absurd ⟨by omega, g2, h⟩ ht
                  simpa using this
                clear ht g2
                go_wp2
                go_ret3
                exact ⟨by rw [TO.out, F.out]; rfl, rfl⟩
          · have F := hide' (show isO t.data.toList = true from by rw [E2.out]; exact FIN.out k (by omega) ha.out)
            clear BAD STEP FIN ha
            go_wp2
            go_ret3
            exact ⟨by rw [TO.out, F.out]; rfl, rfl⟩
      · have F := hide' (show isO t.data.toList = false from by rw [E.out]; simp [c1])
        have b0 : ((t[0].toNat : Int) != 34) = false := by simp [c0]
        have b1 : ((t[t.size - 1].toNat : Int) != 34) = true := by simp [c1]
        clear c0 c1 E
        go_wp2
        go_ret3
        exact ⟨by rw [TO.out, F.out]; rfl, rfl⟩
    · have F := hide' (show isO t.data.toList = false from by rw [E.out]; simp [c0])
      have b0 : ((t[0].toNat : Int) != 34) = true := by simp [c0]
      clear c0 E
      go_wp2
      go_ret3
      exact ⟨by rw [TO.out, F.out]; rfl, rfl⟩
  · have TT := hide' (ba_eta s)
    have hw2 : isW s.data.toList = false := by simpa using hw
    have re : restW s.data.toList = s.data.toList := by unfold restW; rw [if_neg hw]
    rw [re, hw2]
    have TO := hide' (show ∀ o, ansT o false ⟨s.data.toList.toArray⟩ = if o = true then .tuple #[.string s, .bool false, .bool true] else .tuple #[.string ⟨#[]⟩, .bool false, .bool false] from fun o => by rw [ba_eta]; rfl)
    by_cases hz : s.size < 2
    · have F := hide' (isO_short s hz)
      clear re hw hw2 hl
      go_enter Tryz.func73, Tryz.ntmps73
      go_wp2
      go_ret3
      exact ⟨by rw [TO.out, F.out]; rfl, rfl⟩
    have hz2 : 2 ≤ s.size := by omega
    have hx : ((s.extract 0 2).toList == [87, 47]) = false := by
      rw [Lib.toList_data, ByteArray.data_extract, Array.toList_extract, List.extract_eq_take_drop]
      unfold isW at hw2
      simpa using hw2
    clear re hw hw2 hl hz
    obtain ⟨t, et⟩ : ∃ t, t = s := ⟨_, rfl⟩
    subst et
    go_enter Tryz.func73, Tryz.ntmps73
    go_upto_region 4 with fail
    clear hx
    have h3 : 2 ≤ t.size := hz2
    clear hz2
    have E := hide' (isO_eq t h3)
    by_cases c0 : (t[0].toNat : Int) = 34
    · by_cases c1 : (t[t.size - 1].toNat : Int) = 34
      · have E2 := hide' (show isO t.data.toList = (inner t).all etB from by rw [E.out]; simp [c0, c1])
        have b0 : ((t[0].toNat : Int) != 34) = false := by simp [c0]
        have b1 : ((t[t.size - 1].toNat : Int) != 34) = false := by simp [c1]
        have BAD := hide' (inner_bad t h3)
        have STEP := hide' (inner_step t h3)
        have FIN := hide' (inner_end t h3)
        clear c0 c1 E
        go_wp2
        clear b0 b1
        go_loop [6] (fun i => ∃ k : Nat, 1 ≤ k ∧ k + 1 ≤ t.size ∧ i = .int .i64 k ∧ Hid (((inner t).take (k - 1)).all etB = true)) (fun i => t.size - (intOf i).toNat)
        case atStart => exact ⟨1, by omega, by omega, rfl, by unfold Hid; simp⟩
        case round =>
          obtain ⟨k, k1, k2, rfl, ha⟩ := hrel
          by_cases hlt : k + 1 < t.size
          · have hb := byte_lt t[k]
            cases ht : etI (t[k].toNat : Int) with
            | true =>
              have A := hide' (STEP.out k k1 hlt ht ha.out)
              unfold etI at ht
              rw [decide_eq_true_eq] at ht
              obtain ⟨g1, g2, g3⟩ := ht
              have q1 : ¬ (t[k].toNat : Int) < 33 := by omega
              have q2 : ((t[k].toNat : Int) == 34) = false := by simpa using g2
              have q3 : ((t[k].toNat : Int) == 127) = false := by simpa using g3
              clear BAD STEP FIN ha g1 g2 g3
              go_wp2
              go_round
              case rel => exact ⟨k + 1, by omega, by omega, by go_num, A⟩
              case measure => simp [intOf]; omega
            | false =>
              have F := hide' (BAD.out k k1 hlt ht)
              unfold etI at ht
              rw [decide_eq_false_iff_not] at ht
              clear BAD STEP FIN ha
              by_cases q1 : (t[k].toNat : Int) < 33
              · clear ht
                go_wp2
                go_ret3
                exact ⟨by rw [TO.out, F.out]; rfl, rfl⟩
              by_cases g2 : (t[k].toNat : Int) = 34
              · have q2 : ((t[k].toNat : Int) == 34) = true := by simpa using g2
                clear ht g2
                go_wp2
                go_ret3
                exact ⟨by rw [TO.out, F.out]; rfl, rfl⟩
              · have q2 : ((t[k].toNat : Int) == 34) = false := by simpa using g2
                have q3 : ((t[k].toNat : Int) == 127) = true := by
                  have : (t[k].toNat : Int) = 127 := by
                    rcases Classical.em ((t[k].toNat : Int) = 127) with h | h
                    · exact h
                    · exact absurd ⟨by omega, g2, h⟩ ht
                  simpa using this
                clear ht g2
                go_wp2
                go_ret3
                exact ⟨by rw [TO.out, F.out]; rfl, rfl⟩
          · have F := hide' (show isO t.data.toList = true from by rw [E2.out]; exact FIN.out k (by omega) ha.out)
            clear BAD STEP FIN ha
            go_wp2
            go_ret3
            exact ⟨by rw [TO.out, F.out]; rfl, rfl⟩
      · have F := hide' (show isO t.data.toList = false from by rw [E.out]; simp [c1])
        have b0 : ((t[0].toNat : Int) != 34) = false := by simp [c0]
        have b1 : ((t[t.size - 1].toNat : Int) != 34) = true := by simp [c1]
        clear c0 c1 E
        go_wp2
        go_ret3
        exact ⟨by rw [TO.out, F.out]; rfl, rfl⟩
    · have F := hide' (show isO t.data.toList = false from by rw [E.out]; simp [c0])
      have b0 : ((t[0].toNat : Int) != 34) = true := by simp [c0]
      clear c0 E
      go_wp2
      go_ret3
      exact ⟨by rw [TO.out, F.out]; rfl, rfl⟩
theorem tagRC (l : List UInt8) (w : World) (hs : l.length ≤ 140737488351232) :
    Calls Tryz.prog 73 #[.string ⟨l.toArray⟩] w fun e w' => e = .returned (.tuple #[.string ⟨(tagS l).toArray⟩, .bool (tagK l), .bool (tagB l)]) ∧ w' = w := by
  have c := tagRA ⟨l.toArray⟩ w (by rw [size_l]; exact hs)
  rw [show (⟨l.toArray⟩ : ByteArray).data.toList = l from rfl, ansT_eq] at c
  exact c
theorem tag_cases (a b : List UInt8) (st : Bool) : (tagB a = false ∧ sameG a b st = false) ∨ (tagB a = true ∧ tagB b = false ∧ sameG a b st = false) ∨ (tagB a = true ∧ tagB b = true ∧ ¬ tagS a = tagS b ∧ sameG a b st = false) ∨ (tagB a = true ∧ tagB b = true ∧ tagS a = tagS b ∧ sameG a b st = !(st && (tagK a || tagK b))) := by
  unfold sameG
  cases ha : tagB a
  · exact .inl ⟨rfl, by simp⟩
  cases hb : tagB b
  · exact .inr (.inl ⟨rfl, rfl, by simp⟩)
  by_cases h : tagS a = tagS b
  · exact .inr (.inr (.inr ⟨rfl, rfl, h, by simp [h]⟩))
  · exact .inr (.inr (.inl ⟨rfl, rfl, h, by simp [h]⟩))
set_option maxHeartbeats 4000000 in
theorem sameRC (a b : List UInt8) (st : Bool) (w : World) (ha : a.length ≤ 140737488351232) (hb : b.length ≤ 140737488351232) :
    Calls Tryz.prog 51 #[.string ⟨a.toArray⟩, .string ⟨b.toArray⟩, .bool st] w fun e w' => e = .returned (.bool (sameG a b st)) ∧ w' = w := by
  have c1 := hide' (tagRC a w ha)
  have c2 := hide' (tagRC b w hb)
  clear ha hb
  have T := tag_cases a b st
  generalize tagB a = oa at c1 T
  generalize tagB b = ob at c2 T
  generalize tagK a = ka at c1 T
  generalize tagK b = kb at c2 T
  generalize tagS a = ta at c1 T
  generalize tagS b = tb at c2 T
  obtain ⟨r, er⟩ : ∃ r, r = sameG a b st := ⟨_, rfl⟩
  rw [← er] at T ⊢
  clear er
  rcases T with ⟨rfl, rfl⟩ | ⟨rfl, rfl, rfl⟩ | ⟨rfl, rfl, h, rfl⟩ | ⟨rfl, rfl, rfl, rfl⟩
  · go_enter Tryz.func51, Tryz.ntmps51
    go_wp2_with fail
    refine c1.out.mono ?_
    rintro e w1 ⟨rfl, rfl⟩
    go_wp2_with fail
    refine c2.out.mono ?_
    rintro e w1 ⟨rfl, rfl⟩
    go_wp2_with fail
    go_ret
    exact ⟨rfl, rfl⟩
  · go_enter Tryz.func51, Tryz.ntmps51
    go_wp2_with fail
    refine c1.out.mono ?_
    rintro e w1 ⟨rfl, rfl⟩
    go_wp2_with fail
    refine c2.out.mono ?_
    rintro e w1 ⟨rfl, rfl⟩
    go_wp2_with fail
    go_ret
    exact ⟨rfl, rfl⟩
  · have n1 := ba_eqlT h
    have n2 : (ta == tb) = false := by simpa using h
    clear h
    go_enter Tryz.func51, Tryz.ntmps51
    go_wp2_with fail
    refine c1.out.mono ?_
    rintro e w1 ⟨rfl, rfl⟩
    go_wp2_with fail
    refine c2.out.mono ?_
    rintro e w1 ⟨rfl, rfl⟩
    go_wp2_with fail
    go_ret
    exact ⟨rfl, rfl⟩
  · cases st <;> cases ka <;> cases kb
    all_goals
      go_enter Tryz.func51, Tryz.ntmps51
      go_wp2_with fail
      refine c1.out.mono ?_
      rintro e w1 ⟨rfl, rfl⟩
      go_wp2_with fail
      refine c2.out.mono ?_
      rintro e w1 ⟨rfl, rfl⟩
      go_wp2_with fail
      go_ret
      exact ⟨rfl, rfl⟩
end Go.Proofs.YtipcmbonhkelbabGreatDoor
