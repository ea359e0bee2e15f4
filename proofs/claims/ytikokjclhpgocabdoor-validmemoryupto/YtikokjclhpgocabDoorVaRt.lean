/- The contracts of the document's Tag and Same. -/
import Derived.Test.YtikokjclhpgocabDoorVaT
import Derived.Deep.Cut
namespace Go.Proofs.YtikokjclhpgocabDoor
open Go.RowKit
/-- what the document's Tag answers: of what is left behind the mark -/
def ansT (o wk : Bool) (r : ByteArray) : Value := if o = true then .tuple #[.string r, .bool wk, .bool true] else .tuple #[.string ⟨#[]⟩, .bool false, .bool false]
theorem ansT_eq (l : List UInt8) : ansT (isO (restW l)) (isW l) ⟨(restW l).toArray⟩ = .tuple #[.string ⟨(tagS l).toArray⟩, .bool (tagK l), .bool (tagB l)] := by
  unfold ansT tagS tagK tagB
  cases isO (restW l) <;> simp
set_option maxRecDepth 20000 in
set_option maxHeartbeats 4000000 in
theorem tagRA (s : ByteArray) (w : World) (hs : s.size ≤ 140737488351232) :
    Calls Tryd.prog 20 #[.string s] w fun e w' => e = .returned (ansT (isO (restW s.data.toList)) (isW s.data.toList) ⟨(restW s.data.toList).toArray⟩) ∧ w' = w := by
  have hl : s.data.toList.length = s.size := by simp
  by_cases hw : isW s.data.toList = true
  · have hz : 2 ≤ s.size := by
      unfold isW at hw
      rw [decide_eq_true_eq] at hw
      have := congrArg List.length hw
      rw [List.length_take] at this
      simp only [List.length_cons, List.length_nil] at this
      omega
    have hx : ((s.extract 0 2).toList == [87, 47]) = true := by
      rw [Lib.toList_data, ByteArray.data_extract, Array.toList_extract, List.extract_eq_take_drop]
      unfold isW at hw
      simpa using hw
    obtain ⟨t, et⟩ : ∃ t, t = s.extract 2 s.size := ⟨_, rfl⟩
    have TS : Hid (s.extract 2 s.size = t) := et.symm
    have tl : t.data.toList = s.data.toList.drop 2 := by
      rw [et, ByteArray.data_extract, Array.toList_extract, List.extract_eq_take_drop, List.take_of_length_le (by rw [List.length_drop]; omega)]
    have re : restW s.data.toList = t.data.toList := by unfold restW; rw [if_pos hw, tl]
    have tz : t.size ≤ 140737488351232 := by
      have h1 := congrArg List.length tl
      rw [List.length_drop] at h1
      simp at h1
      omega
    rw [re, hw]
    have TO := hide' (show ∀ o, ansT o true ⟨t.data.toList.toArray⟩ = if o = true then .tuple #[.string t, .bool true, .bool true] else .tuple #[.string ⟨#[]⟩, .bool false, .bool false] from fun o => by rw [ba_eta]; rfl)
    clear et tl re hw hl hs
    go_enter Tryd.func20, Tryd.ntmps20
    go_upto_region 4 with fail
    rw [TS.out]
    clear TS hx hz
    by_cases h2 : t.size < 2
    · have F := hide' (isO_short t h2)
      go_wp2
      go_ret3
      exact ⟨by rw [TO.out, F.out]; rfl, rfl⟩
    have h3 : 2 ≤ t.size := by omega
    clear h2
    have E := hide' (isO_eq t h3)
    by_cases c0 : (t[0].toNat : Int) = 34
    · by_cases c1 : (t[t.size - 1].toNat : Int) = 34
      · have E2 := hide' (show isO t.data.toList = (inner t).all etB from by rw [E.out]; simp [c0, c1])
        have b0 : ((t[0].toNat : Int) != 34) = false := by simp [c0]
        have b1 : ((t[t.size - 1].toNat : Int) != 34) = false := by simp [c1]
        have BAD := hide' (inner_bad t h3)
        have STEP := hide' (inner_step t h3)
        have FIN := hide' (inner_end t h3)
        clear c0 c1 E
        go_wp2
        clear b0 b1
        go_loop [6] (fun i => ∃ k : Nat, 1 ≤ k ∧ k + 1 ≤ t.size ∧ i = .int .i64 k ∧ Hid (((inner t).take (k - 1)).all etB = true)) (fun i => t.size - (intOf i).toNat)
        case atStart => exact ⟨1, by omega, by omega, rfl, by unfold Hid; simp⟩
        case round =>
          obtain ⟨k, k1, k2, rfl, ha⟩ := hrel
          by_cases hlt : k + 1 < t.size
          · have hb := byte_lt t[k]
            cases ht : etI (t[k].toNat : Int) with
            | true =>
              have A := hide' (STEP.out k k1 hlt ht ha.out)
              unfold etI at ht
              rw [decide_eq_true_eq] at ht
              obtain ⟨g1, g2, g3⟩ := ht
              have q1 : ¬ (t[k].toNat : Int) < 33 := by omega
              have q2 : ((t[k].toNat : Int) == 34) = false := by simpa using g2
              have q3 : ((t[k].toNat : Int) == 127) = false := by simpa using g3
              clear BAD STEP FIN ha g1 g2 g3
              go_wp2
              go_round
              case rel => exact ⟨k + 1, by omega, by omega, by go_num, A⟩
              case measure => simp [intOf]; omega
            | false =>
              have F := hide' (BAD.out k k1 hlt ht)
              unfold etI at ht
              rw [decide_eq_false_iff_not] at ht
              clear BAD STEP FIN ha
              by_cases q1 : (t[k].toNat : Int) < 33
              · clear ht
                go_wp2
                go_ret3
                exact ⟨by rw [TO.out, F.out]; rfl, rfl⟩
              by_cases g2 : (t[k].toNat : Int) = 34
              · have q2 : ((t[k].toNat : Int) == 34) = true := by simpa using g2
                clear ht g2
                go_wp2
                go_ret3
                exact ⟨by rw [TO.out, F.out]; rfl, rfl⟩
              · have q2 : ((t[k].toNat : Int) == 34) = false := by simpa using g2
                have q3 : ((t[k].toNat : Int) == 127) = true := by
                  have : (t[k].toNat : Int) = 127 := by
                    rcases Classical.em ((t[k].toNat : Int) = 127) with h | h
                    · exact h
                    · exact absurd ⟨by omega, g2, h⟩ ht
                  simpa using this
                clear ht g2
                go_wp2
                go_ret3
                exact ⟨by rw [TO.out, F.out]; rfl, rfl⟩
          · have F := hide' (show isO t.data.toList = true from by rw [E2.out]; exact FIN.out k (by omega) ha.out)
            clear BAD STEP FIN ha
            go_wp2
            go_ret3
            exact ⟨by rw [TO.out, F.out]; rfl, rfl⟩
      · have F := hide' (show isO t.data.toList = false from by rw [E.out]; simp [c1])
        have b0 : ((t[0].toNat : Int) != 34) = false := by simp [c0]
        have b1 : ((t[t.size - 1].toNat : Int) != 34) = true := by simp [c1]
        clear c0 c1 E
        go_wp2
        go_ret3
        exact ⟨by rw [TO.out, F.out]; rfl, rfl⟩
    · have F := hide' (show isO t.data.toList = false from by rw [E.out]; simp [c0])
      have b0 : ((t[0].toNat : Int) != 34) = true := by simp [c0]
      clear c0 E
      go_wp2
      go_ret3
      exact ⟨by rw [TO.out, F.out]; rfl, rfl⟩
  · have TT := hide' (ba_eta s)
    have hw2 : isW s.data.toList = false := by simpa using hw
    have re : restW s.data.toList = s.data.toList := by unfold restW; rw [if_neg hw]
    rw [re, hw2]
    have TO := hide' (show ∀ o, ansT o false ⟨s.data.toList.toArray⟩ = if o = true then .tuple #[.string s, .bool false, .bool true] else .tuple #[.string ⟨#[]⟩, .bool false, .bool false] from fun o => by rw [ba_eta]; rfl)
    by_cases hz : s.size < 2
    · have F := hide' (isO_short s hz)
      clear re hw hw2 hl
      go_enter Tryd.func20, Tryd.ntmps20
      go_wp2
      go_ret3
      exact ⟨by rw [TO.out, F.out]; rfl, rfl⟩
    have hz2 : 2 ≤ s.size := by omega
    have hx : ((s.extract 0 2).toList == [87, 47]) = false := by
      rw [Lib.toList_data, ByteArray.data_extract, Array.toList_extract, List.extract_eq_take_drop]
      unfold isW at hw2
      simpa using hw2
    clear re hw hw2 hl hz
    obtain ⟨t, et⟩ : ∃ t, t = s := ⟨_, rfl⟩
    subst et
    go_enter Tryd.func20, Tryd.ntmps20
    go_upto_region 4 with fail
    clear hx
    have h3 : 2 ≤ t.size := hz2
    clear hz2
    have E := hide' (isO_eq t h3)
    by_cases c0 : (t[0].toNat : Int) = 34
    · by_cases c1 : (t[t.size - 1].toNat : Int) = 34
      · have E2 := hide' (show isO t.data.toList = (inner t).all etB from by rw [E.out]; simp [c0, c1])
        have b0 : ((t[0].toNat : Int) != 34) = false := by simp [c0]
        have b1 : ((t[t.size - 1].toNat : Int) != 34) = false := by simp [c1]
        have BAD := hide' (inner_bad t h3)
        have STEP := hide' (inner_step t h3)
        have FIN := hide' (inner_end t h3)
        clear c0 c1 E
        go_wp2
        clear b0 b1
        go_loop [6] (fun i => ∃ k : Nat, 1 ≤ k ∧ k + 1 ≤ t.size ∧ i = .int .i64 k ∧ Hid (((inner t).take (k - 1)).all etB = true)) (fun i => t.size - (intOf i).toNat)
        case atStart => exact ⟨1, by omega, by omega, rfl, by unfold Hid; simp⟩
        case round =>
          obtain ⟨k, k1, k2, rfl, ha⟩ := hrel
          by_cases hlt : k + 1 < t.size
          · have hb := byte_lt t[k]
            cases ht : etI (t[k].toNat : Int) with
            | true =>
              have A := hide' (STEP.out k k1 hlt ht ha.out)
              unfold etI at ht
              rw [decide_eq_true_eq] at ht
              obtain ⟨g1, g2, g3⟩ := ht
              have q1 : ¬ (t[k].toNat : Int) < 33 := by omega
              have q2 : ((t[k].toNat : Int) == 34) = false := by simpa using g2
              have q3 : ((t[k].toNat : Int) == 127) = false := by simpa using g3
              clear BAD STEP FIN ha g1 g2 g3
              go_wp2
              go_round
              case rel => exact ⟨k + 1, by omega, by omega, by go_num, A⟩
              case measure => simp [intOf]; omega
            | false =>
              have F := hide' (BAD.out k k1 hlt ht)
              unfold etI at ht
              rw [decide_eq_false_iff_not] at ht
              clear BAD STEP FIN ha
              by_cases q1 : (t[k].toNat : Int) < 33
              · clear ht
                go_wp2
                go_ret3
                exact ⟨by rw [TO.out, F.out]; rfl, rfl⟩
              by_cases g2 : (t[k].toNat : Int) = 34
              · have q2 : ((t[k].toNat : Int) == 34) = true := by simpa using g2
                clear ht g2
                go_wp2
                go_ret3
                exact ⟨by rw [TO.out, F.out]; rfl, rfl⟩
              · have q2 : ((t[k].toNat : Int) == 34) = false := by simpa using g2
                have q3 : ((t[k].toNat : Int) == 127) = true := by
                  have : (t[k].toNat : Int) = 127 := by
                    rcases Classical.em ((t[k].toNat : Int) = 127) with h | h
                    · exact h
                    · exact absurd ⟨by omega, g2, h⟩ ht
                  simpa using this
                clear ht g2
                go_wp2
                go_ret3
                exact ⟨by rw [TO.out, F.out]; rfl, rfl⟩
          · have F := hide' (show isO t.data.toList = true from by rw [E2.out]; exact FIN.out k (by omega) ha.out)
            clear BAD STEP FIN ha
            go_wp2
            go_ret3
            exact ⟨by rw [TO.out, F.out]; rfl, rfl⟩
      · have F := hide' (show isO t.data.toList = false from by rw [E.out]; simp [c1])
        have b0 : ((t[0].toNat : Int) != 34) = false := by simp [c0]
        have b1 : ((t[t.size - 1].toNat : Int) != 34) = true := by simp [c1]
        clear c0 c1 E
        go_wp2
        go_ret3
        exact ⟨by rw [TO.out, F.out]; rfl, rfl⟩
    · have F := hide' (show isO t.data.toList = false from by rw [E.out]; simp [c0])
      have b0 : ((t[0].toNat : Int) != 34) = true := by simp [c0]
      clear c0 E
      go_wp2
      go_ret3
      exact ⟨by rw [TO.out, F.out]; rfl, rfl⟩
theorem tagRC (l : List UInt8) (w : World) (hs : l.length ≤ 140737488351232) :
    Calls Tryd.prog 20 #[.string ⟨l.toArray⟩] w fun e w' => e = .returned (.tuple #[.string ⟨(tagS l).toArray⟩, .bool (tagK l), .bool (tagB l)]) ∧ w' = w := by
  have c := tagRA ⟨l.toArray⟩ w (by rw [size_l]; exact hs)
  rw [show (⟨l.toArray⟩ : ByteArray).data.toList = l from rfl, ansT_eq] at c
  exact c
theorem tag_cases (a b : List UInt8) (st : Bool) : (tagB a = false ∧ sameG a b st = false) ∨ (tagB a = true ∧ tagB b = false ∧ sameG a b st = false) ∨ (tagB a = true ∧ tagB b = true ∧ ¬ tagS a = tagS b ∧ sameG a b st = false) ∨ (tagB a = true ∧ tagB b = true ∧ tagS a = tagS b ∧ sameG a b st = !(st && (tagK a || tagK b))) := by
  unfold sameG
  cases ha : tagB a
  · exact .inl ⟨rfl, by simp⟩
  cases hb : tagB b
  · exact .inr (.inl ⟨rfl, rfl, by simp⟩)
  by_cases h : tagS a = tagS b
  · exact .inr (.inr (.inr ⟨rfl, rfl, h, by simp [h]⟩))
  · exact .inr (.inr (.inl ⟨rfl, rfl, h, by simp [h]⟩))
end Go.Proofs.YtikokjclhpgocabDoor
