/- The contracts of tagByte, opaque, Tag and Same. -/
import Derived.Test.YtipcmbonhkelbabGreatDoorBo
import Derived.Test.YtipcmbonhkelbabGreatDoorBk
import Derived.Test.YtipcmbonhkelbabGreatDoorShelfF
import Derived.Test.YtipcmbonhkelbabGreatDoorBm
namespace Go.Proofs.YtipcmbonhkelbabGreatDoor
open Go.RowKit
def etI (c : Int) : Bool := decide (33 ≤ c ∧ c ≠ 34 ∧ c ≠ 127)
theorem tagByteC (c : Int) (h0 : 0 ≤ c) (h1 : c ≤ 255) (w : World) :
    Calls Tryz.prog 80 #[.int .u8 c] w fun e w' => e = .returned (.bool (etI c)) ∧ w' = w := by
  by_cases a : c ≤ 32
  · have H : Hid (etI c = false) := by unfold Hid etI; simp; omega
    go_enter Tryz.func80, Tryz.ntmps80
    go_wp2
    go_ret
    rw [H.out]
    exact ⟨rfl, rfl⟩
  by_cases b : c = 34
  · subst b
    go_enter Tryz.func80, Tryz.ntmps80
    go_wp2
    go_ret
    exact ⟨rfl, rfl⟩
  by_cases d : c = 127
  · subst d
    go_enter Tryz.func80, Tryz.ntmps80
    go_wp2
    go_ret
    exact ⟨rfl, rfl⟩
  · have H : Hid (etI c = true) := by unfold Hid etI; simp; omega
    have a' : 32 < c := by omega
    have b1 : (c != 34) = true := by simp [b]
    have d1 : (c != 127) = true := by simp [d]
    clear a b d
    go_enter Tryz.func80, Tryz.ntmps80
    go_wp2
    go_ret
    rw [H.out]
    exact ⟨rfl, rfl⟩
theorem isO_short (s : ByteArray) (h : s.size < 2) : isO s.data.toList = false := by
  unfold isO
  rw [decide_eq_false (by simp; omega)]
  simp
theorem getLast_at (l : List UInt8) (h : 0 < l.length) : l.getLast? = some (l[l.length - 1]'(by omega)) := by
  rw [List.getLast?_eq_getElem?, List.getElem?_eq_getElem (by omega)]
theorem isO_eq (s : ByteArray) (h : 2 ≤ s.size) : isO s.data.toList = ((decide ((s[0].toNat : Int) = 34) && decide ((s[s.size - 1].toNat : Int) = 34)) && (inner s).all etB) := by
  have e34 : ∀ c : UInt8, ((some c == some (34 : UInt8)) = decide ((c.toNat : Int) = 34)) := by
    intro c
    by_cases h : c = 34
    · subst h; rfl
    · rw [decide_eq_false]
      · simpa using h
      · intro h2
        exact h (UInt8.toNat_inj.1 (by show c.toNat = 34; omega))
  have hl : s.data.toList.length = s.size := by simp
  have h0 : s.data.toList.head? = some s[0] := by
    rw [List.head?_eq_getElem?, List.getElem?_eq_getElem (by omega)]; rfl
  have h1 : s.data.toList.getLast? = some s[s.size - 1] := by
    rw [getLast_at _ (by omega)]
    simp only [hl]
    rfl
  unfold isO
  rw [h0, h1, e34, e34, hl, decide_eq_true h]
  rfl
theorem inner_in (s : ByteArray) (h : 2 ≤ s.size) (k : Nat) (h1 : 1 ≤ k) (hk : k + 1 < s.size) : ∃ hj : k - 1 < (inner s).length, (inner s)[k - 1] = s[k] := by
  have hl := inner_len s h
  refine ⟨by omega, ?_⟩
  rw [inner_at s h (k - 1) (by omega)]
  congr 1
  omega
theorem inner_bad (s : ByteArray) (h : 2 ≤ s.size) (k : Nat) (h1 : 1 ≤ k) (hk : k + 1 < s.size) (hb : etI (s[k].toNat : Int) = false) : isO s.data.toList = false := by
  obtain ⟨hj, e⟩ := inner_in s h k h1 hk
  rw [isO_eq s h]
  have : (inner s).all etB = false := by
    rw [List.all_eq_false]
    exact ⟨_, List.getElem_mem hj, by rw [e]; show ¬ etI (s[k].toNat : Int) = true; rw [hb]; decide⟩
  rw [this, Bool.and_false]
theorem inner_step (s : ByteArray) (h : 2 ≤ s.size) (k : Nat) (h1 : 1 ≤ k) (hk : k + 1 < s.size) (hb : etI (s[k].toNat : Int) = true) (ha : ((inner s).take (k - 1)).all etB = true) : ((inner s).take k).all etB = true := by
  obtain ⟨hj, e⟩ := inner_in s h k h1 hk
  have e2 : k = k - 1 + 1 := by omega
  rw [e2, List.take_succ_eq_append_getElem hj, List.all_append, ha, e]
  simp only [List.all_cons, List.all_nil, Bool.and_true, Bool.true_and]
  exact hb
theorem inner_end (s : ByteArray) (h : 2 ≤ s.size) (k : Nat) (hk : k + 1 = s.size) (ha : ((inner s).take (k - 1)).all etB = true) : (inner s).all etB = true := by
  rwa [List.take_of_length_le (by rw [inner_len s h]; omega)] at ha
set_option maxRecDepth 20000 in
set_option maxHeartbeats 1000000 in
theorem opaqueC (s : ByteArray) (w : World) (hs : s.size ≤ 140737488351232) :
    Calls Tryz.prog 59 #[.string s] w fun e w' => e = .returned (.bool (isO s.data.toList)) ∧ w' = w := by
  by_cases h2 : s.size < 2
  · have H := hide' (isO_short s h2)
    go_enter Tryz.func59, Tryz.ntmps59
    go_wp2
    go_ret
    rw [H.out]
    exact ⟨rfl, rfl⟩
  have h3 : 2 ≤ s.size := by omega
  have E := hide' (isO_eq s h3)
  clear h2
  by_cases c0 : (s[0].toNat : Int) = 34
  · by_cases c1 : (s[s.size - 1].toNat : Int) = 34
    · have E2 := hide' (show isO s.data.toList = (inner s).all etB from by rw [E.out]; simp [c0, c1])
      have b0 : ((s[0].toNat : Int) != 34) = false := by simp [c0]
      have b1 : ((s[s.size - 1].toNat : Int) != 34) = false := by simp [c1]
      have BAD := hide' (inner_bad s h3)
      have STEP := hide' (inner_step s h3)
      have FIN := hide' (inner_end s h3)
      clear c0 c1 E
      go_enter Tryz.func59, Tryz.ntmps59
      go_wp2
      clear b0 b1
      go_loop [4] (fun i => ∃ k : Nat, 1 ≤ k ∧ k + 1 ≤ s.size ∧ i = .int .i64 k ∧ Hid (((inner s).take (k - 1)).all etB = true)) (fun i => s.size - (intOf i).toNat)
      case atStart => exact ⟨1, by omega, by omega, rfl, by unfold Hid; simp⟩
      case round =>
        obtain ⟨k, k1, k2, rfl, ha⟩ := hrel
        by_cases hlt : k + 1 < s.size
        · have hb := byte_lt s[k]
          cases ht : etI (s[k].toNat : Int) with
          | true =>
            have A := hide' (STEP.out k k1 hlt ht ha.out)
            clear BAD STEP FIN ha
            go_wp2_with (go_at_call 80; refine (tagByteC _ (by omega) (by omega) _).mono ?_; rintro e w' ⟨rfl, rfl⟩)
            go_round
            case rel => exact ⟨k + 1, by omega, by omega, by go_num, A⟩
            case measure => simp [intOf]; omega
          | false =>
            have F := hide' (BAD.out k k1 hlt ht)
            clear BAD STEP FIN ha
            go_wp2_with (go_at_call 80; refine (tagByteC _ (by omega) (by omega) _).mono ?_; rintro e w' ⟨rfl, rfl⟩)
            go_ret
            rw [F.out]
            exact ⟨rfl, rfl⟩
        · have F := hide' (FIN.out k (by omega) ha.out)
          clear BAD STEP FIN ha
          go_wp2
          go_ret
          rw [E2.out, F.out]
          exact ⟨rfl, rfl⟩
    · have E2 := hide' (show isO s.data.toList = false from by rw [E.out]; simp [c1])
      have b0 : ((s[0].toNat : Int) != 34) = false := by simp [c0]
      have b1 : ((s[s.size - 1].toNat : Int) != 34) = true := by simp [c1]
      clear c0 c1 E
      go_enter Tryz.func59, Tryz.ntmps59
      go_wp2
      go_ret
      rw [E2.out]
      exact ⟨rfl, rfl⟩
  · have E2 := hide' (show isO s.data.toList = false from by rw [E.out]; simp [c0])
    have b0 : ((s[0].toNat : Int) != 34) = true := by simp [c0]
    clear c0 E
    go_enter Tryz.func59, Tryz.ntmps59
    go_wp2
    go_ret
    rw [E2.out]
    exact ⟨rfl, rfl⟩
theorem isW_pre (l : List UInt8) : ([87, 47] : List UInt8).isPrefixOf l = isW l := by
  unfold isW
  match l with
  | [] => rfl
  | [a] => simp [List.isPrefixOf]
  | a :: b :: r =>
    rw [Bool.eq_iff_iff]
    simp only [List.isPrefixOf, Bool.and_eq_true, beq_iff_eq, List.take_succ_cons, List.take_zero, List.cons.injEq, and_true, decide_eq_true_eq, Bool.and_true]
    constructor
    · rintro ⟨h1, h2⟩; exact ⟨h1.symm, h2.symm⟩
    · rintro ⟨h1, h2⟩; exact ⟨h1.symm, h2.symm⟩
theorem cutC (s : ByteArray) (w : World) :
    Calls Tryz.prog 58 #[.string s, .string ⟨#[87, 47]⟩] w fun e w' => e = .returned (.tuple #[.string ⟨(restW s.data.toList).toArray⟩, .bool (isW s.data.toList)]) ∧ w' = w := by
  have c := Any.strings_CutPrefix Tryz.lays103 s ⟨#[87, 47]⟩ w
  unfold Lib.trimPrefix Lib.hasPrefix at c
  rw [show (⟨#[87, 47]⟩ : ByteArray).data.toList = [87, 47] from rfl, isW_pre] at c
  exact c
theorem rest_len (l : List UInt8) : (restW l).length ≤ l.length := by
  unfold restW; split
  · rw [List.length_drop]; omega
  · omega
theorem ba_eqlT {a b : List UInt8} (h : ¬ a = b) : ((⟨a.toArray⟩ : ByteArray).toList == (⟨b.toArray⟩ : ByteArray).toList) = false := by
  rw [Lib.toList_data, Lib.toList_data]; simpa using h
theorem same_ne (a b : List UInt8) (st : Bool) (h : ¬ restW a = restW b) : sameG a b st = false := by
  unfold sameG tagS
  cases ha : tagB a
  · simp
  · cases hb : tagB b
    · simp
    · simp [h]
theorem same_eq (a b : List UInt8) (st : Bool) (h : restW a = restW b) : sameG a b st = (isO (restW a) && !(st && (isW a || isW b))) := by
  have e : tagB a = isO (restW a) := rfl
  have e2 : tagB b = isO (restW a) := by unfold tagB; rw [h]
  unfold sameG tagS tagK
  rw [e, e2]
  cases isO (restW a)
  · simp
  · simp [h]
set_option maxHeartbeats 2000000 in
theorem sameC (a b : List UInt8) (st : Bool) (w : World) (ha : a.length ≤ 140737488351232) :
    Calls Tryz.prog 36 #[.string ⟨a.toArray⟩, .string ⟨b.toArray⟩, .bool st] w fun e w' => e = .returned (.bool (sameG a b st)) ∧ w' = w := by
  have c1 := hide' (cutC ⟨a.toArray⟩ w)
  have c2 := hide' (cutC ⟨b.toArray⟩ w)
  have hr := rest_len a
  have c3 := hide' (fun W => opaqueC ⟨(restW a).toArray⟩ W (by rw [size_l]; omega))
  simp only at c1 c2 c3
  by_cases h : restW a = restW b
  · have E := hide' (same_eq a b st h)
    rw [E.out]
    rw [← h] at c2
    clear h E hr ha
    generalize restW a = r at c1 c2 c3 ⊢
    generalize isW a = wa at c1 ⊢
    generalize isW b = wb at c2 ⊢
    cases ho : isO r with
    | false =>
      rw [ho] at c3
      clear ho
      go_enter Tryz.func36, Tryz.ntmps36
      go_wp2_with fail
      refine c1.out.mono ?_
      rintro e w1 ⟨rfl, rfl⟩
      go_wp2_with fail
      refine c2.out.mono ?_
      rintro e w1 ⟨rfl, rfl⟩
      go_wp2_with fail
      refine (c3.out _).mono ?_
      rintro e w1 ⟨rfl, rfl⟩
      go_wp2_with fail
      go_ret
      exact ⟨rfl, rfl⟩
    | true =>
      rw [ho] at c3
      clear ho
      cases st <;> cases wa <;> cases wb
      all_goals
        go_enter Tryz.func36, Tryz.ntmps36
        go_wp2_with fail
        refine c1.out.mono ?_
        rintro e w1 ⟨rfl, rfl⟩
        go_wp2_with fail
        refine c2.out.mono ?_
        rintro e w1 ⟨rfl, rfl⟩
        go_wp2_with fail
        refine (c3.out _).mono ?_
        rintro e w1 ⟨rfl, rfl⟩
        go_wp2_with fail
        go_ret
        exact ⟨rfl, rfl⟩
  · have E := hide' (same_ne a b st h)
    rw [E.out]
    have n1 := ba_eqlT h
    have n2 : (restW a == restW b) = false := by simpa using h
    clear h E c3 hr
    generalize restW a = r at c1 n1 n2
    generalize restW b = q at c2 n1 n2
    generalize isW a = wa at c1
    generalize isW b = wb at c2
    go_enter Tryz.func36, Tryz.ntmps36
    go_wp2_with fail
    refine c1.out.mono ?_
    rintro e w1 ⟨rfl, rfl⟩
    go_wp2_with fail
    refine c2.out.mono ?_
    rintro e w1 ⟨rfl, rfl⟩
    go_wp2_with fail
    go_ret
    exact ⟨rfl, rfl⟩
end Go.Proofs.YtipcmbonhkelbabGreatDoor
