/- A block of two cells (a span). The contracts of digit and number (ranges). The contract of spanOf (ranges): the span that an element tells. A set of numbers as a map of the call's own: what it holds, how it is read and put into. The contract of take (ranges): the numbers that digits begin with are put into a set. The contract of takenNumbers (ranges): the numbers of the boundaries that stand in a body. -/
import Derived.Test.YtipcmbonhkelbabGreatDoorBm
import Derived.Test.YtipcmbonhkelbabGreatDoorXa
import Derived.Test.YtipcmbonhkelbabGreatDoorXe
import Derived.Test.YtipcmbonhkelbabGreatDoorOwnB
import Derived.Maps.Ext
import Derived.Maps.OwnSet
import Derived.Test.YtipcmbonhkelbabGreatDoorXb
import Derived.Deep.DeepCutAuto
import Derived.Test.YtipcmbonhkelbabGreatDoorShelfF
import Derived.Lib.SlBytesConst
namespace Go.Proofs.YtipcmbonhkelbabGreatDoor
open Go.RowKit
def DuoR (b : Nat) (W : World) (v0 v1 : Value) : Prop := W.cell? ⟨b, 0, none⟩ = some v0 ∧ W.cell? ⟨b, 1, none⟩ = some v1 ∧ W.frozen? ⟨b, 0, none⟩ = false ∧ W.frozen? ⟨b, 1, none⟩ = false ∧ b < W.heap.size
theorem duoR_below {b : Nat} {W W' : World} {v0 v1 : Value} (h : DuoR b W v0 v1) (hb : Below W.heap.size W W') : DuoR b W' v0 v1 := by
  obtain ⟨h0, h1, f0, f1, hz⟩ := h
  have c : ∀ o, W'.cell? ⟨b, o, none⟩ = W.cell? ⟨b, o, none⟩ := fun o => hb.cell (p := ⟨b, o, none⟩) hz
  have f : ∀ o, W'.frozen? ⟨b, o, none⟩ = W.frozen? ⟨b, o, none⟩ := fun o => hb.frozen (p := ⟨b, o, none⟩) hz
  exact ⟨by rw [c]; exact h0, by rw [c]; exact h1, by rw [f]; exact f0, by rw [f]; exact f1, Nat.lt_of_lt_of_le hz hb.size⟩
def put2R (b : Nat) (W : World) (v0 v1 : Value) : World := (W.setCell ⟨b, 0, none⟩ v0).setCell ⟨b, 1, none⟩ v1
theorem duoR_store {b : Nat} {W : World} {u0 u1 : Value} (h : DuoR b W u0 u1) (v0 v1 : Value) : DuoR b (put2R b W v0 v1) v0 v1 := by
  obtain ⟨h0, h1, f0, f1, hz⟩ := h
  unfold put2R
  refine ⟨?_, ?_, by rw [frozen_set4, frozen_set4]; exact f0, by rw [frozen_set4, frozen_set4]; exact f1, by simpa using hz⟩
  · rw [oth4 (by decide)]
    exact World.cell?_setCell_same _ _ _ h0
  · exact World.cell?_setCell_same (u := u1) _ _ _ (by rw [oth4 (by decide)]; exact h1)
theorem put2R_below {w W : World} {b : Nat} (h : Below w.heap.size w W) (hb : w.heap.size ≤ b) (v0 v1 : Value) : Below w.heap.size w (put2R b W v0 v1) := (h.setCell hb _).setCell hb _
theorem duoR_lit (w : World) (v0 v1 : Value) (t : TypeId) : DuoR w.heap.size (w.alloc (.cells #[v0, v1] t)) v0 v1 := ⟨by simp, by simp, by simp, by simp, by simp⟩
end Go.Proofs.YtipcmbonhkelbabGreatDoor
namespace Go.Proofs.YtipcmbonhkelbabGreatDoor
open Go.RowKit
def dgI (c : Int) : Bool := decide (48 ≤ c ∧ c ≤ 57)
theorem dgI_of (c : UInt8) : dgI (c.toNat : Int) = digF c := by
  unfold dgI digF
  by_cases h : 48 ≤ c.toNat ∧ c.toNat ≤ 57
  · rw [decide_eq_true h, decide_eq_true (by omega)]
  · rw [decide_eq_false h, decide_eq_false (by omega)]
theorem digitG (c : Int) (h0 : 0 ≤ c) (h1 : c ≤ 255) (w : World) :
    Calls Tryz.prog 76 #[.int .u8 c] w fun e w' => e = .returned (.bool (dgI c)) ∧ w' = w := by
  by_cases a : 48 ≤ c
  · by_cases b : c ≤ 57
    · have H : Hid (dgI c = true) := by unfold Hid dgI; exact decide_eq_true ⟨a, b⟩
      have t1 : decide ((48 : Int) ≤ c) = true := decide_eq_true a
      have t2 : decide (c ≤ (57 : Int)) = true := decide_eq_true b
      go_enter Tryz.func76, Tryz.ntmps76
      go_wp2
      go_ret
      rw [H.out]
      exact ⟨rfl, rfl⟩
    · have H : Hid (dgI c = false) := by unfold Hid dgI; exact decide_eq_false (by omega)
      have t1 : decide ((48 : Int) ≤ c) = true := decide_eq_true a
      have t2 : decide (c ≤ (57 : Int)) = false := decide_eq_false b
      go_enter Tryz.func76, Tryz.ntmps76
      go_wp2
      go_ret
      rw [H.out]
      exact ⟨rfl, rfl⟩
  · have H : Hid (dgI c = false) := by unfold Hid dgI; exact decide_eq_false (by omega)
    have t1 : decide ((48 : Int) ≤ c) = false := decide_eq_false a
    go_enter Tryz.func76, Tryz.ntmps76
    go_wp2
    go_ret
    rw [H.out]
    exact ⟨rfl, rfl⟩
set_option maxRecDepth 20000 in
set_option maxHeartbeats 2000000 in
theorem numG (l : List UInt8) (w : World) (hl : l.length ≤ 140737488351232) :
    Calls Tryz.prog 54 #[.string ⟨l.toArray⟩] w fun e w' => e = .returned (.tuple #[.int .i64 (numQ l), .bool (decide (0 ≤ numR l))]) ∧ w' = w := by
  have hz : (⟨l.toArray⟩ : ByteArray).size = l.length := size_l l
  have hd : (⟨l.toArray⟩ : ByteArray).data.toList = l := by simp
  have EV : ∀ n : Int, numR l = n → 0 ≤ n → numQ l = n ∧ decide (0 ≤ numR l) = true := fun n h h0 => ⟨by rw [numQ_ok (by omega)]; exact h, decide_eq_true (by omega)⟩
  have EB : numR l = -1 → numQ l = 0 ∧ decide (0 ≤ numR l) = false := fun h => ⟨by unfold numQ; rw [if_neg (by omega)], decide_eq_false (by omega)⟩
  have XS := hide' (fun h => EB (numR_short (l := l) h))
  have XL := hide' (fun h => EB (numR_long (l := l) h))
  have XG := hide' (fun h1 h2 h3 => EV _ (numR_good (l := l) h1 h2 h3) (Int.natCast_nonneg _))
  have XB := hide' (fun k hk hh => EB (numR_bad (l := l) (k := k) hk hh))
  generalize numQ l = q at XS XL XG XB ⊢
  generalize decide (0 ≤ numR l) = g at XS XL XG XB ⊢
  clear EV EB
  obtain ⟨s, es⟩ : ∃ s, s = (⟨l.toArray⟩ : ByteArray) := ⟨_, rfl⟩
  rw [← es] at hz hd ⊢
  have HD := hide' hd
  clear es hd
  by_cases h1 : l.length < 1
  · have R := hide' (XS.out h1)
    have e0 : s = ⟨#[]⟩ := by
      have : s.data.size = 0 := by show s.size = 0; omega
      cases s with | mk d => simp at this; rw [this]
    subst e0
    clear XS XL XG XB HD hz h1
    go_enter Tryz.func54, Tryz.ntmps54
    go_wp2_with fail
    go_ret2
    exact ⟨by rw [R.out.1, R.out.2]; rfl, rfl⟩
  · have t0 : s.toList.isEmpty = false := by
      rw [Lib.toList_data, HD.out]
      cases hl0 : l with
      | nil => rw [hl0] at h1; simp at h1
      | cons c r => rfl
    by_cases h2 : 18 < l.length
    · have R := hide' (XL.out h2)
      have t2 : 18 < s.size := by omega
      have HZ := hide' hz
      clear XS XL XG XB hz h1 h2
      go_enter Tryz.func54, Tryz.ntmps54
      go_wp2_with fail
      go_ret2
      exact ⟨by rw [R.out.1, R.out.2]; rfl, rfl⟩
    · have t2 : s.size ≤ 18 := by omega
      replace XG := hide' (XG.out (by omega) (by omega))
      rw [← HD.out] at XG XB
      have HZ := hide' hz
      clear hz h1 h2 HD hl XS XL
      go_enter Tryz.func54, Tryz.ntmps54
      go_wp2_with fail
      go_loop [4, 15] (fun av i => ∃ (k : Nat) (a : Int), k ≤ s.size ∧ av = .int .i64 a ∧ i = .int .i64 k ∧ Hid (NumTo s k a)) (fun _ i => s.size - (intOf i).toNat)
      case atStart => exact ⟨0, 0, Nat.zero_le _, rfl, rfl, rfl, rfl, by decide, by decide⟩
      case round =>
        obtain ⟨k, a, hk, rfl, rfl, P⟩ := hrel
        by_cases hlt : k < s.size
        · have hb := byte_lt s[k]
          have p18 := pow17 (show k ≤ 17 by omega)
          obtain ⟨a0, a1⟩ := P.out.2.2
          have a2 : a < 100000000000000000 := by omega
          have XK := hide' (numTo_next P.out hlt)
          have XD := hide' (XB.out k (by simpa using hlt))
          have ek : s.data.toList[k]'(by simpa using hlt) = s[k] := rfl
          rw [ek, ← dgI_of] at XD
          have DG := hide' (dgI_of s[k])
          clear p18 a1 ek
          cases hg : dgI (s[k].toNat : Int) with
          | false =>
            have R := hide' (XD.out hg)
            clear XK XD P DG
            go_wp2_with (go_at_call 76; refine (digitG _ (by omega) (by omega) _).mono ?_; rintro e w' ⟨rfl, rfl⟩)
            go_ret2
            exact ⟨by rw [R.out.1, R.out.2]; rfl, rfl⟩
          | true =>
            have d1 : 48 ≤ (s[k].toNat : Int) ∧ (s[k].toNat : Int) ≤ 57 := by unfold dgI at hg; exact of_decide_eq_true hg
            have R := hide' (XK.out (by omega) (by omega))
            clear XK XD P DG
            go_wp2_with (go_at_call 76; refine (digitG _ (by omega) (by omega) _).mono ?_; rintro e w' ⟨rfl, rfl⟩)
            go_round
            case rel => exact ⟨k + 1, a * 10 + (s[k].toNat : Int) - 48, by omega, by first | rfl | go_num | (congr 1; unfold wrap64; omega), by go_num, R⟩
            case measure => simp [intOf]; omega
        · have ek : s.data.toList.take k = s.data.toList := take_all s k (by omega)
          have PA := P.out.1
          have PB := P.out.2.1
          rw [ek] at PA PB
          have R := hide' (XG.out PA)
          rw [← PB] at R
          clear ek PA PB
          go_wp2_with fail
          go_ret2
          exact ⟨by rw [R.out.1, R.out.2]; rfl, rfl⟩
end Go.Proofs.YtipcmbonhkelbabGreatDoor
namespace Go.Proofs.YtipcmbonhkelbabGreatDoor
open Go.RowKit
theorem cutDash (s : ByteArray) (hs : s.size < 4294967281) (w : World) (M : MaxVD w) :
    Calls Tryz.prog 53 #[.string s, .string ⟨#[45]⟩] w fun e w' => e = .returned (.tuple #[.string ⟨(rngA s.data.toList).toArray⟩, .string ⟨(rngB s.data.toList).toArray⟩, .bool (decide (dashK s.data.toList < s.data.toList.length))]) ∧ Below w.heap.size w w' := by
  obtain ⟨m, hm⟩ := M
  refine (Any.strings_Cut Tryz.lays145 s ⟨#[45]⟩ m w hs hm).mono ?_
  rintro e w' ⟨rfl, n, rfl⟩
  refine ⟨?_, below_drewN w n⟩
  rw [show (⟨#[45]⟩ : ByteArray).data.toList = [45] from rfl, cut_dash]
theorem emp_l (l : List UInt8) : (⟨l.toArray⟩ : ByteArray).toList.isEmpty = l.isEmpty := by rw [Lib.toList_data]
set_option maxRecDepth 20000 in
set_option maxHeartbeats 2000000 in
theorem spanG (s : ByteArray) (z : Int) (w : World) (hs : s.size ≤ 4194304) (z0 : 0 ≤ z) (z1 : z ≤ 9223372036854775807) (M : MaxVD w) :
    Calls Tryz.prog 33 #[.string s, .int .i64 z] w fun e w' => ∃ a b : Int, e = .returned (.tuple #[.agg #[.int .i64 a, .int .i64 b], .bool (!rngBad s.data.toList)]) ∧ Spn z s.data.toList (a, b) ∧ -9223372036854775808 ≤ a ∧ a ≤ 9223372036854775807 ∧ -9223372036854775808 ≤ b ∧ b ≤ 9223372036854775807 ∧ Below w.heap.size w w' := by
  have b0 := below_alloc' w (.cells #[.int .i64 0, .int .i64 0] 44)
  have D0 := duoR_lit w (.int .i64 0) (.int .i64 0) 44
  have cC := hide' (cutDash s (by omega) (w.alloc (.cells #[.int .i64 0, .int .i64 0] 44)) (M.below b0))
  have DD := hide' D0
  have BB := hide' b0
  clear D0 b0
  have hl : s.data.toList.length = s.size := by simp
  generalize s.data.toList = l at cC hl ⊢
  have na : (rngA l).length ≤ 4194304 := by unfold rngA; rw [List.length_take]; omega
  have nb : (rngB l).length ≤ 4194304 := by unfold rngB; rw [List.length_drop]; omega
  have cA := hide' (fun W => numG (rngA l) W (by omega))
  have cB := hide' (fun W => numG (rngB l) W (by omega))
  have eA := emp_l (rngA l)
  have eB := emp_l (rngB l)
  obtain ⟨va0, va1⟩ := numQ_in (rngA l)
  obtain ⟨vb0, vb1⟩ := numQ_in (rngB l)
  have zA : rngA l = [] → (rngA l).isEmpty = true := fun h => by rw [h]; rfl
  have yA : ¬ rngA l = [] → (rngA l).isEmpty = false := fun h => by cases hc : rngA l with | nil => exact absurd hc h | cons c r => rfl
  have zB : rngB l = [] → (rngB l).isEmpty = true := fun h => by rw [h]; rfl
  have yB : ¬ rngB l = [] → (rngB l).isEmpty = false := fun h => by cases hc : rngB l with | nil => exact absurd hc h | cons c r => rfl
  have N0 := hide' (fun h => bad_nodash (l := l) h)
  cases hd : decide (dashK l < l.length) with
  | false =>
    have R := hide' (N0.out hd)
    have S := hide' (spn_bad (z := z) (p := (0, 0)) R.out)
    rw [hd] at cC
    clear N0 hd cA cB eA eB zA yA zB yB
    generalize (⟨(rngA l).toArray⟩ : ByteArray) = A at cC
    generalize (⟨(rngB l).toArray⟩ : ByteArray) = B at cC
    go_enter Tryz.func33, Tryz.ntmps33
    go_wp2_with fail
    refine cC.out.mono ?_
    rintro e w1 ⟨rfl, b1⟩
    have B1 := hide' (bt' BB.out b1)
    have D1 := duoR_below DD.out b1
    clear b1 cC BB DD
    have RZ := duoR_store D1 (.int .i64 (0)) (.int .i64 (0))
    have QB := put2R_below B1.out (Nat.le_refl _) (.int .i64 (0)) (.int .i64 (0))
    obtain ⟨i0, i1, f0, f1, iz⟩ := D1
    go_wp2_with fail
    unfold put2R at RZ QB
    obtain ⟨q0, q1, -⟩ := RZ
    exact bodyPost_ret (v := .tuple #[.agg #[.int .i64 (0), .int .i64 (0)], .bool false]) (by simp [results, Tryz.results33, go_sem, q0, q1]) rfl ⟨0, 0, by rw [R.out]; rfl, S.out, by omega, by omega, by omega, by omega, QB⟩
  | true =>
    rw [hd] at cC
    by_cases hA : rngA l = []
    · have R := hide' (bad_last hd hA)
      have e1 := eA.trans (zA hA)
      have S := hide' (show Spn z l (max (z - numQ (rngB l)) 0, z - 1) from by
        by_cases hn : 0 ≤ numR (rngB l)
        · rw [numQ_ok hn]; exact spn_last hA hn z0
        · exact spn_bad (by rw [R.out, decide_eq_false hn]; rfl))
      rw [R.out, Bool.not_not]
      clear N0 hd cA eA eB zA yA zB yB hA R
      generalize (⟨(rngA l).toArray⟩ : ByteArray) = A at cC e1
      generalize (⟨(rngB l).toArray⟩ : ByteArray) = B at cC cB
      generalize numQ (rngB l) = vb at cB S vb0 vb1
      generalize decide (0 ≤ numR (rngB l)) = gb at cB ⊢
      go_enter Tryz.func33, Tryz.ntmps33
      go_wp2_with fail
      refine cC.out.mono ?_
      rintro e w1 ⟨rfl, b1⟩
      have B1 := hide' (bt' BB.out b1)
      have D1 := duoR_below DD.out b1
      clear b1 cC BB DD
      go_wp2_with fail
      refine (cB.out _).mono ?_
      rintro e w2 ⟨rfl, ew⟩
      rw [ew]
      clear ew w2 cB
      have RZ := duoR_store D1 (.int .i64 (max (z - vb) 0)) (.int .i64 (z - 1))
      have QB := put2R_below B1.out (Nat.le_refl _) (.int .i64 (max (z - vb) 0)) (.int .i64 (z - 1))
      obtain ⟨i0, i1, f0, f1, iz⟩ := D1
      go_wp2_with fail
      unfold put2R at RZ QB
      obtain ⟨q0, q1, -⟩ := RZ
      exact bodyPost_ret (v := .tuple #[.agg #[.int .i64 (max (z - vb) 0), .int .i64 (z - 1)], .bool gb]) (by simp [results, Tryz.results33, go_sem, q0, q1]) rfl ⟨max (z - vb) 0, z - 1, rfl, S.out, by omega, by omega, by omega, by omega, QB⟩
    · have e1 := eA.trans (yA hA)
      by_cases hB : rngB l = []
      · have R := hide' (bad_open hd hA hB)
        have e2 := eB.trans (zB hB)
        have S := hide' (show Spn z l (numQ (rngA l), z - 1) from by
          by_cases hn : 0 ≤ numR (rngA l)
          · rw [numQ_ok hn]; exact spn_open hA hB
          · exact spn_bad (by rw [R.out, decide_eq_false hn]; rfl))
        rw [R.out, Bool.not_not]
        clear N0 hd cB eA eB zA yA zB yB hA hB R
        generalize (⟨(rngA l).toArray⟩ : ByteArray) = A at cC e1 cA
        generalize (⟨(rngB l).toArray⟩ : ByteArray) = B at cC e2
        generalize numQ (rngA l) = va at cA S va0 va1
        generalize decide (0 ≤ numR (rngA l)) = ga at cA ⊢
        go_enter Tryz.func33, Tryz.ntmps33
        go_wp2_with fail
        refine cC.out.mono ?_
        rintro e w1 ⟨rfl, b1⟩
        have B1 := hide' (bt' BB.out b1)
        have D1 := duoR_below DD.out b1
        clear b1 cC BB DD
        go_wp2_with fail
        refine (cA.out _).mono ?_
        rintro e w2 ⟨rfl, ew⟩
        rw [ew]
        clear ew w2 cA
        have RZ := duoR_store D1 (.int .i64 (va)) (.int .i64 (z - 1))
        have QB := put2R_below B1.out (Nat.le_refl _) (.int .i64 (va)) (.int .i64 (z - 1))
        obtain ⟨i0, i1, f0, f1, iz⟩ := D1
        go_wp2_with fail
        unfold put2R at RZ QB
        obtain ⟨q0, q1, -⟩ := RZ
        exact bodyPost_ret (v := .tuple #[.agg #[.int .i64 (va), .int .i64 (z - 1)], .bool ga]) (by simp [results, Tryz.results33, go_sem, q0, q1]) rfl ⟨va, z - 1, rfl, S.out, by omega, by omega, by omega, by omega, QB⟩
      · have R := hide' (bad_two hd hA hB)
        have e2 := eB.trans (yB hB)
        have OK := hide' (show (!rngBad l) = (decide (0 ≤ numR (rngA l)) && (decide (0 ≤ numR (rngB l)) && decide (numQ (rngA l) ≤ numQ (rngB l)))) from by
          rw [R.out, Bool.not_not]
          by_cases h1 : 0 ≤ numR (rngA l)
          · by_cases h2 : 0 ≤ numR (rngB l)
            · rw [numQ_ok h1, numQ_ok h2]
            · rw [decide_eq_false h2, Bool.false_and, Bool.false_and]
          · rw [decide_eq_false h1, Bool.false_and, Bool.false_and])
        have S := hide' (show Spn z l (numQ (rngA l), min (numQ (rngB l)) (z - 1)) from by
          by_cases h1 : 0 ≤ numR (rngA l)
          · by_cases h2 : 0 ≤ numR (rngB l)
            · by_cases h3 : numR (rngA l) ≤ numR (rngB l)
              · rw [numQ_ok h1, numQ_ok h2]; exact spn_two hA ⟨h1, h3⟩
              · exact spn_bad (by rw [R.out, decide_eq_false h3, Bool.and_false, Bool.and_false]; rfl)
            · exact spn_bad (by rw [R.out, decide_eq_false h2, Bool.false_and, Bool.and_false]; rfl)
          · exact spn_bad (by rw [R.out, decide_eq_false h1, Bool.false_and]; rfl))
        clear N0 hd eA eB zA yA zB yB hA hB R
        generalize (⟨(rngA l).toArray⟩ : ByteArray) = A at cC e1 cA
        generalize (⟨(rngB l).toArray⟩ : ByteArray) = B at cC e2 cB
        generalize numQ (rngA l) = va at cA S va0 va1 OK
        generalize numQ (rngB l) = vb at cB S vb0 vb1 OK
        generalize decide (0 ≤ numR (rngA l)) = ga at cA OK
        generalize decide (0 ≤ numR (rngB l)) = gb at cB OK
        go_enter Tryz.func33, Tryz.ntmps33
        go_wp2_with fail
        refine cC.out.mono ?_
        rintro e w1 ⟨rfl, b1⟩
        have B1 := hide' (bt' BB.out b1)
        have D1 := duoR_below DD.out b1
        clear b1 cC BB DD
        go_wp2_with fail
        refine (cA.out _).mono ?_
        rintro e w2 ⟨rfl, ew⟩
        rw [ew]
        clear ew w2 cA
        go_wp2_with fail
        refine (cB.out _).mono ?_
        rintro e w3 ⟨rfl, ew⟩
        rw [ew]
        clear ew w3 cB
        cases ga with
        | false =>
          have RZ := duoR_store D1 (.int .i64 (va)) (.int .i64 (min vb (z - 1)))
          have QB := put2R_below B1.out (Nat.le_refl _) (.int .i64 (va)) (.int .i64 (min vb (z - 1)))
          obtain ⟨i0, i1, f0, f1, iz⟩ := D1
          go_wp2_with fail
          unfold put2R at RZ QB
          obtain ⟨q0, q1, -⟩ := RZ
          exact bodyPost_ret (v := .tuple #[.agg #[.int .i64 (va), .int .i64 (min vb (z - 1))], .bool (false)]) (by simp [results, Tryz.results33, go_sem, q0, q1]) rfl ⟨va, min vb (z - 1), by rw [OK.out]; rfl, S.out, by omega, by omega, by omega, by omega, QB⟩
        | true =>
          cases gb with
          | false =>
            have RZ := duoR_store D1 (.int .i64 (va)) (.int .i64 (min vb (z - 1)))
            have QB := put2R_below B1.out (Nat.le_refl _) (.int .i64 (va)) (.int .i64 (min vb (z - 1)))
            obtain ⟨i0, i1, f0, f1, iz⟩ := D1
            go_wp2_with fail
            unfold put2R at RZ QB
            obtain ⟨q0, q1, -⟩ := RZ
            exact bodyPost_ret (v := .tuple #[.agg #[.int .i64 (va), .int .i64 (min vb (z - 1))], .bool (false)]) (by simp [results, Tryz.results33, go_sem, q0, q1]) rfl ⟨va, min vb (z - 1), by rw [OK.out]; rfl, S.out, by omega, by omega, by omega, by omega, QB⟩
          | true =>
            have RZ := duoR_store D1 (.int .i64 (va)) (.int .i64 (min vb (z - 1)))
            have QB := put2R_below B1.out (Nat.le_refl _) (.int .i64 (va)) (.int .i64 (min vb (z - 1)))
            obtain ⟨i0, i1, f0, f1, iz⟩ := D1
            go_wp2_with fail
            unfold put2R at RZ QB
            obtain ⟨q0, q1, -⟩ := RZ
            exact bodyPost_ret (v := .tuple #[.agg #[.int .i64 (va), .int .i64 (min vb (z - 1))], .bool (decide (va ≤ vb))]) (by simp [results, Tryz.results33, go_sem, q0, q1]) rfl ⟨va, min vb (z - 1), by rw [OK.out]; rfl, S.out, by omega, by omega, by omega, by omega, QB⟩
end Go.Proofs.YtipcmbonhkelbabGreatDoor
namespace Go.Proofs.YtipcmbonhkelbabGreatDoor
open Go.RowKit Go.Maps Go.WideMaps
theorem kIntR : Keyed Tryz.prog 3 := int_keyed Tryz.underlying3
theorem zeroUR (w : World) : (zeroValue 70).run Tryz.prog w = .ok (.agg #[]) w := by kernel_rfl
theorem key_intR {i : Int} (hi : -9223372036854775808 ≤ i ∧ i ≤ 9223372036854775807) : keyOf Tryz.prog 3 (.int .i64 i) = some (.int .i64 i) := keyOf_int_mk (a := i) Tryz.underlying3 (by unfold Lit.wf; simp only [Bool.and_eq_true, decide_eq_true_eq]; exact hi)
/-- a map of numbers -/
def SetI (W : World) (m n : Nat) (f : Int → Prop) : Prop := ∃ D : DataW Unit, W.ownsMap Tryz.prog 3 (unitElem (H := Unit)) m n D ∧ ∀ i : Int, Maps.has D (.int .i64 i) = true ↔ f i
theorem setI_block {W W' : World} {m n : Nat} {f : Int → Prop} (h : SetI W m n f) (hb : W'.heap[m]? = W.heap[m]?) : SetI W' m n f := by
  obtain ⟨D, ⟨es, clock, hh, F, hn, hD⟩, h2⟩ := h
  exact ⟨D, ⟨es, clock, by rw [hb]; exact hh, F, hn, hD⟩, h2⟩
theorem setI_lt {W : World} {m n : Nat} {f : Int → Prop} (h : SetI W m n f) : m < W.heap.size := by
  obtain ⟨D, ⟨es, clock, hh, _⟩, _⟩ := h
  rcases Nat.lt_or_ge m W.heap.size with h | h
  · exact h
  · rw [Array.getElem?_eq_none h] at hh; cases hh
theorem setI_empty (W : World) : SetI (W.alloc (.map #[] 0)) W.heap.size 0 (fun _ => False) :=
  ⟨_, World.ownsMap_made (H := Unit) W Tryz.prog 3 unitElem, fun i => by simp [Maps.has]⟩
theorem setI_iff {W : World} {m n : Nat} {f g : Int → Prop} (h : SetI W m n f) (he : ∀ i, f i ↔ g i) : SetI W m n g := by
  obtain ⟨D, h1, h2⟩ := h
  exact ⟨D, h1, fun i => (h2 i).trans (he i)⟩
theorem setI_look {W : World} {m n : Nat} {f : Int → Prop} (h : SetI W m n f) {i : Int} (hi : -9223372036854775808 ≤ i ∧ i ≤ 9223372036854775807) (b : Bool) (hb : b = true ↔ f i) :
    (Instr.lookup 97 (.map (some m)) (.int .i64 i) true).run Tryz.prog W = .ok (.tuple #[.agg #[], .bool b]) W := by
  obtain ⟨D, h0, hh⟩ := h
  obtain ⟨v, ps, h1, h2⟩ := World.ownsMap.look_ok h0 kIntR Tryz.underlying97 (zeroUR W) unitElem_mk (key_intR hi)
  obtain ⟨e, _⟩ := unitElem_inv h2
  have hx : Maps.has D (.int .i64 i) = b := by
    rw [Bool.eq_iff_iff]
    exact (hh i).trans hb.symm
  rw [h1, e, hx]
theorem setI_put {W : World} {m n : Nat} {f : Int → Prop} (h : SetI W m n f) {i : Int} (hi : -9223372036854775808 ≤ i ∧ i ≤ 9223372036854775807) (hn : n < 100000000000000) :
    ∃ w', (Instr.mapUpdate 97 (.map (some m)) (.int .i64 i) (.agg #[])).run Tryz.prog W = .ok () w' ∧ SetI w' m (n + 1) (fun j => f j ∨ j = i) ∧ W.grownBy w' (some m) := by
  obtain ⟨D, h0, hh⟩ := h
  obtain ⟨w', h1, h2, h3⟩ := World.ownsMap.update h0 kIntR Tryz.underlying97 (by unfold maxLen; omega) (key_intR hi) unitElem_mk
  refine ⟨w', h1, ⟨_, h2, fun j => ?_⟩, h3⟩
  by_cases e : j = i
  · rw [e, Maps.has_put_same (k := .int .i64 i) h0.isMap trivial]; simp
  · rw [Maps.has_put_other (fun e2 => e (by cases e2; rfl)), hh]
    exact ⟨Or.inl, fun h => h.resolve_right e⟩
end Go.Proofs.YtipcmbonhkelbabGreatDoor
namespace Go.Proofs.YtipcmbonhkelbabGreatDoor
open Go.RowKit Go.Maps Go.WideMaps
theorem takeA_bad {most n : Int} {c : UInt8} {r : List UInt8} (h : digF c = false) : takeA most n (c :: r) = [] := by unfold takeA; rw [if_pos h]
theorem takeA_big {most n : Int} {c : UInt8} {r : List UInt8} (h : digF c = true) (hm : most < n * 10 + ((c.toNat : Int) - 48)) : takeA most n (c :: r) = [] := by unfold takeA; rw [if_neg (by simp [h]), if_pos hm]
theorem takeA_zero {most n : Int} {c : UInt8} {r : List UInt8} (h : digF c = true) (hm : ¬ most < n * 10 + ((c.toNat : Int) - 48)) (hz : n * 10 + ((c.toNat : Int) - 48) = 0) : takeA most n (c :: r) = [0] := by unfold takeA; rw [if_neg (by simp [h]), if_neg hm, if_pos hz]
theorem takeA_more {most n : Int} {c : UInt8} {r : List UInt8} (h : digF c = true) (hm : ¬ most < n * 10 + ((c.toNat : Int) - 48)) (hz : ¬ n * 10 + ((c.toNat : Int) - 48) = 0) : takeA most n (c :: r) = (n * 10 + ((c.toNat : Int) - 48)) :: takeA most (n * 10 + ((c.toNat : Int) - 48)) r := by
  conv => lhs; unfold takeA
  rw [if_neg (by simp [h]), if_neg hm, if_neg hz]
theorem setI_more {W : World} {m n : Nat} {f : Int → Prop} {done : List Int} {x : Int} (h : SetI W m n (fun j => (f j ∨ j ∈ done) ∨ j = x)) : SetI W m n (fun j => f j ∨ j ∈ done ++ [x]) :=
  setI_iff h (fun i => by rw [List.mem_append, List.mem_singleton, or_assoc])
set_option maxRecDepth 20000 in
set_option maxHeartbeats 4000000 in
theorem takeG (m n0 : Nat) (f : Int → Prop) (v : Value) (l : List UInt8) (most : Int) (w0 W : World) (hs : SetI W m n0 f) (hv : HoldsB w0 v l) (hb : Below w0.heap.size w0 W) (hm : w0.heap.size ≤ m) (h0 : 0 ≤ most) (h1 : most ≤ 1000000000) (hl : l.length ≤ 1000000000) (hn : n0 + l.length < 100000000000000) :
    Calls Tryz.prog 88 #[.map (some m), v, .int .i64 most] W fun e w' => e = .returned (.tuple #[]) ∧ (∃ n', n' ≤ n0 + l.length ∧ SetI w' m n' (fun i => f i ∨ i ∈ takeA most 0 l)) ∧ W.grownBy w' (some m) := by
  obtain ⟨ao, cap, rfl, _, hcp, hc⟩ := hv
  have C := hide' hc
  have BB := hide' hb
  obtain ⟨L, hL⟩ : ∃ L, L = l.length := ⟨_, rfl⟩
  have N := hide' hL.symm
  have T0 : Hid ([] ++ takeA most 0 (l.drop 0) = takeA most 0 l) := rfl
  have S0 := hide' (setI_iff hs (g := fun i => f i ∨ i ∈ ([] : List Int)) (fun i => by simp))
  have G0 : Hid (W.grownBy W (some m)) := ⟨rfl, rfl, rfl, Nat.le_refl _, fun _ _ _ => rfl⟩
  have FIN := hide' (fun (done : List Int) (nn : Nat) (wr : World) (h : done = takeA most 0 l) (hS : SetI wr m nn (fun i => f i ∨ i ∈ done)) => (show SetI wr m nn (fun i => f i ∨ i ∈ takeA most 0 l) from h ▸ hS))
  have TM := hide' hm
  generalize takeA most 0 l = all at T0 FIN ⊢
  rw [N.out] at hl hn ⊢
  clear hL hc hb hs hm
  go_enter Tryz.func88, Tryz.ntmps88
  go_wp2_with fail
  go_loopw [6, 11] (fun nv iv wr => ∃ (k : Nat) (a : Int) (done : List Int) (nn : Nat), k ≤ L ∧ iv = .int .i64 k ∧ nv = .int .i64 a ∧ 0 ≤ a ∧ a ≤ most ∧ nn ≤ n0 + k ∧ Hid (done ++ takeA most a (l.drop k) = all) ∧ Hid (SetI wr m nn (fun i => f i ∨ i ∈ done)) ∧ Hid (W.grownBy wr (some m))) (fun _ iv _ => L - (intOf iv).toNat)
  case atStart => exact ⟨0, 0, [], n0, Nat.zero_le _, rfl, rfl, Int.le_refl _, h0, Nat.le_refl _, T0, S0, G0⟩
  case round =>
    clear T0 S0 G0
    obtain ⟨k, a, done, nn, hk, rfl, rfl, a0, a1, hnn, T, S, G⟩ := hrel
    by_cases hlt : k < L
    · have GK : Hid (k < l.length) := by unfold Hid; rw [N.out]; exact hlt
      obtain ⟨b, off, hao, hblt, hcell⟩ := C.out (List.ne_nil_of_length_pos (by have := GK.out; omega))
      subst hao
      have bw := Below.grown BB.out G.out BB.out.size (fun j hj => by cases hj; exact TM.out)
      have ck : wr.cell? ⟨b, off + k, none⟩ = some (B (l[k]'GK.out)) := by rw [bw.cell (p := ⟨b, off + k, none⟩) hblt]; exact hcell k GK.out
      have ED : l.drop k = (l[k]'GK.out) :: l.drop (k + 1) := List.drop_eq_getElem_cons GK.out
      rw [ED] at T
      clear hcell bw ED
      generalize (l[k]'GK.out) = c at ck T
      have hcb := UInt8.toNat_lt c
      unfold B at ck
      have DG := hide' (dgI_of c)
      cases hg : dgI (c.toNat : Int) with
      | false =>
        have R : Hid (done = all) := by
          have := T.out
          rw [takeA_bad (by rw [← DG.out, hg]), List.append_nil] at this
          exact this
        clear T DG
        go_wp2_with (go_at_call 76; refine (digitG _ (by omega) (by omega) _).mono ?_; rintro e w' ⟨rfl, rfl⟩)
        exact bodyPost_ret (v := .tuple #[]) (by simp [results, Tryz.results88, go_sem]) rfl ⟨rfl, ⟨nn, by omega, FIN.out _ _ _ R.out S.out⟩, G.out⟩
      | true =>
        have d1 : 48 ≤ (c.toNat : Int) ∧ (c.toNat : Int) ≤ 57 := by unfold dgI at hg; exact of_decide_eq_true hg
        have dF : digF c = true := by rw [← DG.out]; exact hg
        clear DG
        by_cases hm : most < a * 10 + ((c.toNat : Int) - 48)
        · have R : Hid (done = all) := by
            have := T.out
            rw [takeA_big dF hm, List.append_nil] at this
            exact this
          clear T dF
          go_wp2_with (go_at_call 76; refine (digitG _ (by omega) (by omega) _).mono ?_; rintro e w' ⟨rfl, rfl⟩)
          exact bodyPost_ret (v := .tuple #[]) (by simp [results, Tryz.results88, go_sem]) rfl ⟨rfl, ⟨nn, by omega, FIN.out _ _ _ R.out S.out⟩, G.out⟩
        · obtain ⟨x, hx⟩ : ∃ x, x = a * 10 + ((c.toNat : Int) - 48) := ⟨_, rfl⟩
          obtain ⟨w4, hup, s4, g4⟩ := setI_put S.out (i := x) (by omega) (by omega)
          have S4 := hide' (setI_more s4)
          have G4 := hide' (G.out.andThen g4 (fun x hx => .inr hx))
          rw [hx] at hup
          clear s4 g4
          by_cases hz : x = 0
          · have R : Hid (done ++ [x] = all) := by
              have := T.out
              rw [takeA_zero dF hm (by omega)] at this
              rw [hz]
              exact this
            clear T dF S G
            go_wp2_with (go_at_call 76; refine (digitG _ (by omega) (by omega) _).mono ?_; rintro e w' ⟨rfl, rfl⟩)
            exact bodyPost_ret (v := .tuple #[]) (by simp [results, Tryz.results88, go_sem]) rfl ⟨rfl, ⟨nn + 1, by omega, FIN.out _ _ _ R.out S4.out⟩, G4.out⟩
          · have T2 : Hid ((done ++ [x]) ++ takeA most x (l.drop (k + 1)) = all) := by
              have := T.out
              rw [takeA_more dF hm (by omega), ← hx] at this
              unfold Hid
              rw [List.append_assoc]
              exact this
            clear T dF S G
            go_wp2_with (go_at_call 76; refine (digitG _ (by omega) (by omega) _).mono ?_; rintro e w' ⟨rfl, rfl⟩)
            go_roundw
            case rel => exact ⟨k + 1, x, done ++ [x], nn + 1, by omega, by go_num, by first | rfl | go_num, by omega, by omega, by omega, T2, S4, G4⟩
            case measure => simp [intOf]; omega
    · have R : Hid (done = all) := by
        have := T.out
        rw [List.drop_eq_nil_of_le (by rw [N.out]; omega), takeA, List.append_nil] at this
        exact this
      go_wp2_with fail
      go_end0
      exact ⟨rfl, ⟨nn, by omega, FIN.out _ _ _ R.out S.out⟩, G.out⟩
end Go.Proofs.YtipcmbonhkelbabGreatDoor
namespace Go.Proofs.YtipcmbonhkelbabGreatDoor
open Go.RowKit Go.Maps Go.WideMaps
theorem bytesOf_mapR (l : List UInt8) : Lib.bytesOf (l.map fun b => (b.toNat : Int)) = l := by
  unfold Lib.bytesOf
  rw [List.map_map]
  conv => rhs; rw [← List.map_id l]
  exact List.map_congr_left fun x _ => by simp
theorem byte_rangeR (l : List UInt8) : ∀ x ∈ l.map (fun b => (b.toNat : Int)), 0 ≤ x ∧ x < 256 := by
  intro x hx
  obtain ⟨b, _, rfl⟩ := List.mem_map.1 hx
  have := UInt8.toNat_lt b
  omega
theorem sufR {w : World} {v : Value} {bs : List UInt8} (h : HoldsB w v bs) (i : Nat) (hi : i ≤ bs.length) :
    ∃ pv, (∀ W, Sem.run Tryz.prog (Instr.slice 25 v (some (.int .i64 (i : Int))) none none) W = .ok pv W) ∧ HoldsB w pv (bs.drop i) := by
  obtain ⟨pv, h1, h2⟩ := midB h i bs.length hi (Nat.le_refl _)
  rw [List.take_of_length_le (by rw [List.length_drop]; omega)] at h2
  obtain ⟨ao, cap, rfl, h0, hcp, hc⟩ := h
  refine ⟨pv, fun W => ?_, h2⟩
  have he : Tryz.prog.elem 25 = 5 := by kernel_rfl
  have k1 := run_slice_l (P := Tryz.prog) W 25 ao bs.length cap (by rw [he]; exact Tryz.underlying25) .i64 i (by omega) (by omega)
  have k2 := run_slice_lh (P := Tryz.prog) W 25 ao bs.length cap (by rw [he]; exact Tryz.underlying25) .i64 .i64 i bs.length (by omega) (by omega) (by omega)
  have k3 := h1 W
  rw [he, Tryz.sizeOf5] at k1 k2
  simp only [Result.andThen, Int.toNat_natCast] at k1 k2
  rw [k2] at k3
  rw [k1]
  exact k3
theorem markR10 (W : World) : Sem.run Tryz.prog (convert 25 25 (.slice (some ⟨W.heap.size, 0, none⟩) 10 10)) (W.alloc (.cells #[.int .u8 45, .int .u8 45, .int .u8 99, .int .u8 111, .int .u8 110, .int .u8 100, .int .u8 117, .int .u8 105, .int .u8 116, .int .u8 45] 5)) = .ok (.slice (some ⟨W.heap.size, 0, none⟩) 10 10) (W.alloc (.cells #[.int .u8 45, .int .u8 45, .int .u8 99, .int .u8 111, .int .u8 110, .int .u8 100, .int .u8 117, .int .u8 105, .int .u8 116, .int .u8 45] 5 (10, 11))) :=
  Lib.run_convert_bytes_const W 25 5 #[.int .u8 45, .int .u8 45, .int .u8 99, .int .u8 111, .int .u8 110, .int .u8 100, .int .u8 117, .int .u8 105, .int .u8 116, .int .u8 45] 10 10 Tryz.underlying25 Tryz.underlying5
/-- the mark's bytes at block g -/
def MkC (g : Nat) (W : World) : Prop := g < W.heap.size ∧ ∀ i, i < 10 → W.cell? ((⟨g, 0, none⟩ : Addr).add i) = some (.int .u8 (([45, 45, 99, 111, 110, 100, 117, 105, 116, 45] : List Int).getD i 0))
theorem mkC_lit (W : World) : MkC W.heap.size (W.alloc (.cells #[.int .u8 45, .int .u8 45, .int .u8 99, .int .u8 111, .int .u8 110, .int .u8 100, .int .u8 117, .int .u8 105, .int .u8 116, .int .u8 45] 5 (10, 11))) := by
  refine ⟨by simp, fun i hi => ?_⟩
  rw [Go.WideShapes.add_plain]
  match i, hi with
  | 0, _ => simp [World.cell?_alloc_mark]
  | 1, _ => simp [World.cell?_alloc_mark]
  | 2, _ => simp [World.cell?_alloc_mark]
  | 3, _ => simp [World.cell?_alloc_mark]
  | 4, _ => simp [World.cell?_alloc_mark]
  | 5, _ => simp [World.cell?_alloc_mark]
  | 6, _ => simp [World.cell?_alloc_mark]
  | 7, _ => simp [World.cell?_alloc_mark]
  | 8, _ => simp [World.cell?_alloc_mark]
  | 9, _ => simp [World.cell?_alloc_mark]
theorem mkC_block {g : Nat} {W W' : World} (h : MkC g W) (hz : W.heap.size ≤ W'.heap.size) (e : W'.heap[g]? = W.heap[g]?) : MkC g W' := by
  refine ⟨Nat.lt_of_lt_of_le h.1 hz, fun i hi => ?_⟩
  have := h.2 i hi
  rw [Go.WideShapes.add_plain] at this ⊢
  rw [World.cell?_of_block (w := W) (a := ⟨g, _, none⟩) e]
  exact this
theorem indexD (v : Value) (bs : List UInt8) (g : Nat) (W : World) (hv : HoldsB W v bs) (hg : MkC g W) (M : MaxVD W) (hs : bs.length < 4294967281) :
    Calls Tryz.prog 87 #[v, .slice (some ⟨g, 0, none⟩) 10 10] W fun e w' => e = .returned (.int .i64 (Lib.index bs dashC)) ∧ Below W.heap.size W w' := by
  obtain ⟨ao, cap, rfl, h0, hcp, h1⟩ := hv
  obtain ⟨m, hm⟩ := M
  cases ao with
  | none =>
    obtain rfl := h0 rfl
    have : bs = [] := List.eq_nil_of_length_eq_zero (by omega)
    subst this
    refine (Any.bytes_Index_nil Tryz.lays185 (some ⟨g, 0, none⟩) 10 10 _ (by decide) (fun h => absurd h (by decide))).mono ?_
    rintro e w' ⟨rfl, rfl⟩
    exact ⟨rfl, Below.refl _ _⟩
  | some a =>
    refine (Any.bytes_Index_at Tryz.lays185 a ⟨g, 0, none⟩ bs.length cap 10 10 (bs.map fun b => (b.toNat : Int)) [45, 45, 99, 111, 110, 100, 117, 105, 116, 45] m _ (by simp) rfl (byte_rangeR bs) (by decide) ?_ hg.2 hcp hs (by decide) hm).mono ?_
    · intro i hi
      obtain ⟨b, off, e, _, hc⟩ := h1 (by intro e; rw [e] at hi; simp at hi)
      simp only [Option.some.injEq] at e
      subst e
      rw [Go.WideShapes.add_plain, hc i hi]
      unfold B
      simp [hi]
    · rintro e w' ⟨rfl, q, rfl⟩
      rw [bytesOf_mapR, show Lib.bytesOf [45, 45, 99, 111, 110, 100, 117, 105, 116, 45] = dashC from rfl]
      exact ⟨rfl, below_drewN _ q⟩
def slLen : Value → Nat
  | .slice _ n _ => n
  | _ => 0
theorem slLen_holds {w : World} {v : Value} {bs : List UInt8} (h : HoldsB w v bs) : slLen v = bs.length := by
  obtain ⟨ao, cap, rfl, _⟩ := h
  rfl
theorem st_over {s b : List UInt8} {i : Nat} (h : b.length < i + s.length) : stAt s b i = false := by
  unfold stAt
  rw [decide_eq_false (by omega), Bool.false_and]
theorem occ_drop (b s : List UInt8) (p j : Nat) : Lib.occAt (b.drop p) s j = Lib.occAt b s (p + j) := by unfold Lib.occAt; rw [List.drop_drop]
/-- no mark stands behind p -/
theorem idx_none {b : List UInt8} {p : Nat} (h : Lib.index (b.drop p) dashC = -1) : ∀ i, p ≤ i → stAt dashC b i = false := by
  intro i hi
  by_cases hl : i ≤ b.length
  · rw [occ_st hl]
    have := index_none_of _ _ h (i - p) (by decide)
    rwa [occ_drop, show p + (i - p) = i by omega] at this
  · exact st_over (by omega)
/-- the first one stands at p + i -/
theorem idx_some {b : List UInt8} {p i : Nat} (hp : p ≤ b.length) (h : Lib.index (b.drop p) dashC = i) : stAt dashC b (p + i) = true ∧ (∀ j, p ≤ j → j < p + i → stAt dashC b j = false) ∧ p + i + 10 ≤ b.length := by
  obtain ⟨h1, h2, h3⟩ := index_is _ _ _ h
  rw [List.length_drop] at h1
  rw [occ_drop, ← occ_st (by omega)] at h2
  have h4 := st_len h2
  refine ⟨h2, fun j hj hlt => ?_, h4⟩
  rw [occ_st (by omega)]
  have := h3 (j - p) (by omega)
  rwa [occ_drop, show p + (j - p) = j by omega] at this
set_option maxRecDepth 20000 in
set_option maxHeartbeats 4000000 in
theorem takenG (v : Value) (b : List UInt8) (w : World) (hv : HoldsB w v b) (hb : b.length ≤ 8000000) (M : MaxVD w) :
    Calls Tryz.prog 66 #[v] w fun e w' => ∃ g n, e = .returned (.map (some g)) ∧ SetI w' g n (fun m => ∃ k : Nat, m = k ∧ k ≤ b.length ∧ stIn (markB k) b = true) ∧ Below w.heap.size w w' := by
  have hmm := @run_makeMap Tryz.prog
  have HV := hide' hv
  obtain ⟨ao, cap, ev, -⟩ := id hv
  obtain ⟨g, hg⟩ : ∃ g, g = w.heap.size := ⟨_, rfl⟩
  obtain ⟨W1, hW1⟩ : ∃ W1, W1 = w.alloc (.map #[] 0) := ⟨_, rfl⟩
  have b1 := below_alloc' w (.map #[] 0)
  have s1 := setI_empty w
  have z1 : W1.heap.size = g + 1 := by rw [hW1, hg]; simp
  rw [← hW1] at b1 s1
  rw [← hg] at s1
  have HW1 := hide' hW1
  have HG := hide' hg
  have mk := markR10 W1
  have mc := mkC_lit W1
  have b2 := bt' b1 (below_alloc' W1 (.cells #[.int .u8 45, .int .u8 45, .int .u8 99, .int .u8 111, .int .u8 110, .int .u8 100, .int .u8 117, .int .u8 105, .int .u8 116, .int .u8 45] 5 (10, 11)))
  have s2 := setI_block (W' := W1.alloc (.cells #[.int .u8 45, .int .u8 45, .int .u8 99, .int .u8 111, .int .u8 110, .int .u8 100, .int .u8 117, .int .u8 105, .int .u8 116, .int .u8 45] 5 (10, 11))) s1 ((below_alloc' W1 _).block g (setI_lt s1))
  have S2 := hide' (setI_iff s2 (g := TakM b 0) (fun i => ⟨fun h => h.elim, fun ⟨_, _, _, i, h, _⟩ => absurd h (Nat.not_lt_zero _)⟩))
  have MC := hide' mc
  have B2 := hide' b2
  have MV := hide' M
  have ZW := hide' z1
  have H0 : Hid (HoldsB w v (b.drop 0)) := hv
  obtain ⟨L, hL⟩ : ∃ L, L = b.length := ⟨_, rfl⟩
  have N := hide' hL.symm
  rw [N.out] at ev hb ⊢
  subst ev
  clear hv M hg hW1 b1 s1 mc b2 s2 z1 hL
  go_enter Tryz.func66, Tryz.ntmps66
  go_upto_region 2 with fail
  rw [← HW1.out, ← HG.out]
  go_upto_region 3 with fail
  clear mk hmm
  obtain ⟨W2, hW2⟩ : ∃ W2, W2 = W1.alloc (.cells #[.int .u8 45, .int .u8 45, .int .u8 99, .int .u8 111, .int .u8 110, .int .u8 100, .int .u8 117, .int .u8 105, .int .u8 116, .int .u8 45] 5 (10, 11)) := ⟨_, rfl⟩
  rw [← hW2] at S2 MC B2 ⊢
  clear hW2
  have hgm : Hid (w.heap.size ≤ g) := by unfold Hid; rw [HG.out]; exact Nat.le_refl _
  go_wp2_with fail
  go_loopw [5] (fun rv wr => ∃ p nn : Nat, p ≤ L ∧ Hid (HoldsB w rv (b.drop p)) ∧ Hid (nn ≤ p * L) ∧ Hid (SetI wr g nn (TakM b p)) ∧ Hid (MkC W1.heap.size wr) ∧ Hid (Below w.heap.size w wr)) (fun rv _ => slLen rv)
  case atStart => exact ⟨0, 0, Nat.zero_le _, H0, Nat.zero_le _, S2, MC, B2⟩
  case round =>
    clear H0 S2 MC B2
    obtain ⟨p, nn, hp, HR, HN, S, MC, BW⟩ := hrel
    have LR := hide' (slLen_holds HR.out)
    have DL : (b.drop p).length = L - p := by rw [List.length_drop, N.out]
    have cI := indexD _ (b.drop p) W1.heap.size _ (holdsB_mono HR.out BW.out) MC.out (MV.out.below BW.out) (by omega)
    obtain ⟨ra, rc, er, -⟩ := id HR.out
    rw [DL] at er
    subst er
    have hp' : p ≤ b.length := by rw [N.out]; exact hp
    rcases index_cases (b.drop p) dashC with hi | ⟨i, hi⟩
    · have IT := hide' (fun m : Int => show TakM b p m ↔ ∃ k : Nat, m = k ∧ k ≤ L ∧ stIn (markB k) b = true from by
        constructor
        · rintro ⟨k, h1, h2, j, _, h3⟩
          exact ⟨k, h1, by rw [← N.out]; exact h2, (stIn_iff _ _).2 ⟨j, h3⟩⟩
        · rintro ⟨k, rfl, h2, h3⟩
          exact (tak_end (idx_none hi) k (by rw [N.out]; exact h2)).2 h3)
      rw [hi] at cI
      have CI := hide' cI
      clear cI hi LR DL HN MC HR hp'
      go_wp2_with fail
      refine CI.out.mono ?_
      rintro e w5 ⟨rfl, b5⟩
      have S5 := hide' (setI_iff (setI_block S.out (b5.block g (setI_lt S.out))) IT.out)
      have B5 := hide' (bt' BW.out b5)
      clear b5 CI S IT BW
      go_wp2_with fail
      go_ret
      exact ⟨g, nn, rfl, S5.out, B5.out⟩
    · obtain ⟨h1, h2, h3⟩ := idx_some hp' hi
      rw [N.out] at h3
      have ST := hide' (fun m => tak_step (b := b) (p := p) (q := p + i) (by omega) h1 h2 m)
      rw [N.out] at ST
      rw [hi] at cI
      have CI := hide' cI
      obtain ⟨pv, r1, k1⟩ := sufR HR.out (i + 9) (by omega)
      rw [List.drop_drop, show p + (i + 9) = p + i + 9 by omega] at k1
      obtain ⟨pw, r2, k2⟩ := sufR k1 1 (by rw [List.length_drop, N.out]; omega)
      rw [List.drop_drop] at k2
      rw [show ((1 : Nat) : Int) = 1 from rfl] at r2
      rw [show ((i + 9 : Nat) : Int) = (i : Int) + 10 - 1 by omega] at r1
      have K1 := hide' k1
      have hl2 : (b.drop (p + i + 9 + 1)).length ≤ L := by rw [List.length_drop, N.out]; omega
      have hnn := HN.out
      have hbd : nn ≤ 8000000 * 8000000 := Nat.le_trans hnn (Nat.mul_le_mul (by omega) (by omega))
      have cT := hide' (fun W (hS : SetI W g nn (TakM b p)) (hB : Below w.heap.size w W) => takeG g nn (TakM b p) pw (b.drop (p + i + 9 + 1)) (L : Int) w W hS k2 hB hgm.out (by omega) (by omega) (by omega) (by omega))
      have LP := hide' (slLen_holds k1)
      have eL : (b.drop (p + i + 9)).length = L - (p + i + 9) := by rw [List.length_drop, N.out]
      have hmul : nn + L ≤ (p + i + 9) * L := by
        have h5 : p * L + L ≤ (p + i + 9) * L := by rw [← Nat.succ_mul]; exact Nat.mul_le_mul_right L (by omega)
        omega
      have HM := hide' hmul
      have HL2 := hide' hl2
      have DLH := hide' DL
      obtain ⟨n7, hn7⟩ : ∃ n7, n7 = L - (p + i + 9) := ⟨_, rfl⟩
      rw [← hn7] at eL
      obtain ⟨pa, pc, ep, -⟩ := id k1
      rw [eL] at ep
      subst ep
      have EL := hide' eL
      have H7 := hide' hn7
      clear cI hi h1 h2 k1 k2 HR hp' hmul hbd hnn HN eL DL hl2 hn7
      go_wp2_with fail
      refine CI.out.mono ?_
      rintro e w5 ⟨rfl, b5⟩
      have S5 := hide' (setI_block S.out (b5.block g (setI_lt S.out)))
      have B5 := hide' (bt' BW.out b5)
      have M5 := hide' (mkC_block MC.out b5.size (b5.block W1.heap.size MC.out.1))
      clear b5 CI S BW MC
      go_wp2_with fail
      refine (cT.out _ S5.out B5.out).mono ?_
      rintro e w6 ⟨rfl, ⟨n6, hn6, s6⟩, g6⟩
      have S6 := hide' (setI_iff s6 (fun m => (ST.out m).symm))
      have B6 := hide' (Below.grown B5.out g6 B5.out.size (fun j hj => by cases hj; exact hgm.out))
      have M6 := hide' (mkC_block M5.out g6.size (g6.block W1.heap.size M5.out.1 (fun e => by have := Option.some.inj e; have := ZW.out; omega)))
      clear s6 g6 cT S5 B5 M5 ST
      go_wp2_with fail
      go_roundw
      case rel => exact ⟨p + i + 9, n6, by omega, K1, Nat.le_trans hn6 (Nat.le_trans (Nat.add_le_add_left HL2.out nn) HM.out), S6, M6, B6⟩
      case measure => rw [LP.out, LR.out, EL.out, DLH.out]; have := H7.out; omega
end Go.Proofs.YtipcmbonhkelbabGreatDoor
