/- The contract of Show. -/
import Derived.Test.YtpdmcgpppccefaaDoorDaU
import Derived.Deep.RegionHeld3
namespace Go.Proofs.YtpdmcgpppccefaaDoor
open Go.RowKit
theorem twoCodeI (n : Int) (h0 : 0 ≤ n) (h1 : n < 100) (w : World) :
    Calls Tryd.prog 19 #[.int .i64 n] w fun e w' => e = .returned (.string ⟨(D2 n).toArray⟩) ∧ w' = w := by
  have := twoCode n.toNat (by omega) w
  rwa [Int.toNat_of_nonneg h0] at this
theorem twoRefI (n : Int) (h0 : 0 ≤ n) (h1 : n < 100) (w : World) :
    Calls Tryd.prog 33 #[.int .i64 n, .int .i64 2] w fun e w' => e = .returned (.string ⟨(D2 n).toArray⟩) ∧ Below w.heap.size w w' := by
  have := twoRef n.toNat (by omega) w
  rwa [Int.toNat_of_nonneg h0] at this
theorem fourRefI (n : Int) (h0 : 1000 ≤ n) (h1 : n < 10000) (w : World) :
    Calls Tryd.prog 33 #[.int .i64 n, .int .i64 4] w fun e w' => e = .returned (.string ⟨(D4 n).toArray⟩) ∧ Below w.heap.size w w' := by
  have := fourRef n.toNat (by omega) (by omega) w
  rwa [Int.toNat_of_nonneg (by omega)] at this
theorem itoaYearI (n : Int) (h0 : 1000 ≤ n) (h1 : n < 10000) (w : World) (V : Vars w) :
    Calls Tryd.prog 20 #[.int .i64 n] w fun e w' => e = .returned (.string ⟨(D4 n).toArray⟩) ∧ Below w.heap.size w w' := by
  have := itoaYear n.toNat (by omega) (by omega) w V
  rwa [Int.toNat_of_nonneg (by omega)] at this
def hmsL (r : Int) : List UInt8 := D2 (r / 3600) ++ [58] ++ D2 (r / 60 % 60) ++ [58] ++ D2 (r % 60)
def showL (n r y m d : Int) : List UInt8 := (wkL n).take 3 ++ [44, 32] ++ D2 d ++ [32] ++ moL m ++ [32] ++ D4 y ++ [32] ++ hmsL r ++ [32, 71, 77, 84]
theorem wkL_len (n : Int) : 6 ≤ (wkL n).length ∧ (wkL n).length ≤ 9 := by
  unfold wkL
  rcases seven n with h | h | h | h | h | h | h <;> rw [h] <;> decide
theorem moL_len {m : Int} (m0 : 1 ≤ m) (m1 : m ≤ 12) : (moL m).length = 3 := by
  rcases twelve m0 m1 with rfl | rfl | rfl | rfl | rfl | rfl | rfl | rfl | rfl | rfl | rfl | rfl <;> decide
theorem cutT (s : ByteArray) (t : Nat) (ht : t ≤ s.size) (w : World) :
    Sem.run Tryd.prog (Instr.slice 9 (.string s) none (some (.int .i64 t)) none) w = .ok (.string (s.extract 0 t)) w := by
  rw [run_slice_string_to_if w 9 s .i64 t Tryd.underlying9, if_pos ⟨by omega, by omega⟩]
  simp only [Int.toNat_natCast]
set_option maxHeartbeats 4000000 in
theorem showCode (t y m d : Int) (t0 : 0 ≤ t) (t1 : t ≤ 253402300799) (hv : Valid y m d) (hd : dayOf y m d = t / 86400) (w : World) (V : Vars w) :
    Calls Tryd.prog 10 #[.int .i64 t] w fun e w' => e = .returned (.tuple #[.string ⟨(showL (t / 86400) (t % 86400) y m d).toArray⟩, .int .i64 0]) ∧ Below w.heap.size w w' := by
  have cC := hide (civilCode y m d hv w V.len)
  rw [hd] at cC
  have n0 : 0 ≤ t / 86400 := by omega
  have n1 : t / 86400 ≤ 2932896 := by omega
  have r0 : 0 ≤ t % 86400 := by omega
  have r1 : t % 86400 < 86400 := by omega
  go_enter Tryd.func10, Tryd.ntmps10
  go_wp2_with fail
  refine cC.out.mono ?_
  rintro e w1 ⟨rfl, rfl⟩
  clear cC hd
  have Hn : ∃ n, Hid (t / 86400 = n) := ⟨_, rfl⟩
  have Hr : ∃ n, Hid (t % 86400 = n) := ⟨_, rfl⟩
  obtain ⟨n, Hn⟩ := Hn
  obtain ⟨r, Hr⟩ := Hr
  rw [Hn.out] at n0 n1 ⊢
  rw [Hr.out] at r0 r1 ⊢
  go_wp2_with fail
  obtain ⟨y0, y1, m0, m1, d0, d1⟩ := hv
  have dL := mlen_in y m0 m1
  have lw := wkL_len n
  have lm := moL_len m0 m1
  have vw := hide (fun W (V : Vars W) => V.week (n % 7).toNat (by omega))
  have vm := hide (fun W (V : Vars W) => V.mon (m.toNat - 1) (by omega))
  have em : moL m = motab.getD (m.toNat - 1) [] := by unfold moL; rw [show (m - 1).toNat = m.toNat - 1 by omega]
  have ew : wkL n = wtab.getD (n % 7).toNat [] := rfl
  rw [← em] at vm
  rw [← ew] at vw
  obtain ⟨wk, hwk⟩ : ∃ x : ByteArray, x = ⟨(wkL n).toArray⟩ := ⟨_, rfl⟩
  obtain ⟨mo, hmo⟩ : ∃ x : ByteArray, x = ⟨(moL m).toArray⟩ := ⟨_, rfl⟩
  obtain ⟨dd, hdd⟩ : ∃ x : ByteArray, x = ⟨(D2 d).toArray⟩ := ⟨_, rfl⟩
  obtain ⟨yy, hyy⟩ : ∃ x : ByteArray, x = ⟨(D4 y).toArray⟩ := ⟨_, rfl⟩
  obtain ⟨h2, hh2⟩ : ∃ x : ByteArray, x = ⟨(D2 (r / 3600)).toArray⟩ := ⟨_, rfl⟩
  obtain ⟨i2, hi2⟩ : ∃ x : ByteArray, x = ⟨(D2 (r / 60 % 60)).toArray⟩ := ⟨_, rfl⟩
  obtain ⟨s2, hs2⟩ : ∃ x : ByteArray, x = ⟨(D2 (r % 60)).toArray⟩ := ⟨_, rfl⟩
  have cD := hide (twoCodeI d (by omega) (by omega))
  have cY := hide (fun W V => itoaYearI y (by omega) (by omega) W V)
  have cH := hide (twoCodeI (r / 3600) (by omega) (by omega))
  have cM := hide (twoCodeI (r / 60 % 60) (by omega) (by omega))
  have cS := hide (twoCodeI (r % 60) (by omega) (by omega))
  have zw : 3 ≤ wk.size := by rw [hwk]; show 3 ≤ (wkL n).length; omega
  have zw9 : wk.size ≤ 9 := by rw [hwk]; exact lw.2
  have zm : mo.size = 3 := by rw [hmo]; exact lm
  have zd : dd.size = 2 := by rw [hdd]; rfl
  have zy : yy.size = 4 := by rw [hyy]; rfl
  have zh : h2.size = 2 := by rw [hh2]; rfl
  have zi : i2.size = 2 := by rw [hi2]; rfl
  have zs : s2.size = 2 := by rw [hs2]; rfl
  have HL : Hid (((((((((((wk.extract 0 3 ++ ⟨#[44, 32]⟩) ++ dd) ++ ⟨#[32]⟩) ++ mo) ++ ⟨#[32]⟩) ++ yy) ++ ⟨#[32]⟩) ++ ((((h2 ++ ⟨#[58]⟩) ++ i2) ++ ⟨#[58]⟩) ++ s2)) ++ ⟨#[32, 71, 77, 84]⟩) : ByteArray) = ⟨(showL n r y m d).toArray⟩) := by
    unfold Hid
    apply ba_of
    rw [hwk, hmo, hdd, hyy, hh2, hi2, hs2]
    simp only [app_list, extract_list, showL, hmsL]
    simp
  rw [← hwk] at vw
  rw [← hmo] at vm
  rw [← hdd] at cD
  rw [← hyy] at cY
  rw [← hh2] at cH
  rw [← hi2] at cM
  rw [← hs2] at cS
  have z3 : (wk.extract 0 3).size = 3 := by rw [ByteArray.size_extract]; omega
  clear hwk hmo hdd hyy hh2 hi2 hs2 lw lm em ew
  have kw := vw.out w1 V
  have km := vm.out w1 V
  have cY2 : Hid (∀ W, Vars W → Calls Tryd.prog 20 #[.int .i64 y] W fun e w' => e = .returned (.string yy) ∧ w'.cell? ⟨0, (n % 7).toNat, none⟩ = some (.string wk) ∧ w'.cell? ⟨1, m.toNat - 1, none⟩ = some (.string mo) ∧ Below W.heap.size W w') := by
    intro W VW
    refine (cY.out W VW).mono ?_
    rintro e w' ⟨rfl, hb⟩
    have V' := VW.below hb
    exact ⟨rfl, vw.out _ V', vm.out _ V', hb⟩
  have V1 := hide V
  have g0 : (3 : Int) ≤ (wk.size : Int) := by omega
  have g1 : (0 : Int) ≤ n % 7 := by omega
  have g2 : n % 7 < (7 : Int) := by omega
  have g3 : (0 : Int) ≤ m - 1 := by omega
  have g4 : m - 1 < (12 : Int) := by omega
  have g5 : IntKind.i64.wrap (m - 1) = m - 1 := by rw [IntKind.wrap_i64]; omega
  have g6 : n.tmod 7 = n % 7 := Int.tmod_eq_emod_of_nonneg n0
  have g7 : IntKind.i64.wrap (n % 7) = n % 7 := by rw [IntKind.wrap_i64]; omega
  clear V cY vw vm
  go_region_held3 (fun w' => w'.cell? ⟨0, (n % 7).toNat, none⟩ = some (.string wk) ∧ w'.cell? ⟨1, m.toNat - 1, none⟩ = some (.string mo)) (go_keep)
    (first
      | (go_at_call 19; refine (cD.out _).mono ?_; rintro e' w3 ⟨rfl, rfl⟩)
      | (go_at_call 20; refine (cY2.out _ (V1.out.below ((Below.refl _ _).drew))).mono ?_; rintro e' w3 ⟨rfl, hc3, hc4, hb3⟩))
  have B3 : Hid (Below w1.heap.size w1 w3) := (Below.refl _ w1).drew.trans hb3
  clear hb3 hc3 hc4 kw km
  go_wp2_with fail
  refine (cH.out _).mono ?_
  rintro e w4 ⟨rfl, rfl⟩
  go_wp2_with fail
  refine (cM.out _).mono ?_
  rintro e w4 ⟨rfl, rfl⟩
  go_wp2_with fail
  refine (cS.out _).mono ?_
  rintro e w4 ⟨rfl, rfl⟩
  go_wp2_with fail
  go_ret2
  rw [HL.out, Hn.out, Hr.out]
  exact ⟨rfl, B3.out⟩
set_option maxHeartbeats 1000000 in
theorem showCode_no (t : Int) (h : t < 0 ∨ 253402300799 < t) (w : World) :
    Calls Tryd.prog 10 #[.int .i64 t] w fun e w' => e = .returned (.tuple #[.string ⟨#[]⟩, .int .i64 20]) ∧ w' = w := by
  rcases h with h | h
  · go_enter Tryd.func10, Tryd.ntmps10
    go_wp2_with fail
    go_ret2
    exact ⟨rfl, rfl⟩
  · have h0 : 0 ≤ t := by omega
    go_enter Tryd.func10, Tryd.ntmps10
    go_wp2_with fail
    go_ret2
    exact ⟨rfl, rfl⟩
theorem valid1994 : Valid 1994 11 6 := ⟨by omega, by omega, by omega, by omega, by omega, by decide⟩
theorem showAlive (w : World) (V : Vars w) :
    Calls Tryd.prog 10 #[.int .i64 784111777] w fun e w' => e = .returned (.tuple #[.string ⟨#[83, 117, 110, 44, 32, 48, 54, 32, 78, 111, 118, 32, 49, 57, 57, 52, 32, 48, 56, 58, 52, 57, 58, 51, 55, 32, 71, 77, 84]⟩, .int .i64 0]) ∧ Below w.heap.size w w' := by
  have h := showCode 784111777 1994 11 6 (by omega) (by omega) valid1994 (by decide +kernel) w V
  have e : showL (784111777 / 86400) (784111777 % 86400) 1994 11 6 = [83, 117, 110, 44, 32, 48, 54, 32, 78, 111, 118, 32, 49, 57, 57, 52, 32, 48, 56, 58, 52, 57, 58, 51, 55, 32, 71, 77, 84] := by decide +kernel
  rw [e] at h
  exact h
set_option maxHeartbeats 1000000 in
theorem alive (w : World) (V : Vars w) :
    Calls Tryd.prog 9 #[] w fun e w' => e = .returned (.bool true) ∧ Below w.heap.size w w' := by
  have c := hide (showAlive w V)
  clear V
  go_enter Tryd.func9, Tryd.ntmps9
  go_wp2_with fail
  refine c.out.mono ?_
  rintro e w1 ⟨rfl, b1⟩
  replace b1 := hide b1
  go_wp2_with fail
  go_ret
  exact ⟨rfl, b1.out⟩
/-- the second's day has a name -/
theorem dateOf {t : Int} (t0 : 0 ≤ t) (t1 : t ≤ 253402300799) : ∃ y m d, Valid y m d ∧ dayOf y m d = t / 86400 := day_ex (by omega) (by omega)
end Go.Proofs.YtpdmcgpppccefaaDoor
