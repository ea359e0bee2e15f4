/- What Parse says of the texts that are forms of a second: the readings of the parts. -/
import Derived.Test.YtikokjclhpgocabDoorDaPa
namespace Go.Proofs.YtikokjclhpgocabDoor
open Go.RowKit
theorem dg_val {a : Int} (h0 : 0 ≤ a) (h1 : a ≤ 9) : ((dg a).toNat : Int) = 48 + a := by
  unfold dg; rw [UInt8.toNat_ofNat']; omega
theorem dg_dig {a : Int} (h0 : 0 ≤ a) (h1 : a ≤ 9) : isDig (dg a) = true := by
  unfold isDig; rw [dg_val h0 h1]; simp; omega
theorem num_D2 {v : Int} (h0 : 0 ≤ v) (h1 : v < 100) : NumIs ⟨(D2 v).toArray⟩ v true := by
  have a1 := dg_dig (a := v / 10) (by omega) (by omega)
  have a2 := dg_dig (a := v % 10) (by omega) (by omega)
  have b1 := dg_val (a := v / 10) (by omega) (by omega)
  have b2 := dg_val (a := v % 10) (by omega) (by omega)
  have hd : digs (D2 v) = true := by simp [digs, D2, a1, a2]
  refine ⟨by show (D2 v).length ≤ 8; simp [D2], ?_, hd.symm⟩
  show v = numB (D2 v)
  unfold numB
  rw [hd, if_pos rfl]
  simp [numV, D2, b1, b2]
  omega
theorem num_D1 {v : Int} (h0 : 0 ≤ v) (h1 : v < 10) : NumIs ⟨[dg v].toArray⟩ v true := by
  have a1 := dg_dig (a := v) (by omega) (by omega)
  have b1 := dg_val (a := v) (by omega) (by omega)
  have hd : digs [dg v] = true := by simp [digs, a1]
  refine ⟨by show [dg v].length ≤ 8; simp, ?_, hd.symm⟩
  show v = numB [dg v]
  unfold numB
  rw [hd, if_pos rfl]
  simp [numV, b1]
  omega
theorem num_D4 {v : Int} (h0 : 0 ≤ v) (h1 : v < 10000) : NumIs ⟨(D4 v).toArray⟩ v true := by
  have a1 := dg_dig (a := v / 1000) (by omega) (by omega)
  have a2 := dg_dig (a := v / 100 % 10) (by omega) (by omega)
  have a3 := dg_dig (a := v / 10 % 10) (by omega) (by omega)
  have a4 := dg_dig (a := v % 10) (by omega) (by omega)
  have b1 := dg_val (a := v / 1000) (by omega) (by omega)
  have b2 := dg_val (a := v / 100 % 10) (by omega) (by omega)
  have b3 := dg_val (a := v / 10 % 10) (by omega) (by omega)
  have b4 := dg_val (a := v % 10) (by omega) (by omega)
  have hd : digs (D4 v) = true := by simp [digs, D4, a1, a2, a3, a4]
  refine ⟨by show (D4 v).length ≤ 8; simp [D4], ?_, hd.symm⟩
  show v = numB (D4 v)
  unfold numB
  rw [hd, if_pos rfl]
  simp [numV, D4, b1, b2, b3, b4]
  omega
theorem mo_ne : ∀ j : Fin 12, ∀ k : Fin 12, k.val < j.val → ¬ motab.getD k.val [] = motab.getD j.val [] := by decide +kernel
theorem moB_ne {j k : Nat} (hj : j < 12) (hk : k < j) : ¬ moB k = moB j := by
  intro h
  have := mo_ne ⟨j, hj⟩ ⟨k, by omega⟩ hk
  apply this
  have h2 := congrArg (fun x : ByteArray => x.data.toList) h
  simpa [moB] using h2
theorem moB_of {m : Int} (m0 : 1 ≤ m) : (⟨(moL m).toArray⟩ : ByteArray) = moB (m.toNat - 1) := by
  unfold moB moL
  rw [show (m - 1).toNat = m.toNat - 1 by omega]
theorem read_month {m : Int} (m0 : 1 ≤ m) (m1 : m ≤ 12) (w : World) (V : Vars w) :
    Calls Tryd.prog 31 #[.string ⟨(moL m).toArray⟩] w fun e w' => e = .returned (.tuple #[.int .i64 m, .bool true]) ∧ w' = w := by
  rw [moB_of m0]
  exact monthOfCode (moB (m.toNat - 1)) (m.toNat - 1) (by omega) (fun k hk => moB_ne (by omega) hk) (fun _ => rfl) m true (.inl ⟨by omega, by omega, rfl⟩) w V
theorem read_clock {r : Int} (r0 : 0 ≤ r) (r1 : r < 86400) (w : World) :
    Calls Tryd.prog 32 #[.string ⟨(hmsL r).toArray⟩] w fun e w' => e = .returned (.tuple #[.int .i64 r, .bool true]) ∧ w' = w := by
  have h := clockCode_yes ⟨(hmsL r).toArray⟩ rfl rfl rfl (r / 3600) (r / 60 % 60) (r % 60) (num_D2 (by omega) (by omega)) (num_D2 (by omega) (by omega)) (num_D2 (by omega) (by omega)) (by omega) (by omega) (by omega) (by omega) (by omega) (by omega) w
  rwa [show r / 3600 * 3600 + r / 60 % 60 * 60 + r % 60 = r by omega] at h
theorem three {l : List UInt8} (h : l.length = 3) : ∃ a b c, l = [a, b, c] := by
  match l, h with
  | [a, b, c], _ => exact ⟨a, b, c, rfl⟩
theorem take3 (n : Int) : ((wkL n).take 3).length = 3 := by have := wkL_len n; simp; omega
theorem name3 (n : Int) : nameB n false = ⟨((wkL n).take 3).toArray⟩ := by
  unfold nameB
  simp only [Bool.false_eq_true, if_false]
  apply ba_ofD
  rw [extract_list]; simp
theorem ext_lit (l : List UInt8) (i j : Nat) (r : List UInt8) (h : (l.drop i).take (j - i) = r) : (⟨l.toArray⟩ : ByteArray).extract i j = ⟨r.toArray⟩ := ba_ofD (by rw [extract_list]; exact h)
set_option maxHeartbeats 1000000 in
theorem split_show (n r y d : Int) {m : Int} (m0 : 1 ≤ m) (m1 : m ≤ 12) (w : World) :
    Calls Tryd.prog 29 #[.string ⟨(showL n r y m d).toArray⟩] w fun e w' => e = .returned (.tuple #[partsV (nameB n false) ⟨(D2 d).toArray⟩ ⟨(moL m).toArray⟩ ⟨(D4 y).toArray⟩ ⟨(hmsL r).toArray⟩ false, .bool true]) ∧ Below w.heap.size w w' := by
  obtain ⟨a, b, c, e1⟩ := three (take3 n)
  obtain ⟨e, f, g, e2⟩ := three (moL_len m0 m1)
  have hl : showL n r y m d = [a, b, c, 44, 32, dg (d / 10), dg (d % 10), 32, e, f, g, 32, dg (y / 1000), dg (y / 100 % 10), dg (y / 10 % 10), dg (y % 10), 32, dg (r / 3600 / 10), dg (r / 3600 % 10), 58, dg (r / 60 % 60 / 10), dg (r / 60 % 60 % 10), 58, dg (r % 60 / 10), dg (r % 60 % 10), 32, 71, 77, 84] := by
    unfold showL
    rw [e1, e2]
    rfl
  rw [hl, name3, e1, e2]
  clear hl e1 e2
  have ec : hmsL r = [dg (r / 3600 / 10), dg (r / 3600 % 10), 58, dg (r / 60 % 60 / 10), dg (r / 60 % 60 % 10), 58, dg (r % 60 / 10), dg (r % 60 % 10)] := rfl
  have ed : D2 d = [dg (d / 10), dg (d % 10)] := rfl
  have ey : D4 y = [dg (y / 1000), dg (y / 100 % 10), dg (y / 10 % 10), dg (y % 10)] := rfl
  rw [ec, ed, ey]
  generalize dg (r / 3600 / 10) = h1
  generalize dg (r / 3600 % 10) = h2
  generalize dg (r / 60 % 60 / 10) = i1
  generalize dg (r / 60 % 60 % 10) = i2
  generalize dg (r % 60 / 10) = s1
  generalize dg (r % 60 % 10) = s2
  generalize dg (d / 10) = d1
  generalize dg (d % 10) = d2
  generalize dg (y / 1000) = y1
  generalize dg (y / 100 % 10) = y2
  generalize dg (y / 10 % 10) = y3
  generalize dg (y % 10) = y4
  clear ec ed ey
  refine split29 _ rfl _ _ _ _ _ _ _ w (fun W _ => ?_)
  have h := splitShown_yes ⟨[a, b, c, 44, 32, d1, d2, 32, e, f, g, 32, y1, y2, y3, y4, 32, h1, h2, 58, i1, i2, 58, s1, s2, 32, 71, 77, 84].toArray⟩ rfl (ext_lit _ 3 5 [44, 32] rfl) rfl rfl rfl (ext_lit _ 25 29 [32, 71, 77, 84] rfl) W
  rw [ext_lit _ 0 3 [a, b, c] rfl, ext_lit _ 5 7 [d1, d2] rfl, ext_lit _ 8 11 [e, f, g] rfl, ext_lit _ 12 16 [y1, y2, y3, y4] rfl, ext_lit _ 17 25 [h1, h2, 58, i1, i2, 58, s1, s2] rfl] at h
  exact h
theorem parse_show (t y m d : Int) (hv : Valid y m d) (hd : dayOf y m d = t / 86400) (w : World) (V : Vars w) :
    Calls Tryd.prog 17 #[.string ⟨(showL (t / 86400) (t % 86400) y m d).toArray⟩] w fun e w' => e = .returned (.tuple #[.int .i64 t, .int .i64 0]) ∧ Below w.heap.size w w' := by
  have dL := mlen_in y hv.m0 hv.m1
  have := hv.d0; have := hv.d1; have := hv.y0; have := hv.y1
  refine parse_end _ _ _ _ _ _ false y m d (t % 86400) ⟨num_D4 (by omega) (by omega), fun w V => read_month hv.m0 hv.m1 w V, num_D2 (by omega) (by omega), fun w => read_clock (by omega) (by omega) w⟩ hv (by omega) (by omega) t 0 (.inl ⟨?_, ?_, rfl⟩) w V (split_show (t / 86400) (t % 86400) y d hv.m0 hv.m1 w)
  · rw [hd]
  · rw [hd]; omega
end Go.Proofs.YtikokjclhpgocabDoor
