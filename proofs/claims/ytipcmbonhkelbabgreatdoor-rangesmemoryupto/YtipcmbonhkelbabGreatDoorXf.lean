/- The contract of the document's forms. What Parse says of the texts of the second and third form. What Parse answers to any text: the second of which it is a form, or the error. What Parse answers to any text of each length. What Parse answers to any text. -/
import Derived.Test.YtipcmbonhkelbabGreatDoorXe
import Derived.Deep.RegionHeld3
namespace Go.Proofs.YtipcmbonhkelbabGreatDoor
open Go.RowKit
def dashL (n r y m d : Int) : List UInt8 := wkL n ++ [44, 32] ++ D2 d ++ [45] ++ moL m ++ [45] ++ D2 (y % 100) ++ [32] ++ hmsL r ++ [32, 71, 77, 84]
def padL (d : Int) : List UInt8 := if d < 10 then [32, dg d] else D2 d
def blankL (n r y m d : Int) : List UInt8 := (wkL n).take 3 ++ [32] ++ moL m ++ [32] ++ padL d ++ [32] ++ hmsL r ++ [32] ++ D4 y
def dash2L (n r y m d : Int) : List UInt8 := if y < 2070 then dashL n r y m d else []
/-- a block of three texts -/
def Arr3 (b : Nat) (x y z : ByteArray) (W : World) : Prop := W.cell? ⟨b, 0, none⟩ = some (.string x) ∧ W.cell? ⟨b, 1, none⟩ = some (.string y) ∧ W.cell? ⟨b, 2, none⟩ = some (.string z) ∧ W.frozen? ⟨b, 0, none⟩ = false ∧ W.frozen? ⟨b, 1, none⟩ = false ∧ W.frozen? ⟨b, 2, none⟩ = false ∧ b < W.heap.size
theorem arr_below {b : Nat} {x y z : ByteArray} {W W' : World} (h : Arr3 b x y z W) (hb : Below W.heap.size W W') : Arr3 b x y z W' := by
  obtain ⟨h1, h2, h3, h4, h5, h6, h7⟩ := h
  have c : ∀ o, W'.cell? ⟨b, o, none⟩ = W.cell? ⟨b, o, none⟩ := fun o => hb.cell (p := ⟨b, o, none⟩) h7
  have f : ∀ o, W'.frozen? ⟨b, o, none⟩ = W.frozen? ⟨b, o, none⟩ := fun o => hb.frozen (p := ⟨b, o, none⟩) h7
  exact ⟨by rw [c]; exact h1, by rw [c]; exact h2, by rw [c]; exact h3, by rw [f]; exact h4, by rw [f]; exact h5, by rw [f]; exact h6, Nat.lt_of_lt_of_le h7 hb.size⟩
/-- the two arrays of the call: the one of the result, empty, and its own -/
def St (w0 : World) (g : Nat) (a b c : ByteArray) (W : World) : Prop := Arr3 w0.heap.size ⟨#[]⟩ ⟨#[]⟩ ⟨#[]⟩ W ∧ Arr3 g a b c W ∧ Below w0.heap.size w0 W ∧ w0.heap.size < g
theorem st_below {w0 W W' : World} {g : Nat} {a b c : ByteArray} (h : St w0 g a b c W) (hb : Below W.heap.size W W') : St w0 g a b c W' :=
  ⟨arr_below h.1 hb, arr_below h.2.1 hb, h.2.2.1.trans (hb.mono h.2.2.1.size), h.2.2.2⟩
theorem st_drew {w0 W : World} {g : Nat} {a b c : ByteArray} (h : St w0 g a b c W) : St w0 g a b c W.drew := st_below h ((Below.refl _ _).drew)
theorem arr_other {b b' o : Nat} {x y z : ByteArray} {v : Value} {W : World} (h : Arr3 b x y z W) (hn : b ≠ b') : Arr3 b x y z (W.setCell ⟨b', o, none⟩ v) := by
  obtain ⟨h1, h2, h3, h4, h5, h6, h7⟩ := h
  have c : ∀ i, (W.setCell ⟨b', o, none⟩ v).cell? ⟨b, i, none⟩ = W.cell? ⟨b, i, none⟩ := fun i => World.cell?_setCell_other _ _ _ _ (by first | (simp; done) | omega)
  refine ⟨by rw [c]; exact h1, by rw [c]; exact h2, by rw [c]; exact h3, by simpa using h4, by simpa using h5, by simpa using h6, by simpa using h7⟩
theorem arr_set0 {b : Nat} {x y z : ByteArray} {W : World} (h : Arr3 b x y z W) (s : ByteArray) : Arr3 b s y z (W.setCell ⟨b, 0, none⟩ (.string s)) := by
  obtain ⟨h1, h2, h3, h4, h5, h6, h7⟩ := h
  refine ⟨World.cell?_setCell_same _ _ _ h1, ?_, ?_, by simpa using h4, by simpa using h5, by simpa using h6, by simpa using h7⟩
  · rw [World.cell?_setCell_other _ _ _ _ (by simp)]; exact h2
  · rw [World.cell?_setCell_other _ _ _ _ (by simp)]; exact h3
theorem arr_set1 {b : Nat} {x y z : ByteArray} {W : World} (h : Arr3 b x y z W) (s : ByteArray) : Arr3 b x s z (W.setCell ⟨b, 1, none⟩ (.string s)) := by
  obtain ⟨h1, h2, h3, h4, h5, h6, h7⟩ := h
  refine ⟨?_, World.cell?_setCell_same _ _ _ h2, ?_, by simpa using h4, by simpa using h5, by simpa using h6, by simpa using h7⟩
  · rw [World.cell?_setCell_other _ _ _ _ (by simp)]; exact h1
  · rw [World.cell?_setCell_other _ _ _ _ (by simp)]; exact h3
theorem arr_set2 {b : Nat} {x y z : ByteArray} {W : World} (h : Arr3 b x y z W) (s : ByteArray) : Arr3 b x y s (W.setCell ⟨b, 2, none⟩ (.string s)) := by
  obtain ⟨h1, h2, h3, h4, h5, h6, h7⟩ := h
  refine ⟨?_, ?_, World.cell?_setCell_same _ _ _ h3, by simpa using h4, by simpa using h5, by simpa using h6, by simpa using h7⟩
  · rw [World.cell?_setCell_other _ _ _ _ (by simp)]; exact h1
  · rw [World.cell?_setCell_other _ _ _ _ (by simp)]; exact h2
theorem st_set0 {w0 W : World} {g : Nat} {a b c : ByteArray} (h : St w0 g a b c W) (s : ByteArray) : St w0 g s b c (W.setCell ⟨g, 0, none⟩ (.string s)) :=
  ⟨arr_other h.1 (Nat.ne_of_lt h.2.2.2), arr_set0 h.2.1 s, h.2.2.1.setCell (Nat.le_of_lt h.2.2.2) _, h.2.2.2⟩
theorem st_set1 {w0 W : World} {g : Nat} {a b c : ByteArray} (h : St w0 g a b c W) (s : ByteArray) : St w0 g a s c (W.setCell ⟨g, 1, none⟩ (.string s)) :=
  ⟨arr_other h.1 (Nat.ne_of_lt h.2.2.2), arr_set1 h.2.1 s, h.2.2.1.setCell (Nat.le_of_lt h.2.2.2) _, h.2.2.2⟩
theorem st_set2 {w0 W : World} {g : Nat} {a b c : ByteArray} (h : St w0 g a b c W) (s : ByteArray) : St w0 g a b s (W.setCell ⟨g, 2, none⟩ (.string s)) :=
  ⟨arr_other h.1 (Nat.ne_of_lt h.2.2.2), arr_set2 h.2.1 s, h.2.2.1.setCell (Nat.le_of_lt h.2.2.2) _, h.2.2.2⟩
theorem st_out {w0 W : World} {g : Nat} {a b c : ByteArray} (h : St w0 g a b c W) : Arr3 w0.heap.size a b c (((W.setCell ⟨w0.heap.size, 0, none⟩ (.string a)).setCell ⟨w0.heap.size, 1, none⟩ (.string b)).setCell ⟨w0.heap.size, 2, none⟩ (.string c)) ∧ Below w0.heap.size w0 (((W.setCell ⟨w0.heap.size, 0, none⟩ (.string a)).setCell ⟨w0.heap.size, 1, none⟩ (.string b)).setCell ⟨w0.heap.size, 2, none⟩ (.string c)) :=
  ⟨arr_set2 (arr_set1 (arr_set0 h.1 a) b) c, ((h.2.2.1.setCell (Nat.le_refl _) _).setCell (Nat.le_refl _) _).setCell (Nat.le_refl _) _⟩
theorem st_call {f : FuncId} {args : Array Value} {v : Value} (h : ∀ W : World, Calls Tryz.prog f args W fun e w' => e = .returned v ∧ Below W.heap.size W w') {w0 W : World} {g : Nat} {a b c : ByteArray} (hs : St w0 g a b c W) :
    Calls Tryz.prog f args W fun e w' => e = .returned v ∧ Hid (St w0 g a b c w') ∧ w'.cell? ⟨g, 0, none⟩ = some (.string a) ∧ w'.cell? ⟨g, 1, none⟩ = some (.string b) ∧ w'.cell? ⟨g, 2, none⟩ = some (.string c) ∧ w'.frozen? ⟨g, 0, none⟩ = false ∧ w'.frozen? ⟨g, 1, none⟩ = false ∧ w'.frozen? ⟨g, 2, none⟩ = false := by
  refine (h W).mono ?_
  rintro e w' ⟨rfl, hb⟩
  have s := st_below hs hb
  obtain ⟨h1, h2, h3, h4, h5, h6, h7⟩ := s.2.1
  exact ⟨rfl, s, h1, h2, h3, h4, h5, h6⟩
theorem same_below {f : FuncId} {args : Array Value} {v : Value} (h : ∀ W : World, Calls Tryz.prog f args W fun e w' => e = .returned v ∧ w' = W) : ∀ W : World, Calls Tryz.prog f args W fun e w' => e = .returned v ∧ Below W.heap.size W w' := fun W => (h W).mono fun e w' ⟨he, hw⟩ => ⟨he, by rw [hw]; exact Below.refl _ _⟩
theorem padShow {d : Int} (d0 : 1 ≤ d) (d1 : d ≤ 31) (w : World) : Calls Tryz.prog 28 #[.int .i64 d] w fun e w' => e = .returned (.string ⟨(if d < 10 then [dg d] else D2 d).toArray⟩) ∧ Below w.heap.size w w' := by
  have h := showNum d.toNat (by omega) w
  rw [Int.toNat_of_nonneg (by omega)] at h
  by_cases hd : d < 10
  · rw [dec_small1 (by omega), Int.toNat_of_nonneg (by omega)] at h
    rw [if_pos hd]
    exact h
  · rw [dec_twoD (by omega) (by omega), Int.toNat_of_nonneg (by omega)] at h
    rw [if_neg hd]
    exact h
set_option maxHeartbeats 4000000 in
theorem formsRef (t y m d : Int) (t0 : 0 ≤ t) (t1 : t ≤ 253402300799) (hv : Valid y m d) (hd : dayOf y m d = t / 86400) (w : World) :
    Calls Tryz.prog 72 #[.int .i64 t] w fun e w' => e = .returned (.agg #[.string ⟨(showL (t / 86400) (t % 86400) y m d).toArray⟩, .string ⟨(dash2L (t / 86400) (t % 86400) y m d).toArray⟩, .string ⟨(blankL (t / 86400) (t % 86400) y m d).toArray⟩]) ∧ Below w.heap.size w w' := by
  have cC := hide (fun w => civilRef y m d hv w)
  rw [hd] at cC
  have n0 : 0 ≤ t / 86400 := by omega
  have n1 : t / 86400 ≤ 2932896 := by omega
  have r0 : 0 ≤ t % 86400 := by omega
  have r1 : t % 86400 < 86400 := by omega
  go_enter Tryz.func72, Tryz.ntmps72
  go_wp2_with fail
  refine (cC.out _).mono ?_
  rintro e w1 ⟨rfl, b1⟩
  clear cC hd
  replace b1 := hide b1
  have Hn : ∃ n, Hid (t / 86400 = n) := ⟨_, rfl⟩
  have Hr : ∃ n, Hid (t % 86400 = n) := ⟨_, rfl⟩
  obtain ⟨n, Hn⟩ := Hn
  obtain ⟨r, Hr⟩ := Hr
  rw [Hn.out] at n0 n1 ⊢
  obtain ⟨y0, y1, m0, m1, d0, d1⟩ := hv
  have dL := mlen_in y m0 m1
  obtain ⟨h2, hh2⟩ : ∃ x : ByteArray, x = ⟨(D2 (r / 3600)).toArray⟩ := ⟨_, rfl⟩
  obtain ⟨i2, hi2⟩ : ∃ x : ByteArray, x = ⟨(D2 (r / 60 % 60)).toArray⟩ := ⟨_, rfl⟩
  obtain ⟨s2, hs2⟩ : ∃ x : ByteArray, x = ⟨(D2 (r % 60)).toArray⟩ := ⟨_, rfl⟩
  have r0' : 0 ≤ r := by rw [← Hr.out]; omega
  have r1' : r < 86400 := by rw [← Hr.out]; omega
  have cH := hide (twoRefI (r / 3600) (by omega) (by omega))
  have cM := hide (twoRefI (r / 60 % 60) (by omega) (by omega))
  have cS := hide (twoRefI (r % 60) (by omega) (by omega))
  have zh : h2.size = 2 := by rw [hh2]; rfl
  have zi : i2.size = 2 := by rw [hi2]; rfl
  have zs : s2.size = 2 := by rw [hs2]; rfl
  rw [← hh2] at cH
  rw [← hi2] at cM
  rw [← hs2] at cS
  have CL : Hid (((((h2 ++ ⟨#[58]⟩) ++ i2) ++ ⟨#[58]⟩) ++ s2 : ByteArray) = ⟨(hmsL r).toArray⟩) := by
    unfold Hid
    apply ba_ofD
    rw [hh2, hi2, hs2]
    simp only [app_list, hmsL]
  clear hh2 hi2 hs2
  have es : r % 60 = t % 60 := by rw [← Hr.out]; omega
  rw [es] at cS
  rw [← Hr.out] at cH cM
  clear es
  go_wp2_with fail
  refine (cH.out _).mono ?_
  rintro e w2 ⟨rfl, b2⟩
  replace b2 := hide b2
  go_wp2_with fail
  refine (cM.out _).mono ?_
  rintro e w3 ⟨rfl, b3⟩
  replace b3 := hide b3
  go_wp2_with fail
  refine (cS.out _).mono ?_
  rintro e w4 ⟨rfl, b4⟩
  replace b4 := hide b4
  go_wp2_with fail
  have S5 : Hid (St w w4.heap.size ⟨#[]⟩ ⟨#[]⟩ ⟨#[]⟩ (w4.alloc (.cells #[.string ⟨#[]⟩, .string ⟨#[]⟩, .string ⟨#[]⟩] 101))) := by
    have z1 := b1.out.size
    have z2 := b2.out.size
    have z3 := b3.out.size
    have z4 := b4.out.size
    have ba : Below w.heap.size w (w.alloc (.cells #[.string ⟨#[]⟩, .string ⟨#[]⟩, .string ⟨#[]⟩] 101)) := (Below.refl _ _).alloc (Nat.le_refl _) _
    have a0 : Arr3 w.heap.size ⟨#[]⟩ ⟨#[]⟩ ⟨#[]⟩ (w.alloc (.cells #[.string ⟨#[]⟩, .string ⟨#[]⟩, .string ⟨#[]⟩] 101)) := ⟨by simp, by simp, by simp, by simp, by simp, by simp, by simp⟩
    have a4 := arr_below (arr_below (arr_below (arr_below a0 b1.out) b2.out) b3.out) b4.out
    have hz : (w.alloc (.cells #[.string ⟨#[]⟩, .string ⟨#[]⟩, .string ⟨#[]⟩] 101)).heap.size = w.heap.size + 1 := by simp
    have bb : Below w.heap.size w w4 := (((ba.trans (b1.out.mono (by omega))).trans (b2.out.mono (by omega))).trans (b3.out.mono (by omega))).trans (b4.out.mono (by omega))
    refine ⟨arr_below a4 ((Below.refl _ _).alloc (Nat.le_refl _) _), ⟨by simp, by simp, by simp, by simp, by simp, by simp, by simp⟩, bb.alloc (by omega) _, by omega⟩
  clear b1 b2 b3 b4
  generalize (w4.alloc (.cells #[.string ⟨#[]⟩, .string ⟨#[]⟩, .string ⟨#[]⟩] 101)) = w5 at S5 ⊢
  generalize w4.heap.size = g at S5 ⊢
  clear cH cM cS
  have CZ : (h2 ++ ⟨#[58]⟩ ++ i2 ++ ⟨#[58]⟩ ++ s2 : ByteArray).size = 8 := by rw [CL.out]; rfl
  generalize (h2 ++ ⟨#[58]⟩ ++ i2 ++ ⟨#[58]⟩ ++ s2 : ByteArray) = ck at CL CZ ⊢
  have lw := wkL_len n
  have lm := moL_len m0 m1
  obtain ⟨wk, hwk⟩ : ∃ x : ByteArray, x = ⟨(wkL n).toArray⟩ := ⟨_, rfl⟩
  obtain ⟨mo, hmo⟩ : ∃ x : ByteArray, x = ⟨(moL m).toArray⟩ := ⟨_, rfl⟩
  obtain ⟨dd, hdd⟩ : ∃ x : ByteArray, x = ⟨(D2 d).toArray⟩ := ⟨_, rfl⟩
  obtain ⟨yy, hyy⟩ : ∃ x : ByteArray, x = ⟨(D4 y).toArray⟩ := ⟨_, rfl⟩
  obtain ⟨yc, hyc⟩ : ∃ x : ByteArray, x = ⟨(D2 (y % 100)).toArray⟩ := ⟨_, rfl⟩
  obtain ⟨sd, hsd⟩ : ∃ x : ByteArray, x = ⟨(if d < 10 then [dg d] else D2 d).toArray⟩ := ⟨_, rfl⟩
  have cW := hide (fun W => weekRef n n0 n1 W)
  have cD := hide (twoRefI d (by omega) (by omega))
  have cO := hide (same_below (fun W => monthRef m m0 m1 W))
  have cY := hide (fourRefI y (by omega) (by omega))
  have cC := hide (twoRefI (y % 100) (by omega) (by omega))
  have cP := hide (fun W => padShow d0 (show d ≤ 31 by omega) W)
  have zw : 3 ≤ wk.size := by rw [hwk]; show 3 ≤ (wkL n).length; omega
  have zw9 : wk.size ≤ 9 := by rw [hwk]; exact lw.2
  have zm : mo.size = 3 := by rw [hmo]; exact lm
  have zd : dd.size = 2 := by rw [hdd]; rfl
  have zy : yy.size = 4 := by rw [hyy]; rfl
  have zc : yc.size = 2 := by rw [hyc]; rfl
  have zp1 : Hid (d < 10 → sd.size = 1) := by intro hd; rw [hsd]; show (if d < 10 then [dg d] else D2 d).length = 1; rw [if_pos hd]; rfl
  have zp2 : Hid (10 ≤ d → sd.size = 2) := by intro hd; rw [hsd]; show (if d < 10 then [dg d] else D2 d).length = 2; rw [if_neg (by omega)]; rfl
  have z3 : (wk.extract 0 3).size = 3 := by rw [ByteArray.size_extract]; omega
  have g0 : (3 : Int) ≤ (wk.size : Int) := by omega
  have HA : Hid (((((((((wk.extract 0 3 ++ ⟨#[44, 32]⟩) ++ dd) ++ ⟨#[32]⟩) ++ mo) ++ ⟨#[32]⟩) ++ yy) ++ ⟨#[32]⟩) ++ ck) ++ ⟨#[32, 71, 77, 84]⟩ = (⟨(showL n r y m d).toArray⟩ : ByteArray)) := by
    unfold Hid
    apply ba_ofD
    rw [hwk, hmo, hdd, hyy, CL.out]
    simp only [app_list, extract_list, showL]
    simp
  have HB : Hid ((((((((wk ++ ⟨#[44, 32]⟩) ++ dd) ++ ⟨#[45]⟩) ++ mo) ++ ⟨#[45]⟩) ++ yc) ++ ⟨#[32]⟩) ++ ck ++ ⟨#[32, 71, 77, 84]⟩ = (⟨(dashL n r y m d).toArray⟩ : ByteArray)) := by
    unfold Hid
    apply ba_ofD
    rw [hwk, hmo, hdd, hyc, CL.out]
    simp only [app_list, dashL]
  have HC1 : d < 10 → Hid ((((((((wk.extract 0 3 ++ ⟨#[32]⟩) ++ mo) ++ ⟨#[32]⟩) ++ (⟨#[32]⟩ ++ sd)) ++ ⟨#[32]⟩) ++ ck) ++ ⟨#[32]⟩) ++ yy = (⟨(blankL n r y m d).toArray⟩ : ByteArray)) := by
    intro hd
    unfold Hid
    apply ba_ofD
    rw [hwk, hmo, hsd, hyy, CL.out, if_pos hd]
    simp only [app_list, extract_list, blankL, padL, if_pos hd]
    simp
  have HC2 : 10 ≤ d → Hid ((((((((wk.extract 0 3 ++ ⟨#[32]⟩) ++ mo) ++ ⟨#[32]⟩) ++ sd) ++ ⟨#[32]⟩) ++ ck) ++ ⟨#[32]⟩) ++ yy = (⟨(blankL n r y m d).toArray⟩ : ByteArray)) := by
    intro hd
    unfold Hid
    apply ba_ofD
    rw [hwk, hmo, hsd, hyy, CL.out, if_neg (by omega)]
    simp only [app_list, extract_list, blankL, padL, if_neg (show ¬ d < 10 by omega)]
    simp
  replace HC1 := hide HC1
  replace HC2 := hide HC2
  rw [← hwk] at cW
  rw [← hmo] at cO
  rw [← hdd] at cD
  rw [← hyy] at cY
  rw [← hyc] at cC
  rw [← hsd] at cP
  clear hwk hmo hdd hyy hyc hsd lw lm CL
  go_region_held3 (fun _ => True) (trivial)
    (first
      | (go_at_call 93; refine (st_call cW.out (st_drew S5.out)).mono ?_; rintro e' w6 ⟨rfl, S6, k1, k2, k3, f1, f2, f3⟩)
      | (go_at_call_of 92 (d); refine (st_call cD.out S6.out).mono ?_; rintro e' w7 ⟨rfl, S7, l1, l2, l3, o1, o2, o3⟩)
      | (go_at_call 70; refine (st_call cO.out S7.out).mono ?_; rintro e' w8 ⟨rfl, S8, p1, p2, p3, u1, u2, u3⟩)
      | (go_at_call_of 92 (y); refine (st_call cY.out S8.out).mono ?_; rintro e' w9 ⟨rfl, S9, v1, v2, v3, x1, x2, x3⟩))
  rw [HA.out]
  have HR : Hid (Ending.returned (.agg #[.string ⟨(showL n r y m d).toArray⟩, .string ⟨(dash2L n r y m d).toArray⟩, .string ⟨(blankL n r y m d).toArray⟩]) = Ending.returned (.agg #[.string ⟨(showL (t / 86400) (t % 86400) y m d).toArray⟩, .string ⟨(dash2L (t / 86400) (t % 86400) y m d).toArray⟩, .string ⟨(blankL (t / 86400) (t % 86400) y m d).toArray⟩])) := by
    unfold Hid; rw [Hn.out, Hr.out]
  generalize (⟨(showL n r y m d).toArray⟩ : ByteArray) = A at HR HA ⊢
  have S10 := hide (st_set0 S9.out A)
  clear k1 k2 k3 f1 f2 f3 l1 l2 l3 o1 o2 o3 p1 p2 p3 u1 u2 u3 v1 v2 v3 x1 x2 x3 S5 S6 S7 S8 S9
  generalize w9.setCell ⟨g, 0, none⟩ (.string A) = w10 at S10 ⊢
  by_cases hy : y < 2070
  · have ed : dash2L n r y m d = dashL n r y m d := by unfold dash2L; rw [if_pos hy]
    rw [ed] at HR
    go_wp2_with fail
    refine (st_call cW.out S10.out).mono ?_
    rintro e' w11 ⟨rfl, S11, k1, k2, k3, f1, f2, f3⟩
    clear k1 k2 k3 f1 f2 f3 S10
    go_wp2_with fail
    refine (st_call cD.out S11.out).mono ?_
    rintro e' w12 ⟨rfl, S12, k1, k2, k3, f1, f2, f3⟩
    clear k1 k2 k3 f1 f2 f3 S11
    go_wp2_with fail
    refine (st_call cO.out S12.out).mono ?_
    rintro e' w13 ⟨rfl, S13, k1, k2, k3, f1, f2, f3⟩
    clear k1 k2 k3 f1 f2 f3 S12
    go_wp2_with fail
    refine (st_call cC.out S13.out).mono ?_
    rintro e' w14 ⟨rfl, S14, k1, k2, k3, f1, f2, f3⟩
    clear S13
    go_wp2_with fail
    rw [HB.out]
    generalize (⟨(dashL n r y m d).toArray⟩ : ByteArray) = E at HR HB ⊢
    clear k1 k2 k3 f1 f2 f3
    refine (st_call cP.out (st_set1 S14.out E)).mono ?_
    rintro e' w15 ⟨rfl, S15, k1, k2, k3, f1, f2, f3⟩
    clear k1 k2 k3 f1 f2 f3
    by_cases hd : d < 10
    · have zsd := zp1.out hd
      go_wp2_with fail
      go_region_held3 (fun _ => True) (trivial)
        (first
          | (go_at_call 93; refine (st_call cW.out (st_drew S15.out)).mono ?_; rintro e' w16 ⟨rfl, S16, k1, k2, k3, f1, f2, f3⟩)
          | (go_at_call 70; refine (st_call cO.out S16.out).mono ?_; rintro e' w17 ⟨rfl, S17, l1, l2, l3, o1, o2, o3⟩)
          | (go_at_call 92; refine (st_call cY.out S17.out).mono ?_; rintro e' w18 ⟨rfl, S18, v1, v2, v3, x1, x2, x3⟩))
      have EC := HC1.out hd
      rw [EC.out]
      generalize (⟨(blankL n r y m d).toArray⟩ : ByteArray) = C at HR EC ⊢
      have S19 := hide (st_set2 S18.out C)
      clear k1 k2 k3 f1 f2 f3 l1 l2 l3 o1 o2 o3 v1 v2 v3 x1 x2 x3 S15 S16 S17 S18
      generalize w18.setCell ⟨g, 2, none⟩ (.string C) = w19 at S19 ⊢
      obtain ⟨k1, k2, k3, f1, f2, f3, k4⟩ := S19.out.2.1
      obtain ⟨l1, l2, l3, o1, o2, o3, l4⟩ := S19.out.1
      go_wp2_with fail
      obtain ⟨⟨q1, q2, q3, _⟩, qb⟩ := st_out S19.out
      exact bodyPost_ret (v := .agg #[.string A, .string E, .string C]) (by simp [results, Tryz.results72, go_sem, q1, q2, q3]) rfl ⟨HR.out, qb⟩
    · have hd' : 10 ≤ d := by omega
      have zsd := zp2.out hd'
      go_wp2_with fail
      go_region_held3 (fun _ => True) (trivial)
        (first
          | (go_at_call 93; refine (st_call cW.out (st_drew S15.out)).mono ?_; rintro e' w16 ⟨rfl, S16, k1, k2, k3, f1, f2, f3⟩)
          | (go_at_call 70; refine (st_call cO.out S16.out).mono ?_; rintro e' w17 ⟨rfl, S17, l1, l2, l3, o1, o2, o3⟩)
          | (go_at_call 92; refine (st_call cY.out S17.out).mono ?_; rintro e' w18 ⟨rfl, S18, v1, v2, v3, x1, x2, x3⟩))
      have EC := HC2.out hd'
      rw [EC.out]
      generalize (⟨(blankL n r y m d).toArray⟩ : ByteArray) = C at HR EC ⊢
      have S19 := hide (st_set2 S18.out C)
      clear k1 k2 k3 f1 f2 f3 l1 l2 l3 o1 o2 o3 v1 v2 v3 x1 x2 x3 S15 S16 S17 S18
      generalize w18.setCell ⟨g, 2, none⟩ (.string C) = w19 at S19 ⊢
      obtain ⟨k1, k2, k3, f1, f2, f3, k4⟩ := S19.out.2.1
      obtain ⟨l1, l2, l3, o1, o2, o3, l4⟩ := S19.out.1
      go_wp2_with fail
      obtain ⟨⟨q1, q2, q3, _⟩, qb⟩ := st_out S19.out
      exact bodyPost_ret (v := .agg #[.string A, .string E, .string C]) (by simp [results, Tryz.results72, go_sem, q1, q2, q3]) rfl ⟨HR.out, qb⟩
  · have ed : dash2L n r y m d = [] := by unfold dash2L; rw [if_neg hy]
    rw [ed] at HR
    have hy' : 2070 ≤ y := by omega
    go_wp2_with fail
    refine (st_call cP.out S10.out).mono ?_
    rintro e' w15 ⟨rfl, S15, k1, k2, k3, f1, f2, f3⟩
    clear k1 k2 k3 f1 f2 f3
    by_cases hd : d < 10
    · have zsd := zp1.out hd
      go_wp2_with fail
      go_region_held3 (fun _ => True) (trivial)
        (first
          | (go_at_call 93; refine (st_call cW.out (st_drew S15.out)).mono ?_; rintro e' w16 ⟨rfl, S16, k1, k2, k3, f1, f2, f3⟩)
          | (go_at_call 70; refine (st_call cO.out S16.out).mono ?_; rintro e' w17 ⟨rfl, S17, l1, l2, l3, o1, o2, o3⟩)
          | (go_at_call 92; refine (st_call cY.out S17.out).mono ?_; rintro e' w18 ⟨rfl, S18, v1, v2, v3, x1, x2, x3⟩))
      have EC := HC1.out hd
      rw [EC.out]
      generalize (⟨(blankL n r y m d).toArray⟩ : ByteArray) = C at HR EC ⊢
      have S19 := hide (st_set2 S18.out C)
      clear k1 k2 k3 f1 f2 f3 l1 l2 l3 o1 o2 o3 v1 v2 v3 x1 x2 x3 S15 S16 S17 S18
      generalize w18.setCell ⟨g, 2, none⟩ (.string C) = w19 at S19 ⊢
      obtain ⟨k1, k2, k3, f1, f2, f3, k4⟩ := S19.out.2.1
      obtain ⟨l1, l2, l3, o1, o2, o3, l4⟩ := S19.out.1
      go_wp2_with fail
      obtain ⟨⟨q1, q2, q3, _⟩, qb⟩ := st_out S19.out
      exact bodyPost_ret (v := .agg #[.string A, .string ⟨#[]⟩, .string C]) (by simp [results, Tryz.results72, go_sem, q1, q2, q3]) rfl ⟨HR.out, qb⟩
    · have hd' : 10 ≤ d := by omega
      have zsd := zp2.out hd'
      go_wp2_with fail
      go_region_held3 (fun _ => True) (trivial)
        (first
          | (go_at_call 93; refine (st_call cW.out (st_drew S15.out)).mono ?_; rintro e' w16 ⟨rfl, S16, k1, k2, k3, f1, f2, f3⟩)
          | (go_at_call 70; refine (st_call cO.out S16.out).mono ?_; rintro e' w17 ⟨rfl, S17, l1, l2, l3, o1, o2, o3⟩)
          | (go_at_call 92; refine (st_call cY.out S17.out).mono ?_; rintro e' w18 ⟨rfl, S18, v1, v2, v3, x1, x2, x3⟩))
      have EC := HC2.out hd'
      rw [EC.out]
      generalize (⟨(blankL n r y m d).toArray⟩ : ByteArray) = C at HR EC ⊢
      have S19 := hide (st_set2 S18.out C)
      clear k1 k2 k3 f1 f2 f3 l1 l2 l3 o1 o2 o3 v1 v2 v3 x1 x2 x3 S15 S16 S17 S18
      generalize w18.setCell ⟨g, 2, none⟩ (.string C) = w19 at S19 ⊢
      obtain ⟨k1, k2, k3, f1, f2, f3, k4⟩ := S19.out.2.1
      obtain ⟨l1, l2, l3, o1, o2, o3, l4⟩ := S19.out.1
      go_wp2_with fail
      obtain ⟨⟨q1, q2, q3, _⟩, qb⟩ := st_out S19.out
      exact bodyPost_ret (v := .agg #[.string A, .string ⟨#[]⟩, .string C]) (by simp [results, Tryz.results72, go_sem, q1, q2, q3]) rfl ⟨HR.out, qb⟩
end Go.Proofs.YtipcmbonhkelbabGreatDoor
namespace Go.Proofs.YtipcmbonhkelbabGreatDoor
open Go.RowKit
theorem blank_explicit (n r y d : Int) {m : Int} (m0 : 1 ≤ m) (m1 : m ≤ 12) : ∃ a b c e f g p0 p1, (wkL n).take 3 = [a, b, c] ∧ moL m = [e, f, g] ∧ padL d = [p0, p1] ∧
    blankL n r y m d = [a, b, c, 32, e, f, g, 32, p0, p1, 32, dg (r / 3600 / 10), dg (r / 3600 % 10), 58, dg (r / 60 % 60 / 10), dg (r / 60 % 60 % 10), 58, dg (r % 60 / 10), dg (r % 60 % 10), 32, dg (y / 1000), dg (y / 100 % 10), dg (y / 10 % 10), dg (y % 10)] := by
  obtain ⟨a, b, c, e1⟩ := three (take3 n)
  obtain ⟨e, f, g, e2⟩ := three (moL_len m0 m1)
  have hp : (padL d).length = 2 := by unfold padL; split <;> rfl
  obtain ⟨p0, p1, e3⟩ : ∃ p0 p1, padL d = [p0, p1] := by
    match h : padL d, hp with
    | [p0, p1], _ => exact ⟨p0, p1, rfl⟩
  refine ⟨a, b, c, e, f, g, p0, p1, e1, e2, e3, ?_⟩
  unfold blankL
  rw [e1, e2, e3]
  rfl
def ddL (d : Int) : List UInt8 := if d < 10 then [dg d] else D2 d
set_option maxHeartbeats 1000000 in
theorem split_blank (n r y d : Int) {m : Int} (m0 : 1 ≤ m) (m1 : m ≤ 12) (d0 : 1 ≤ d) (d1 : d ≤ 31) (w : World) :
    Calls Tryz.prog 60 #[.string ⟨(blankL n r y m d).toArray⟩] w fun e w' => e = .returned (.tuple #[partsV (nameB n false) ⟨(ddL d).toArray⟩ ⟨(moL m).toArray⟩ ⟨(D4 y).toArray⟩ ⟨(hmsL r).toArray⟩ false, .bool true]) ∧ Below w.heap.size w w' := by
  obtain ⟨a, b, c, e, f, g, p0, p1, e1, e2, e3, hl⟩ := blank_explicit n r y d m0 m1
  have hd : ((p0.toNat : Int) = 32 ∧ ddL d = [p1]) ∨ (¬ (p0.toNat : Int) = 32 ∧ ¬ (p0.toNat : Int) = 48 ∧ ddL d = [p0, p1]) := by
    unfold padL at e3
    unfold ddL
    by_cases h : d < 10
    · rw [if_pos h] at e3 ⊢
      cases e3
      exact .inl ⟨rfl, rfl⟩
    · rw [if_neg h] at e3 ⊢
      have v := dg_val (a := d / 10) (by omega) (by omega)
      cases e3
      exact .inr ⟨by omega, by omega, rfl⟩
  rw [hl, name3, e1, e2]
  clear hl e1 e2 e3
  have ec : hmsL r = [dg (r / 3600 / 10), dg (r / 3600 % 10), 58, dg (r / 60 % 60 / 10), dg (r / 60 % 60 % 10), 58, dg (r % 60 / 10), dg (r % 60 % 10)] := rfl
  have ey : D4 y = [dg (y / 1000), dg (y / 100 % 10), dg (y / 10 % 10), dg (y % 10)] := rfl
  rw [ec, ey]
  generalize dg (r / 3600 / 10) = h1
  generalize dg (r / 3600 % 10) = h2
  generalize dg (r / 60 % 60 / 10) = i1
  generalize dg (r / 60 % 60 % 10) = i2
  generalize dg (r % 60 / 10) = s1
  generalize dg (r % 60 % 10) = s2
  generalize dg (y / 1000) = y1
  generalize dg (y / 100 % 10) = y2
  generalize dg (y / 10 % 10) = y3
  generalize dg (y % 10) = y4
  generalize ddL d = dl at hd ⊢
  clear ec ey
  refine split24 _ rfl _ _ _ _ _ _ _ w (fun W _ => ?_)
  have h := splitBlank_yes ⟨[a, b, c, 32, e, f, g, 32, p0, p1, 32, h1, h2, 58, i1, i2, 58, s1, s2, 32, y1, y2, y3, y4].toArray⟩ ⟨[p0, p1].toArray⟩ ⟨dl.toArray⟩ rfl rfl rfl rfl rfl (ext_lit _ 8 10 [p0, p1] rfl) rfl (by
    rcases hd with ⟨q1, q2⟩ | ⟨q1, q2, q3⟩
    · exact .inl ⟨q1, by rw [q2, ext_lit _ 1 2 [p1] rfl]⟩
    · exact .inr ⟨q1, q2, by rw [q3]⟩) W
  rw [ext_lit _ 0 3 [a, b, c] rfl, ext_lit _ 4 7 [e, f, g] rfl, ext_lit _ 20 24 [y1, y2, y3, y4] rfl, ext_lit _ 11 19 [h1, h2, 58, i1, i2, 58, s1, s2] rfl] at h
  exact h
theorem num_dd {d : Int} (d0 : 1 ≤ d) (d1 : d ≤ 31) : NumIs ⟨(ddL d).toArray⟩ d true := by
  unfold ddL
  split
  · exact num_D1 (by omega) (by omega)
  · exact num_D2 (by omega) (by omega)
theorem parse_blank (t y m d : Int) (hv : Valid y m d) (hd : dayOf y m d = t / 86400) (w : World) (V : Vars w) :
    Calls Tryz.prog 37 #[.string ⟨(blankL (t / 86400) (t % 86400) y m d).toArray⟩] w fun e w' => e = .returned (.tuple #[.int .i64 t, .int .i64 0]) ∧ Below w.heap.size w w' := by
  have dL := mlen_in y hv.m0 hv.m1
  have := hv.d0; have := hv.d1; have := hv.y0; have := hv.y1
  refine parse_end _ _ _ _ _ _ false y m d (t % 86400) ⟨num_D4 (by omega) (by omega), fun w V => read_month hv.m0 hv.m1 w V, num_dd (by omega) (by omega), fun w => read_clock (by omega) (by omega) w⟩ hv (by omega) (by omega) t 0 (.inl ⟨?_, ?_, rfl⟩) w V (split_blank (t / 86400) (t % 86400) y d hv.m0 hv.m1 (by omega) (by omega) w)
  · rw [hd]
  · rw [hd]; omega
/-- what stands behind the comma and the blank -/
def restL (r y m d : Int) : List UInt8 := D2 d ++ [45] ++ moL m ++ [45] ++ D2 (y % 100) ++ [32] ++ hmsL r ++ [32, 71, 77, 84]
theorem dash_split (n r y m d : Int) : dashL n r y m d = wkL n ++ ([44, 32] ++ restL r y m d) := by simp [dashL, restL]
theorem cut_week (n : Int) (l : List UInt8) : Lib.cut (wkL n ++ ([44, 32] ++ l)) [44, 32] = (wkL n, l, true) := by
  have hi : Lib.index (wkL n ++ ([44, 32] ++ l)) [44, 32] = (wkL n).length := by
    unfold wkL
    rcases seven n with h | h | h | h | h | h | h <;> rw [h] <;> simp [wtab, Lib.index, List.isPrefixOf]
  unfold Lib.cut
  rw [hi, if_pos (by omega), Int.toNat_natCast]
  simp
theorem rest_explicit (r y d : Int) {m : Int} (m0 : 1 ≤ m) (m1 : m ≤ 12) : ∃ e f g, moL m = [e, f, g] ∧
    restL r y m d = [dg (d / 10), dg (d % 10), 45, e, f, g, 45, dg (y % 100 / 10), dg (y % 100 % 10), 32, dg (r / 3600 / 10), dg (r / 3600 % 10), 58, dg (r / 60 % 60 / 10), dg (r / 60 % 60 % 10), 58, dg (r % 60 / 10), dg (r % 60 % 10), 32, 71, 77, 84] := by
  obtain ⟨e, f, g, e2⟩ := three (moL_len m0 m1)
  refine ⟨e, f, g, e2, ?_⟩
  unfold restL
  rw [e2]
  rfl
theorem century {y : Int} (y0 : 1970 ≤ y) (y1 : y < 2070) : (55 ≤ ((dg (y % 100 / 10)).toNat : Int) ∧ D4 y = [49, 57] ++ D2 (y % 100)) ∨ (((dg (y % 100 / 10)).toNat : Int) < 55 ∧ D4 y = [50, 48] ++ D2 (y % 100)) := by
  have v := dg_val (a := y % 100 / 10) (by omega) (by omega)
  by_cases h : y < 2000
  · refine .inl ⟨by omega, ?_⟩
    unfold D4 D2
    rw [show y / 1000 = 1 by omega, show y / 100 % 10 = 9 by omega, show y / 10 % 10 = y % 100 / 10 by omega, show y % 10 = y % 100 % 10 by omega]
    rfl
  · refine .inr ⟨by omega, ?_⟩
    unfold D4 D2
    rw [show y / 1000 = 2 by omega, show y / 100 % 10 = 0 by omega, show y / 10 % 10 = y % 100 / 10 by omega, show y % 10 = y % 100 % 10 by omega]
    rfl
set_option maxHeartbeats 1000000 in
theorem split_dash (n r y d : Int) {m : Int} (m0 : 1 ≤ m) (m1 : m ≤ 12) (y0 : 1970 ≤ y) (y1 : y < 2070) (w : World) (M : MaxVD w) :
    Calls Tryz.prog 60 #[.string ⟨(dashL n r y m d).toArray⟩] w fun e w' => e = .returned (.tuple #[partsV (nameB n true) ⟨(D2 d).toArray⟩ ⟨(moL m).toArray⟩ ⟨(D4 y).toArray⟩ ⟨(hmsL r).toArray⟩ true, .bool true]) ∧ Below w.heap.size w w' := by
  have lw := wkL_len n
  obtain ⟨e, f, g, e2, hl⟩ := rest_explicit r y d m0 m1
  have hz : (dashL n r y m d).length = (wkL n).length + 24 := by rw [dash_split, hl]; simp
  have hsz : (⟨(dashL n r y m d).toArray⟩ : ByteArray).size = (wkL n).length + 24 := hz
  have cC := cutCode ⟨(dashL n r y m d).toArray⟩ (by rw [hsz]; omega)
  rw [show (⟨(dashL n r y m d).toArray⟩ : ByteArray).data.toList = dashL n r y m d from rfl, dash_split, cut_week] at cC
  rw [← dash_split] at cC
  rw [hl] at cC
  have cy := century y0 y1
  refine splitOther _ (by rw [hsz]; omega) (by rw [hsz]; omega) _ _ _ _ _ _ _ w (fun W hW => ?_)
  have cW := cC W (M.below hW)
  rw [e2]
  have en : nameB n true = ⟨(wkL n).toArray⟩ := by unfold nameB; simp
  rw [en]
  have ec : hmsL r = [dg (r / 3600 / 10), dg (r / 3600 % 10), 58, dg (r / 60 % 60 / 10), dg (r / 60 % 60 % 10), 58, dg (r % 60 / 10), dg (r % 60 % 10)] := rfl
  have ed : D2 d = [dg (d / 10), dg (d % 10)] := rfl
  have eq2 : D2 (y % 100) = [dg (y % 100 / 10), dg (y % 100 % 10)] := rfl
  rw [ec, ed]
  rw [eq2] at cy
  generalize dg (r / 3600 / 10) = h1 at *
  generalize dg (r / 3600 % 10) = h2 at *
  generalize dg (r / 60 % 60 / 10) = i1 at *
  generalize dg (r / 60 % 60 % 10) = i2 at *
  generalize dg (r % 60 / 10) = s1 at *
  generalize dg (r % 60 % 10) = s2 at *
  generalize dg (d / 10) = d1 at *
  generalize dg (d % 10) = d2 at *
  generalize dg (y % 100 / 10) = q1 at *
  generalize dg (y % 100 % 10) = q2 at *
  obtain ⟨ce, hc, hce⟩ : ∃ ce : ByteArray, ((55 ≤ (q1.toNat : Int) ∧ ce = ⟨#[49, 57]⟩) ∨ ((q1.toNat : Int) < 55 ∧ ce = ⟨#[50, 48]⟩)) ∧ ce ++ ⟨[q1, q2].toArray⟩ = (⟨(D4 y).toArray⟩ : ByteArray) := by
    rcases cy with ⟨c1, c2⟩ | ⟨c1, c2⟩
    · exact ⟨_, .inl ⟨c1, rfl⟩, by rw [c2]; rfl⟩
    · exact ⟨_, .inr ⟨c1, rfl⟩, by rw [c2]; rfl⟩
  have h := splitDashed_yes ⟨(dashL n r y m d).toArray⟩ ⟨(wkL n).toArray⟩ ⟨[d1, d2, 45, e, f, g, 45, q1, q2, 32, h1, h2, 58, i1, i2, 58, s1, s2, 32, 71, 77, 84].toArray⟩ ce rfl rfl rfl rfl (ext_lit _ 18 22 [32, 71, 77, 84] rfl) hc W cW
  rw [ext_lit _ 0 2 [d1, d2] rfl, ext_lit _ 3 6 [e, f, g] rfl, ext_lit _ 7 9 [q1, q2] rfl, ext_lit _ 10 18 [h1, h2, 58, i1, i2, 58, s1, s2] rfl, hce] at h
  exact h
theorem parse_dash (t y m d : Int) (hv : Valid y m d) (hd : dayOf y m d = t / 86400) (hy : y < 2070) (w : World) (V : Vars w) (M : MaxVD w) :
    Calls Tryz.prog 37 #[.string ⟨(dashL (t / 86400) (t % 86400) y m d).toArray⟩] w fun e w' => e = .returned (.tuple #[.int .i64 t, .int .i64 0]) ∧ Below w.heap.size w w' := by
  have dL := mlen_in y hv.m0 hv.m1
  have := hv.d0; have := hv.d1; have := hv.y0; have := hv.y1
  refine parse_end _ _ _ _ _ _ true y m d (t % 86400) ⟨num_D4 (by omega) (by omega), fun w V => read_month hv.m0 hv.m1 w V, num_D2 (by omega) (by omega), fun w => read_clock (by omega) (by omega) w⟩ hv (by omega) (by omega) t 0 (.inl ⟨?_, ?_, rfl⟩) w V (split_dash (t / 86400) (t % 86400) y d hv.m0 hv.m1 (by omega) hy w M)
  · rw [hd]
  · rw [hd]; omega
end Go.Proofs.YtipcmbonhkelbabGreatDoor
namespace Go.Proofs.YtipcmbonhkelbabGreatDoor
open Go.RowKit
/-- l is a form of the second t -/
def IsForm (l : List UInt8) (t : Int) : Prop := 0 ≤ t ∧ t ≤ 253402300799 ∧ ∃ y m d, Valid y m d ∧ dayOf y m d = t / 86400 ∧ (l = showL (t / 86400) (t % 86400) y m d ∨ (y < 2070 ∧ l = dashL (t / 86400) (t % 86400) y m d) ∨ l = blankL (t / 86400) (t % 86400) y m d)
theorem dg_of {b : UInt8} {v : Int} (h : isDig b = true) (e : v = (b.toNat : Int) - 48) : dg v = b := by
  have := isDig_in h
  unfold dg
  rw [e, show 48 + ((b.toNat : Int) - 48).toNat = b.toNat by omega, UInt8.ofNat_toNat]
theorem dig1 {b : UInt8} (h : digs [b] = true) : [b] = [dg (numV [b])] ∧ 0 ≤ numV [b] ∧ numV [b] < 10 := by
  have hb : isDig b = true := by simpa [digs] using h
  have := isDig_in hb
  have e : numV [b] = (b.toNat : Int) - 48 := by simp [numV]
  rw [e, dg_of hb rfl]
  exact ⟨rfl, by omega, by omega⟩
theorem dig2 {b c : UInt8} (h : digs [b, c] = true) : [b, c] = D2 (numV [b, c]) ∧ 0 ≤ numV [b, c] ∧ numV [b, c] < 100 := by
  have hb : isDig b = true ∧ isDig c = true := by simpa [digs] using h
  have h1 := isDig_in hb.1
  have h2 := isDig_in hb.2
  have e : numV [b, c] = ((b.toNat : Int) - 48) * 10 + ((c.toNat : Int) - 48) := by simp [numV]
  refine ⟨?_, by omega, by omega⟩
  unfold D2
  rw [dg_of (v := numV [b, c] / 10) hb.1 (by omega), dg_of (v := numV [b, c] % 10) hb.2 (by omega)]
theorem dig4 {a b c d : UInt8} (h : digs [a, b, c, d] = true) : [a, b, c, d] = D4 (numV [a, b, c, d]) ∧ 0 ≤ numV [a, b, c, d] ∧ numV [a, b, c, d] < 10000 := by
  have hb : isDig a = true ∧ isDig b = true ∧ isDig c = true ∧ isDig d = true := by simpa [digs] using h
  obtain ⟨k1, k2, k3, k4⟩ := hb
  have h1 := isDig_in k1
  have h2 := isDig_in k2
  have h3 := isDig_in k3
  have h4 := isDig_in k4
  have e : numV [a, b, c, d] = ((((a.toNat : Int) - 48) * 10 + ((b.toNat : Int) - 48)) * 10 + ((c.toNat : Int) - 48)) * 10 + ((d.toNat : Int) - 48) := by simp [numV]
  refine ⟨?_, by omega, by omega⟩
  unfold D4
  rw [dg_of (v := numV [a, b, c, d] / 1000) k1 (by omega), dg_of (v := numV [a, b, c, d] / 100 % 10) k2 (by omega), dg_of (v := numV [a, b, c, d] / 10 % 10) k3 (by omega), dg_of (v := numV [a, b, c, d] % 10) k4 (by omega)]
theorem num_any (x : ByteArray) (h : x.size ≤ 8) : NumIs x (numB x.data.toList) (digs x.data.toList) := ⟨h, rfl, rfl⟩
theorem numB_true {l : List UInt8} (h : digs l = true) : numB l = numV l := by unfold numB; rw [h, if_pos rfl]
theorem first_mo (x : ByteArray) : ∃ j, j ≤ 12 ∧ (∀ k, k < j → ¬ moB k = x) ∧ (j < 12 → moB j = x) := by
  have key : ∀ n, n ≤ 12 → (∃ j, j < n ∧ (∀ k, k < j → ¬ moB k = x) ∧ moB j = x) ∨ (∀ k, k < n → ¬ moB k = x) := by
    intro n
    induction n with
    | zero => intro _; exact .inr (fun k hk => by omega)
    | succ n ih =>
      intro hn
      rcases ih (by omega) with ⟨j, hj, h1, h2⟩ | h
      · exact .inl ⟨j, by omega, h1, h2⟩
      · by_cases e : moB n = x
        · exact .inl ⟨n, by omega, h, e⟩
        · refine .inr (fun k hk => ?_)
          by_cases hkn : k = n
          · rw [hkn]; exact e
          · exact h k (by omega)
  rcases key 12 (Nat.le_refl _) with ⟨j, hj, h1, h2⟩ | h
  · exact ⟨j, by omega, h1, fun _ => h2⟩
  · exact ⟨12, Nat.le_refl _, h, fun h => by omega⟩
theorem month_any (x : ByteArray) : ∃ (m : Int) (b : Bool), (∀ w, Vars w → Calls Tryz.prog 62 #[.string x] w fun e w' => e = .returned (.tuple #[.int .i64 m, .bool b]) ∧ w' = w) ∧ (b = true → 1 ≤ m ∧ m ≤ 12 ∧ x.data.toList = moL m) := by
  obtain ⟨j, hj, h1, h2⟩ := first_mo x
  by_cases hl : j < 12
  · refine ⟨(j : Int) + 1, true, fun w V => monthOfCode x j hj h1 h2 _ _ (.inl ⟨hl, rfl, rfl⟩) w V, fun _ => ⟨by omega, by omega, ?_⟩⟩
    rw [← h2 hl]
    unfold moL moB
    rw [show ((j : Int) + 1 - 1).toNat = j by omega]
  · exact ⟨0, false, fun w V => monthOfCode x j hj h1 h2 _ _ (.inr ⟨by omega, rfl, rfl⟩) w V, fun h => by cases h⟩
theorem clock_any (x : ByteArray) (hx : x.size = 8) : ∃ (c : Int) (b : Bool), (∀ w, Calls Tryz.prog 63 #[.string x] w fun e w' => e = .returned (.tuple #[.int .i64 c, .bool b]) ∧ w' = w) ∧ (b = true → 0 ≤ c ∧ c < 86400 ∧ x.data.toList = hmsL c) := by
  by_cases h2 : (x[2].toNat : Int) = 58
  · by_cases h5 : (x[5].toNat : Int) = 58
    · have n1 := num_any (x.extract 0 2) (by rw [ByteArray.size_extract]; omega)
      have n2 := num_any (x.extract 3 5) (by rw [ByteArray.size_extract]; omega)
      have n3 := num_any (x.extract 6 8) (by rw [ByteArray.size_extract]; omega)
      by_cases hg : digs (x.extract 0 2).data.toList = true ∧ digs (x.extract 3 5).data.toList = true ∧ digs (x.extract 6 8).data.toList = true ∧ numB (x.extract 0 2).data.toList ≤ 23 ∧ numB (x.extract 3 5).data.toList ≤ 59 ∧ numB (x.extract 6 8).data.toList ≤ 59
      · obtain ⟨g1, g2, g3, g4, g5, g6⟩ := hg
        rw [g1] at n1
        rw [g2] at n2
        rw [g3] at n3
        have hl : x.data.toList.length = 8 := by have : x.data.toList.length = x.size := by simp
                                                 omega
        obtain ⟨b0, b1, b2, b3, b4, b5, b6, b7, e⟩ : ∃ b0 b1 b2 b3 b4 b5 b6 b7, x.data.toList = [b0, b1, b2, b3, b4, b5, b6, b7] := by
          match h : x.data.toList, hl with
          | [b0, b1, b2, b3, b4, b5, b6, b7], _ => exact ⟨b0, b1, b2, b3, b4, b5, b6, b7, rfl⟩
        obtain rfl := ba_ofD e
        rw [ext_lit _ 0 2 [b0, b1] rfl] at n1 g1 g4
        rw [ext_lit _ 3 5 [b3, b4] rfl] at n2 g2 g5
        rw [ext_lit _ 6 8 [b6, b7] rfl] at n3 g3 g6
        obtain ⟨p1, p2, p3⟩ := dig2 g1
        obtain ⟨q1, q2, q3⟩ := dig2 g2
        obtain ⟨r1, r2, r3⟩ := dig2 g3
        have v1 : numB (⟨[b0, b1].toArray⟩ : ByteArray).data.toList = numV [b0, b1] := numB_true g1
        have v2 : numB (⟨[b3, b4].toArray⟩ : ByteArray).data.toList = numV [b3, b4] := numB_true g2
        have v3 : numB (⟨[b6, b7].toArray⟩ : ByteArray).data.toList = numV [b6, b7] := numB_true g3
        rw [v1] at n1 g4
        rw [v2] at n2 g5
        rw [v3] at n3 g6
        have c2 : b2 = 58 := UInt8.toNat_inj.1 (by have : (b2.toNat : Int) = 58 := h2; simpa using (show b2.toNat = 58 by omega))
        have c5 : b5 = 58 := UInt8.toNat_inj.1 (by have : (b5.toNat : Int) = 58 := h5; simpa using (show b5.toNat = 58 by omega))
        generalize numV [b0, b1] = a1 at *
        generalize numV [b3, b4] = a2 at *
        generalize numV [b6, b7] = a3 at *
        refine ⟨a1 * 3600 + a2 * 60 + a3, true, fun w => clockCode_yes _ hx h2 h5 a1 a2 a3 (by rw [ext_lit _ 0 2 [b0, b1] rfl]; exact n1) (by rw [ext_lit _ 3 5 [b3, b4] rfl]; exact n2) (by rw [ext_lit _ 6 8 [b6, b7] rfl]; exact n3) p2 q2 r2 g4 g5 g6 w, fun _ => ⟨by omega, by omega, ?_⟩⟩
        unfold hmsL
        rw [show (a1 * 3600 + a2 * 60 + a3) / 3600 = a1 by omega, show (a1 * 3600 + a2 * 60 + a3) / 60 % 60 = a2 by omega, show (a1 * 3600 + a2 * 60 + a3) % 60 = a3 by omega, ← p1, ← q1, ← r1]
        show [b0, b1, b2, b3, b4, b5, b6, b7] = _
        rw [c2, c5]
        rfl
      · refine ⟨0, false, fun w => clockCode_no2 x hx h2 h5 _ _ _ _ _ _ n1 n2 n3 ?_ w, fun h => by cases h⟩
        cases g1 : digs (x.extract 0 2).data.toList with
        | false => exact .inl rfl
        | true =>
          cases g2 : digs (x.extract 3 5).data.toList with
          | false => exact .inr (.inl ⟨rfl, rfl⟩)
          | true =>
            cases g3 : digs (x.extract 6 8).data.toList with
            | false => exact .inr (.inr (.inl ⟨rfl, rfl, rfl⟩))
            | true =>
              by_cases q1 : numB (x.extract 0 2).data.toList ≤ 23
              · by_cases q2 : numB (x.extract 3 5).data.toList ≤ 59
                · by_cases q3 : numB (x.extract 6 8).data.toList ≤ 59
                  · exact absurd ⟨g1, g2, g3, q1, q2, q3⟩ hg
                  · exact .inr (.inr (.inr (.inr (.inr ⟨rfl, rfl, rfl, q1, q2, by omega⟩))))
                · exact .inr (.inr (.inr (.inr (.inl ⟨rfl, rfl, rfl, q1, by omega⟩))))
              · exact .inr (.inr (.inr (.inl ⟨rfl, rfl, rfl, by omega⟩)))
    · exact ⟨0, false, fun w => clockCode_no1 x hx (.inr ⟨h2, h5⟩) w, fun h => by cases h⟩
  · exact ⟨0, false, fun w => clockCode_no1 x hx (.inl h2) w, fun h => by cases h⟩
/-- what a call of Parse answers -/
def Ans (s : ByteArray) (v e : Int) : Prop := ∀ w, Vars w → MaxVD w → Calls Tryz.prog 37 #[.string s] w fun x w' => x = .returned (.tuple #[.int .i64 v, .int .i64 e]) ∧ Below w.heap.size w w'
/-- the parts are read, and the whole is a form: by what the parts are -/
theorem parse_parts (s p1 p2 p3 p4 p5 : ByteArray) (p6 : Bool) (h2 : p2.size ≤ 8) (h4 : p4.size ≤ 8) (h5 : p5.size = 8)
    (cs : ∀ w, MaxVD w → Calls Tryz.prog 60 #[.string s] w fun e w' => e = .returned (.tuple #[partsV p1 p2 p3 p4 p5 p6, .bool true]) ∧ Below w.heap.size w w')
    (sound : ∀ y m d c, Valid y m d → 0 ≤ c → c < 86400 → digs p4.data.toList = true → y = numV p4.data.toList → p3.data.toList = moL m → digs p2.data.toList = true → d = numV p2.data.toList → p5.data.toList = hmsL c → p1 = nameB (dayOf y m d) p6 →
      s.data.toList = showL (dayOf y m d) c y m d ∨ (y < 2070 ∧ s.data.toList = dashL (dayOf y m d) c y m d) ∨ s.data.toList = blankL (dayOf y m d) c y m d) :
    Ans s 0 20 ∨ ∃ t, IsForm s.data.toList t ∧ Ans s t 0 := by
  obtain ⟨m, mb, cm, hm⟩ := month_any p3
  obtain ⟨c, cb, cc, hc⟩ := clock_any p5 h5
  have ny := num_any p4 h4
  have nd := num_any p2 h2
  cases g1 : digs p4.data.toList with
  | false =>
    rw [g1] at ny
    exact .inl (fun w V M => parse_no2 s p1 p2 p3 p4 p5 p6 _ m _ c false mb _ cb ⟨ny, cm, nd, cc⟩ (.inl rfl) w V (cs w M))
  | true =>
    cases mb with
    | false => rw [g1] at ny; exact .inl (fun w V M => parse_no2 s p1 p2 p3 p4 p5 p6 _ m _ c true false _ cb ⟨ny, cm, nd, cc⟩ (.inr (.inl ⟨rfl, rfl⟩)) w V (cs w M))
    | true =>
      cases g2 : digs p2.data.toList with
      | false => rw [g1] at ny; rw [g2] at nd; exact .inl (fun w V M => parse_no2 s p1 p2 p3 p4 p5 p6 _ m _ c true true false cb ⟨ny, cm, nd, cc⟩ (.inr (.inr (.inl ⟨rfl, rfl, rfl⟩))) w V (cs w M))
      | true =>
        cases cb with
        | false => rw [g1] at ny; rw [g2] at nd; exact .inl (fun w V M => parse_no2 s p1 p2 p3 p4 p5 p6 _ m _ c true true true false ⟨ny, cm, nd, cc⟩ (.inr (.inr (.inr ⟨rfl, rfl, rfl, rfl⟩))) w V (cs w M))
        | true =>
          rw [g1, numB_true g1] at ny
          rw [g2, numB_true g2] at nd
          by_cases hv : Valid (numV p4.data.toList) m (numV p2.data.toList)
          · obtain ⟨c0, c1, c2⟩ := hc rfl
            by_cases hn : p1 = nameB (dayOf (numV p4.data.toList) m (numV p2.data.toList)) p6
            · have hs := sound _ m _ c hv c0 c1 g1 rfl (hm rfl).2.2 g2 rfl c2 hn
              have hr := dayOf_range hv
              refine .inr ⟨dayOf (numV p4.data.toList) m (numV p2.data.toList) * 86400 + c, ⟨by omega, by omega, _, m, _, hv, by omega, ?_⟩, fun w V M => parse_end s p1 p2 p3 p4 p5 p6 _ m _ c ⟨ny, cm, nd, cc⟩ hv c0 c1 _ _ (.inl ⟨hn, rfl, rfl⟩) w V (cs w M)⟩
              rw [show (dayOf (numV p4.data.toList) m (numV p2.data.toList) * 86400 + c) / 86400 = dayOf (numV p4.data.toList) m (numV p2.data.toList) by omega, show (dayOf (numV p4.data.toList) m (numV p2.data.toList) * 86400 + c) % 86400 = c by omega]
              exact hs
            · exact .inl (fun w V M => parse_end s p1 p2 p3 p4 p5 p6 _ m _ c ⟨ny, cm, nd, cc⟩ hv c0 c1 _ _ (.inr ⟨hn, rfl, rfl⟩) w V (cs w M))
          · exact .inl (fun w V M => parse_no3 s p1 p2 p3 p4 p5 p6 _ m _ c ⟨ny, cm, nd, cc⟩ hv w V (cs w M))
end Go.Proofs.YtipcmbonhkelbabGreatDoor
namespace Go.Proofs.YtipcmbonhkelbabGreatDoor
open Go.RowKit
theorem byte_eq {b c : UInt8} (h : (b.toNat : Int) = (c.toNat : Int)) : b = c := UInt8.toNat_inj.1 (by omega)
theorem lit_eq {l k : List UInt8} (h : (⟨l.toArray⟩ : ByteArray) = ⟨k.toArray⟩) : l = k := by
  have := congrArg (fun x : ByteArray => x.data.toList) h
  simpa using this
set_option maxHeartbeats 1000000 in
theorem sound29 (s : ByteArray) (hs : s.size = 29) (e1 : s.extract 3 5 = ⟨#[44, 32]⟩) (e2 : (s[7].toNat : Int) = 32) (e3 : (s[11].toNat : Int) = 32) (e4 : (s[16].toNat : Int) = 32) (e5 : s.extract 25 29 = ⟨#[32, 71, 77, 84]⟩)
    (n y m d c : Int) (g1 : digs (s.extract 12 16).data.toList = true) (hy : y = numV (s.extract 12 16).data.toList) (hm : (s.extract 8 11).data.toList = moL m) (g2 : digs (s.extract 5 7).data.toList = true) (hd : d = numV (s.extract 5 7).data.toList) (hc : (s.extract 17 25).data.toList = hmsL c) (hn : s.extract 0 3 = nameB n false) :
    s.data.toList = showL n c y m d := by
  have hl : s.data.toList.length = 29 := by have : s.data.toList.length = s.size := by simp
                                            omega
  obtain ⟨b0, b1, b2, b3, b4, b5, b6, b7, b8, b9, b10, b11, b12, b13, b14, b15, b16, b17, b18, b19, b20, b21, b22, b23, b24, b25, b26, b27, b28, e⟩ : ∃ b0 b1 b2 b3 b4 b5 b6 b7 b8 b9 b10 b11 b12 b13 b14 b15 b16 b17 b18 b19 b20 b21 b22 b23 b24 b25 b26 b27 b28, s.data.toList = [b0, b1, b2, b3, b4, b5, b6, b7, b8, b9, b10, b11, b12, b13, b14, b15, b16, b17, b18, b19, b20, b21, b22, b23, b24, b25, b26, b27, b28] := by
    match h : s.data.toList, hl with
    | [b0, b1, b2, b3, b4, b5, b6, b7, b8, b9, b10, b11, b12, b13, b14, b15, b16, b17, b18, b19, b20, b21, b22, b23, b24, b25, b26, b27, b28], _ => exact ⟨b0, b1, b2, b3, b4, b5, b6, b7, b8, b9, b10, b11, b12, b13, b14, b15, b16, b17, b18, b19, b20, b21, b22, b23, b24, b25, b26, b27, b28, rfl⟩
  obtain rfl := ba_ofD e
  rw [ext_lit _ 12 16 [b12, b13, b14, b15] rfl] at g1 hy
  rw [ext_lit _ 8 11 [b8, b9, b10] rfl] at hm
  rw [ext_lit _ 5 7 [b5, b6] rfl] at g2 hd
  rw [ext_lit _ 17 25 [b17, b18, b19, b20, b21, b22, b23, b24] rfl] at hc
  rw [ext_lit _ 0 3 [b0, b1, b2] rfl, name3] at hn
  rw [ext_lit _ 3 5 [b3, b4] rfl] at e1
  rw [ext_lit _ 25 29 [b25, b26, b27, b28] rfl] at e5
  have k1 := lit_eq (k := [44, 32]) e1
  have k5 := lit_eq (k := [32, 71, 77, 84]) e5
  have kn := lit_eq hn
  have k7 : b7 = 32 := byte_eq e2
  have k11 : b11 = 32 := byte_eq e3
  have k16 : b16 = 32 := byte_eq e4
  have dy := (dig4 g1).1
  have dd := (dig2 g2).1
  have hy' : y = numV [b12, b13, b14, b15] := hy
  have hd' : d = numV [b5, b6] := hd
  rw [← hy'] at dy
  rw [← hd'] at dd
  have hm' : [b8, b9, b10] = moL m := hm
  have hc' : [b17, b18, b19, b20, b21, b22, b23, b24] = hmsL c := hc
  show [b0, b1, b2, b3, b4, b5, b6, b7, b8, b9, b10, b11, b12, b13, b14, b15, b16, b17, b18, b19, b20, b21, b22, b23, b24, b25, b26, b27, b28] = _
  unfold showL
  rw [← kn, ← dd, ← hm', ← dy, ← hc', ← k1, ← k5, k7, k11, k16]
  rfl
set_option maxHeartbeats 1000000 in
theorem sound24 (s : ByteArray) (hs : s.size = 24) (e1 : (s[3].toNat : Int) = 32) (e2 : (s[7].toNat : Int) = 32) (e3 : (s[10].toNat : Int) = 32) (e4 : (s[19].toNat : Int) = 32) (x dl : ByteArray) (hx : s.extract 8 10 = x) (zx : x.size = 2)
    (hq : ((x[0].toNat : Int) = 32 ∧ dl = x.extract 1 2) ∨ (¬ (x[0].toNat : Int) = 32 ∧ ¬ (x[0].toNat : Int) = 48 ∧ dl = x))
    (n y m d c : Int) (g1 : digs (s.extract 20 24).data.toList = true) (hy : y = numV (s.extract 20 24).data.toList) (hm : (s.extract 4 7).data.toList = moL m) (g2 : digs dl.data.toList = true) (hd : d = numV dl.data.toList) (hc : (s.extract 11 19).data.toList = hmsL c) (hn : s.extract 0 3 = nameB n false) :
    s.data.toList = blankL n c y m d := by
  have hl : s.data.toList.length = 24 := by have : s.data.toList.length = s.size := by simp
                                            omega
  obtain ⟨b0, b1, b2, b3, b4, b5, b6, b7, b8, b9, b10, b11, b12, b13, b14, b15, b16, b17, b18, b19, b20, b21, b22, b23, e⟩ : ∃ b0 b1 b2 b3 b4 b5 b6 b7 b8 b9 b10 b11 b12 b13 b14 b15 b16 b17 b18 b19 b20 b21 b22 b23, s.data.toList = [b0, b1, b2, b3, b4, b5, b6, b7, b8, b9, b10, b11, b12, b13, b14, b15, b16, b17, b18, b19, b20, b21, b22, b23] := by
    match h : s.data.toList, hl with
    | [b0, b1, b2, b3, b4, b5, b6, b7, b8, b9, b10, b11, b12, b13, b14, b15, b16, b17, b18, b19, b20, b21, b22, b23], _ => exact ⟨b0, b1, b2, b3, b4, b5, b6, b7, b8, b9, b10, b11, b12, b13, b14, b15, b16, b17, b18, b19, b20, b21, b22, b23, rfl⟩
  obtain rfl := ba_ofD e
  rw [ext_lit _ 8 10 [b8, b9] rfl] at hx
  subst hx
  rw [ext_lit _ 20 24 [b20, b21, b22, b23] rfl] at g1 hy
  rw [ext_lit _ 4 7 [b4, b5, b6] rfl] at hm
  rw [ext_lit _ 11 19 [b11, b12, b13, b14, b15, b16, b17, b18] rfl] at hc
  rw [ext_lit _ 0 3 [b0, b1, b2] rfl, name3] at hn
  have kn := lit_eq hn
  have k3 : b3 = 32 := byte_eq e1
  have k7 : b7 = 32 := byte_eq e2
  have k10 : b10 = 32 := byte_eq e3
  have k19 : b19 = 32 := byte_eq e4
  have dy := (dig4 g1).1
  have hy' : y = numV [b20, b21, b22, b23] := hy
  rw [← hy'] at dy
  have hm' : [b4, b5, b6] = moL m := hm
  have hc' : [b11, b12, b13, b14, b15, b16, b17, b18] = hmsL c := hc
  have hp : [b8, b9] = padL d := by
    rcases hq with ⟨q1, q2⟩ | ⟨q1, q2, q3⟩
    · rw [q2, ext_lit _ 1 2 [b9] rfl] at g2 hd
      obtain ⟨z1, z2, z3⟩ := dig1 g2
      have hd' : d = numV [b9] := hd
      rw [← hd'] at z1 z2 z3
      have k8 : b8 = 32 := byte_eq q1
      unfold padL
      rw [if_pos z3, k8, z1]
    · rw [q3] at g2 hd
      obtain ⟨z1, z2, z3⟩ := dig2 g2
      have hd' : d = numV [b8, b9] := hd
      have q2' : ¬ (b8.toNat : Int) = 48 := q2
      have hb : isDig b8 = true ∧ isDig b9 = true := by simpa [digs] using g2
      have i1 := isDig_in hb.1
      have i2 := isDig_in hb.2
      have ev : numV [b8, b9] = ((b8.toNat : Int) - 48) * 10 + ((b9.toNat : Int) - 48) := by simp [numV]
      unfold padL
      rw [← hd'] at z1
      rw [if_neg (by omega)]
      exact z1
  show [b0, b1, b2, b3, b4, b5, b6, b7, b8, b9, b10, b11, b12, b13, b14, b15, b16, b17, b18, b19, b20, b21, b22, b23] = _
  unfold blankL
  rw [← kn, ← hp, ← hm', ← dy, ← hc', k3, k7, k10, k19]
  rfl
theorem cut_sound (l : List UInt8) (h : (Lib.cut l [44, 32]).2.2 = true) : l = (Lib.cut l [44, 32]).1 ++ ([44, 32] ++ (Lib.cut l [44, 32]).2.1) := by
  unfold Lib.cut at h ⊢
  rcases Lib.index_spec l [44, 32] with ⟨h1, _⟩ | ⟨i, h1, h2, h3, _⟩
  · rw [h1] at h; simp at h
  · rw [h1, if_pos (by omega), Int.toNat_natCast]
    show l = l.take i ++ ([44, 32] ++ l.drop (i + 2))
    have hp : [44, 32] <+: l.drop i := List.isPrefixOf_iff_prefix.1 h3
    obtain ⟨r, hr⟩ := hp
    have e2 : l.drop (i + 2) = r := by
      rw [← List.drop_drop, ← hr]; rfl
    rw [e2, hr, List.take_append_drop]
set_option maxHeartbeats 1000000 in
theorem soundOther (s a b ce : ByteArray) (hs : s.data.toList = a.data.toList ++ ([44, 32] ++ b.data.toList)) (hb : b.size = 22) (e1 : (b[2].toNat : Int) = 45) (e2 : (b[6].toNat : Int) = 45) (e3 : (b[9].toNat : Int) = 32) (e4 : b.extract 18 22 = ⟨#[32, 71, 77, 84]⟩)
    (hce : (55 ≤ (b[7].toNat : Int) ∧ ce = ⟨#[49, 57]⟩) ∨ ((b[7].toNat : Int) < 55 ∧ ce = ⟨#[50, 48]⟩))
    (n y m d c : Int) (g1 : digs (ce ++ b.extract 7 9).data.toList = true) (hy : y = numV (ce ++ b.extract 7 9).data.toList) (hm : (b.extract 3 6).data.toList = moL m) (g2 : digs (b.extract 0 2).data.toList = true) (hd : d = numV (b.extract 0 2).data.toList) (hc : (b.extract 10 18).data.toList = hmsL c) (hn : a = nameB n true) :
    y < 2070 ∧ s.data.toList = dashL n c y m d := by
  have hl : b.data.toList.length = 22 := by have : b.data.toList.length = b.size := by simp
                                            omega
  obtain ⟨b0, b1, b2, b3, b4, b5, b6, b7, b8, b9, b10, b11, b12, b13, b14, b15, b16, b17, b18, b19, b20, b21, e⟩ : ∃ b0 b1 b2 b3 b4 b5 b6 b7 b8 b9 b10 b11 b12 b13 b14 b15 b16 b17 b18 b19 b20 b21, b.data.toList = [b0, b1, b2, b3, b4, b5, b6, b7, b8, b9, b10, b11, b12, b13, b14, b15, b16, b17, b18, b19, b20, b21] := by
    match h : b.data.toList, hl with
    | [b0, b1, b2, b3, b4, b5, b6, b7, b8, b9, b10, b11, b12, b13, b14, b15, b16, b17, b18, b19, b20, b21], _ => exact ⟨b0, b1, b2, b3, b4, b5, b6, b7, b8, b9, b10, b11, b12, b13, b14, b15, b16, b17, b18, b19, b20, b21, rfl⟩
  obtain rfl := ba_ofD e
  rw [ext_lit _ 7 9 [b7, b8] rfl, app_list] at g1 hy
  rw [ext_lit _ 3 6 [b3, b4, b5] rfl] at hm
  rw [ext_lit _ 0 2 [b0, b1] rfl] at g2 hd
  rw [ext_lit _ 10 18 [b10, b11, b12, b13, b14, b15, b16, b17] rfl] at hc
  rw [ext_lit _ 18 22 [b18, b19, b20, b21] rfl] at e4
  have k4 := lit_eq (k := [32, 71, 77, 84]) e4
  have k2 : b2 = 45 := byte_eq e1
  have k6 : b6 = 45 := byte_eq e2
  have k9 : b9 = 32 := byte_eq e3
  have dd := (dig2 g2).1
  have hd' : d = numV [b0, b1] := hd
  rw [← hd'] at dd
  have hm' : [b3, b4, b5] = moL m := hm
  have hc' : [b10, b11, b12, b13, b14, b15, b16, b17] = hmsL c := hc
  have en : a.data.toList = wkL n := by rw [hn]; unfold nameB; simp
  have hy2 : y < 2070 ∧ [b7, b8] = D2 (y % 100) := by
    rcases hce with ⟨q1, q2⟩ | ⟨q1, q2⟩
    · rw [q2] at g1 hy
      have g1' : digs [49, 57, b7, b8] = true := g1
      have hb : isDig b7 = true ∧ isDig b8 = true := by
        have : isDig 49 = true ∧ isDig 57 = true ∧ isDig b7 = true ∧ isDig b8 = true := by simpa [digs] using g1'
        exact this.2.2
      have i1 := isDig_in hb.1
      have i2 := isDig_in hb.2
      have q1' : 55 ≤ (b7.toNat : Int) := q1
      have hy' : y = numV [49, 57, b7, b8] := hy
      have ev : numV [49, 57, b7, b8] = 1900 + ((b7.toNat : Int) - 48) * 10 + ((b8.toNat : Int) - 48) := by
        simp [numV]; omega
      refine ⟨by omega, ?_⟩
      unfold D2
      rw [dg_of (v := y % 100 / 10) hb.1 (by omega), dg_of (v := y % 100 % 10) hb.2 (by omega)]
    · rw [q2] at g1 hy
      have g1' : digs [50, 48, b7, b8] = true := g1
      have hb : isDig b7 = true ∧ isDig b8 = true := by
        have : isDig 50 = true ∧ isDig 48 = true ∧ isDig b7 = true ∧ isDig b8 = true := by simpa [digs] using g1'
        exact this.2.2
      have i1 := isDig_in hb.1
      have i2 := isDig_in hb.2
      have q1' : (b7.toNat : Int) < 55 := q1
      have hy' : y = numV [50, 48, b7, b8] := hy
      have ev : numV [50, 48, b7, b8] = 2000 + ((b7.toNat : Int) - 48) * 10 + ((b8.toNat : Int) - 48) := by
        simp [numV]; omega
      refine ⟨by omega, ?_⟩
      unfold D2
      rw [dg_of (v := y % 100 / 10) hb.1 (by omega), dg_of (v := y % 100 % 10) hb.2 (by omega)]
  refine ⟨hy2.1, ?_⟩
  rw [hs, en, dash_split]
  unfold restL
  rw [← hy2.2, ← dd, ← hm', ← hc', ← k4]
  show wkL n ++ ([44, 32] ++ [b0, b1, b2, b3, b4, b5, b6, b7, b8, b9, b10, b11, b12, b13, b14, b15, b16, b17, b18, b19, b20, b21]) = _
  rw [k2, k6, k9]
  rfl
end Go.Proofs.YtipcmbonhkelbabGreatDoor
namespace Go.Proofs.YtipcmbonhkelbabGreatDoor
open Go.RowKit
theorem zeroP_eq : zeroP = partsV ⟨#[]⟩ ⟨#[]⟩ ⟨#[]⟩ ⟨#[]⟩ ⟨#[]⟩ false := rfl
theorem ext_size (s : ByteArray) (i j : Nat) (h : j ≤ s.size) : (s.extract i j).size = j - i := by rw [ByteArray.size_extract, Nat.min_eq_left h]
theorem any29 (s : ByteArray) (hs : s.size = 29) : Ans s 0 20 ∨ ∃ t, IsForm s.data.toList t ∧ Ans s t 0 := by
  have no : (¬ s.extract 3 5 = ⟨#[44, 32]⟩ ∨ (s.extract 3 5 = ⟨#[44, 32]⟩ ∧ ¬ (s[7].toNat : Int) = 32) ∨ (s.extract 3 5 = ⟨#[44, 32]⟩ ∧ (s[7].toNat : Int) = 32 ∧ ¬ (s[11].toNat : Int) = 32) ∨
      (s.extract 3 5 = ⟨#[44, 32]⟩ ∧ (s[7].toNat : Int) = 32 ∧ (s[11].toNat : Int) = 32 ∧ ¬ (s[16].toNat : Int) = 32) ∨ (s.extract 3 5 = ⟨#[44, 32]⟩ ∧ (s[7].toNat : Int) = 32 ∧ (s[11].toNat : Int) = 32 ∧ (s[16].toNat : Int) = 32 ∧ ¬ s.extract 25 29 = ⟨#[32, 71, 77, 84]⟩)) → Ans s 0 20 :=
    fun h w _ _ => parse_no1 s _ _ _ _ _ _ w (split29 s hs _ _ _ _ _ _ _ w (fun W _ => splitShown_no s hs h W))
  by_cases e1 : s.extract 3 5 = ⟨#[44, 32]⟩
  · by_cases e2 : (s[7].toNat : Int) = 32
    · by_cases e3 : (s[11].toNat : Int) = 32
      · by_cases e4 : (s[16].toNat : Int) = 32
        · by_cases e5 : s.extract 25 29 = ⟨#[32, 71, 77, 84]⟩
          · exact parse_parts s _ _ _ _ _ false (by rw [ext_size _ _ _ (by omega)]; omega) (by rw [ext_size _ _ _ (by omega)]; omega) (by rw [ext_size _ _ _ (by omega)])
              (fun w _ => split29 s hs _ _ _ _ _ _ _ w (fun W _ => splitShown_yes s hs e1 e2 e3 e4 e5 W))
              (fun y m d c _ _ _ g1 hy hm g2 hd hc hn => .inl (sound29 s hs e1 e2 e3 e4 e5 (dayOf y m d) y m d c g1 hy hm g2 hd hc hn))
          · exact .inl (no (.inr (.inr (.inr (.inr ⟨e1, e2, e3, e4, e5⟩)))))
        · exact .inl (no (.inr (.inr (.inr (.inl ⟨e1, e2, e3, e4⟩)))))
      · exact .inl (no (.inr (.inr (.inl ⟨e1, e2, e3⟩))))
    · exact .inl (no (.inr (.inl ⟨e1, e2⟩)))
  · exact .inl (no (.inl e1))
theorem any24 (s : ByteArray) (hs : s.size = 24) : Ans s 0 20 ∨ ∃ t, IsForm s.data.toList t ∧ Ans s t 0 := by
  obtain ⟨x, hx⟩ : ∃ x, s.extract 8 10 = x := ⟨_, rfl⟩
  have zx : x.size = 2 := by rw [← hx, ext_size _ _ _ (by omega)]
  have no : ((¬ (s[3].toNat : Int) = 32) ∨ ((s[3].toNat : Int) = 32 ∧ ¬ (s[7].toNat : Int) = 32) ∨ ((s[3].toNat : Int) = 32 ∧ (s[7].toNat : Int) = 32 ∧ ¬ (s[10].toNat : Int) = 32) ∨ ((s[3].toNat : Int) = 32 ∧ (s[7].toNat : Int) = 32 ∧ (s[10].toNat : Int) = 32 ∧ ¬ (s[19].toNat : Int) = 32) ∨ ((s[3].toNat : Int) = 32 ∧ (s[7].toNat : Int) = 32 ∧ (s[10].toNat : Int) = 32 ∧ (s[19].toNat : Int) = 32 ∧ (x[0].toNat : Int) = 48)) → Ans s 0 20 :=
    fun h w _ _ => parse_no1 s _ _ _ _ _ _ w (split24 s hs _ _ _ _ _ _ _ w (fun W _ => splitBlank_no s x hs hx zx h W))
  by_cases e1 : (s[3].toNat : Int) = 32
  · by_cases e2 : (s[7].toNat : Int) = 32
    · by_cases e3 : (s[10].toNat : Int) = 32
      · by_cases e4 : (s[19].toNat : Int) = 32
        · by_cases e5 : (x[0].toNat : Int) = 48
          · exact .inl (no (.inr (.inr (.inr (.inr ⟨e1, e2, e3, e4, e5⟩)))))
          · obtain ⟨dl, hq, hz⟩ : ∃ dl : ByteArray, (((x[0].toNat : Int) = 32 ∧ dl = x.extract 1 2) ∨ (¬ (x[0].toNat : Int) = 32 ∧ ¬ (x[0].toNat : Int) = 48 ∧ dl = x)) ∧ dl.size ≤ 8 := by
              by_cases e6 : (x[0].toNat : Int) = 32
              · exact ⟨_, .inl ⟨e6, rfl⟩, by rw [ext_size _ _ _ (by omega)]; omega⟩
              · exact ⟨_, .inr ⟨e6, e5, rfl⟩, by omega⟩
            exact parse_parts s _ dl _ _ _ false hz (by rw [ext_size _ _ _ (by omega)]; omega) (by rw [ext_size _ _ _ (by omega)])
              (fun w _ => split24 s hs _ _ _ _ _ _ _ w (fun W _ => splitBlank_yes s x dl hs e1 e2 e3 e4 hx zx hq W))
              (fun y m d c _ _ _ g1 hy hm g2 hd hc hn => .inr (.inr (sound24 s hs e1 e2 e3 e4 x dl hx zx hq (dayOf y m d) y m d c g1 hy hm g2 hd hc hn)))
        · exact .inl (no (.inr (.inr (.inr (.inl ⟨e1, e2, e3, e4⟩)))))
      · exact .inl (no (.inr (.inr (.inl ⟨e1, e2, e3⟩))))
    · exact .inl (no (.inr (.inl ⟨e1, e2⟩)))
  · exact .inl (no (.inl e1))
theorem anyOther (s : ByteArray) (hs : s.size < 4294967281) (h29 : ¬ s.size = 29) (h24 : ¬ s.size = 24) : Ans s 0 20 ∨ ∃ t, IsForm s.data.toList t ∧ Ans s t 0 := by
  have cC := cutCode s hs
  have sd := cut_sound s.data.toList
  obtain ⟨a, ha⟩ : ∃ a : ByteArray, a = ⟨(Lib.cut s.data.toList [44, 32]).1.toArray⟩ := ⟨_, rfl⟩
  obtain ⟨b, hb⟩ : ∃ b : ByteArray, b = ⟨(Lib.cut s.data.toList [44, 32]).2.1.toArray⟩ := ⟨_, rfl⟩
  rw [← ha, ← hb] at cC
  have ha' : a.data.toList = (Lib.cut s.data.toList [44, 32]).1 := by rw [ha]
  have hb' : b.data.toList = (Lib.cut s.data.toList [44, 32]).2.1 := by rw [hb]
  rw [← ha', ← hb'] at sd
  clear ha hb ha' hb'
  cases hf : (Lib.cut s.data.toList [44, 32]).2.2 with
  | false =>
    rw [hf] at cC
    exact .inl (fun w V M => parse_no1 s _ _ _ _ _ _ w (splitOther s h29 h24 _ _ _ _ _ _ _ w (fun W hW => splitDashed_no0 s a b false (.inl rfl) W (cC W (M.below hW)))))
  | true =>
    rw [hf] at cC
    have hsd := sd hf
    by_cases hb : b.size = 22
    · have no : ((¬ (b[2].toNat : Int) = 45) ∨ ((b[2].toNat : Int) = 45 ∧ ¬ (b[6].toNat : Int) = 45) ∨ ((b[2].toNat : Int) = 45 ∧ (b[6].toNat : Int) = 45 ∧ ¬ (b[9].toNat : Int) = 32) ∨ ((b[2].toNat : Int) = 45 ∧ (b[6].toNat : Int) = 45 ∧ (b[9].toNat : Int) = 32 ∧ ¬ b.extract 18 22 = ⟨#[32, 71, 77, 84]⟩)) → Ans s 0 20 :=
        fun h w V M => parse_no1 s _ _ _ _ _ _ w (splitOther s h29 h24 _ _ _ _ _ _ _ w (fun W hW => splitDashed_no1 s a b hb h W (cC W (M.below hW))))
      by_cases e1 : (b[2].toNat : Int) = 45
      · by_cases e2 : (b[6].toNat : Int) = 45
        · by_cases e3 : (b[9].toNat : Int) = 32
          · by_cases e4 : b.extract 18 22 = ⟨#[32, 71, 77, 84]⟩
            · obtain ⟨ce, hce, hz⟩ : ∃ ce : ByteArray, ((55 ≤ (b[7].toNat : Int) ∧ ce = ⟨#[49, 57]⟩) ∨ ((b[7].toNat : Int) < 55 ∧ ce = ⟨#[50, 48]⟩)) ∧ ce.size = 2 := by
                by_cases e5 : 55 ≤ (b[7].toNat : Int)
                · exact ⟨_, .inl ⟨e5, rfl⟩, rfl⟩
                · exact ⟨_, .inr ⟨by omega, rfl⟩, rfl⟩
              exact parse_parts s a _ _ _ _ true (by rw [ext_size _ _ _ (by omega)]; omega) (by rw [ByteArray.size_append, hz, ext_size _ _ _ (by omega)]; omega) (by rw [ext_size _ _ _ (by omega)])
                (fun w M => splitOther s h29 h24 _ _ _ _ _ _ _ w (fun W hW => splitDashed_yes s a b ce hb e1 e2 e3 e4 hce W (cC W (M.below hW))))
                (fun y m d c _ _ _ g1 hy hm g2 hd hc hn => .inr (.inl (soundOther s a b ce hsd hb e1 e2 e3 e4 hce (dayOf y m d) y m d c g1 hy hm g2 hd hc hn)))
            · exact .inl (no (.inr (.inr (.inr ⟨e1, e2, e3, e4⟩))))
          · exact .inl (no (.inr (.inr (.inl ⟨e1, e2, e3⟩))))
        · exact .inl (no (.inr (.inl ⟨e1, e2⟩)))
      · exact .inl (no (.inl e1))
    · exact .inl (fun w V M => parse_no1 s _ _ _ _ _ _ w (splitOther s h29 h24 _ _ _ _ _ _ _ w (fun W hW => splitDashed_no0 s a b true (.inr ⟨rfl, hb⟩) W (cC W (M.below hW)))))
theorem parse_any (s : ByteArray) (hs : s.size < 4294967281) : Ans s 0 20 ∨ ∃ t, IsForm s.data.toList t ∧ Ans s t 0 := by
  by_cases h29 : s.size = 29
  · exact any29 s h29
  · by_cases h24 : s.size = 24
    · exact any24 s h24
    · exact anyOther s hs h29 h24
theorem parse_of_form (s : ByteArray) (t : Int) (h : IsForm s.data.toList t) : Ans s t 0 := by
  obtain ⟨_, _, y, m, d, hv, hd, hl⟩ := h
  intro w V M
  rcases hl with hl | ⟨hy, hl⟩ | hl
  · rw [ba_ofD hl]; exact parse_show t y m d hv hd w V
  · rw [ba_ofD hl]; exact parse_dash t y m d hv hd hy w V M
  · rw [ba_ofD hl]; exact parse_blank t y m d hv hd w V
end Go.Proofs.YtipcmbonhkelbabGreatDoor
