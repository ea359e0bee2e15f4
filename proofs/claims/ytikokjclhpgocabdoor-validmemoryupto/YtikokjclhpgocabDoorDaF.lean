/- The contract of the document's forms. -/
import Derived.Test.YtikokjclhpgocabDoorDaS
import Derived.Deep.RegionHeld3
namespace Go.Proofs.YtikokjclhpgocabDoor
open Go.RowKit
def dashL (n r y m d : Int) : List UInt8 := wkL n ++ [44, 32] ++ D2 d ++ [45] ++ moL m ++ [45] ++ D2 (y % 100) ++ [32] ++ hmsL r ++ [32, 71, 77, 84]
def padL (d : Int) : List UInt8 := if d < 10 then [32, dg d] else D2 d
def blankL (n r y m d : Int) : List UInt8 := (wkL n).take 3 ++ [32] ++ moL m ++ [32] ++ padL d ++ [32] ++ hmsL r ++ [32] ++ D4 y
def dash2L (n r y m d : Int) : List UInt8 := if y < 2070 then dashL n r y m d else []
/-- a block of three texts -/
def Arr3 (b : Nat) (x y z : ByteArray) (W : World) : Prop := W.cell? ⟨b, 0, none⟩ = some (.string x) ∧ W.cell? ⟨b, 1, none⟩ = some (.string y) ∧ W.cell? ⟨b, 2, none⟩ = some (.string z) ∧ W.frozen? ⟨b, 0, none⟩ = false ∧ W.frozen? ⟨b, 1, none⟩ = false ∧ W.frozen? ⟨b, 2, none⟩ = false ∧ b < W.heap.size
theorem arr_below {b : Nat} {x y z : ByteArray} {W W' : World} (h : Arr3 b x y z W) (hb : Below W.heap.size W W') : Arr3 b x y z W' := by
  obtain ⟨h1, h2, h3, h4, h5, h6, h7⟩ := h
  have c : ∀ o, W'.cell? ⟨b, o, none⟩ = W.cell? ⟨b, o, none⟩ := fun o => hb.cell (p := ⟨b, o, none⟩) h7
  have f : ∀ o, W'.frozen? ⟨b, o, none⟩ = W.frozen? ⟨b, o, none⟩ := fun o => hb.frozen (p := ⟨b, o, none⟩) h7
  exact ⟨by rw [c]; exact h1, by rw [c]; exact h2, by rw [c]; exact h3, by rw [f]; exact h4, by rw [f]; exact h5, by rw [f]; exact h6, Nat.lt_of_lt_of_le h7 hb.size⟩
/-- the two arrays of the call: the one of the result, empty, and its own -/
def St (w0 : World) (g : Nat) (a b c : ByteArray) (W : World) : Prop := Arr3 w0.heap.size ⟨#[]⟩ ⟨#[]⟩ ⟨#[]⟩ W ∧ Arr3 g a b c W ∧ Below w0.heap.size w0 W ∧ w0.heap.size < g
theorem st_below {w0 W W' : World} {g : Nat} {a b c : ByteArray} (h : St w0 g a b c W) (hb : Below W.heap.size W W') : St w0 g a b c W' :=
  ⟨arr_below h.1 hb, arr_below h.2.1 hb, h.2.2.1.trans (hb.mono h.2.2.1.size), h.2.2.2⟩
theorem st_drew {w0 W : World} {g : Nat} {a b c : ByteArray} (h : St w0 g a b c W) : St w0 g a b c W.drew := st_below h ((Below.refl _ _).drew)
theorem arr_other {b b' o : Nat} {x y z : ByteArray} {v : Value} {W : World} (h : Arr3 b x y z W) (hn : b ≠ b') : Arr3 b x y z (W.setCell ⟨b', o, none⟩ v) := by
  obtain ⟨h1, h2, h3, h4, h5, h6, h7⟩ := h
  have c : ∀ i, (W.setCell ⟨b', o, none⟩ v).cell? ⟨b, i, none⟩ = W.cell? ⟨b, i, none⟩ := fun i => World.cell?_setCell_other _ _ _ _ (by first | (simp; done) | omega)
  refine ⟨by rw [c]; exact h1, by rw [c]; exact h2, by rw [c]; exact h3, by simpa using h4, by simpa using h5, by simpa using h6, by simpa using h7⟩
theorem arr_set0 {b : Nat} {x y z : ByteArray} {W : World} (h : Arr3 b x y z W) (s : ByteArray) : Arr3 b s y z (W.setCell ⟨b, 0, none⟩ (.string s)) := by
  obtain ⟨h1, h2, h3, h4, h5, h6, h7⟩ := h
  refine ⟨World.cell?_setCell_same _ _ _ h1, ?_, ?_, by simpa using h4, by simpa using h5, by simpa using h6, by simpa using h7⟩
  · rw [World.cell?_setCell_other _ _ _ _ (by simp)]; exact h2
  · rw [World.cell?_setCell_other _ _ _ _ (by simp)]; exact h3
theorem arr_set1 {b : Nat} {x y z : ByteArray} {W : World} (h : Arr3 b x y z W) (s : ByteArray) : Arr3 b x s z (W.setCell ⟨b, 1, none⟩ (.string s)) := by
  obtain ⟨h1, h2, h3, h4, h5, h6, h7⟩ := h
  refine ⟨?_, World.cell?_setCell_same _ _ _ h2, ?_, by simpa using h4, by simpa using h5, by simpa using h6, by simpa using h7⟩
  · rw [World.cell?_setCell_other _ _ _ _ (by simp)]; exact h1
  · rw [World.cell?_setCell_other _ _ _ _ (by simp)]; exact h3
theorem arr_set2 {b : Nat} {x y z : ByteArray} {W : World} (h : Arr3 b x y z W) (s : ByteArray) : Arr3 b x y s (W.setCell ⟨b, 2, none⟩ (.string s)) := by
  obtain ⟨h1, h2, h3, h4, h5, h6, h7⟩ := h
  refine ⟨?_, ?_, World.cell?_setCell_same _ _ _ h3, by simpa using h4, by simpa using h5, by simpa using h6, by simpa using h7⟩
  · rw [World.cell?_setCell_other _ _ _ _ (by simp)]; exact h1
  · rw [World.cell?_setCell_other _ _ _ _ (by simp)]; exact h2
theorem st_set0 {w0 W : World} {g : Nat} {a b c : ByteArray} (h : St w0 g a b c W) (s : ByteArray) : St w0 g s b c (W.setCell ⟨g, 0, none⟩ (.string s)) :=
  ⟨arr_other h.1 (Nat.ne_of_lt h.2.2.2), arr_set0 h.2.1 s, h.2.2.1.setCell (Nat.le_of_lt h.2.2.2) _, h.2.2.2⟩
theorem st_set1 {w0 W : World} {g : Nat} {a b c : ByteArray} (h : St w0 g a b c W) (s : ByteArray) : St w0 g a s c (W.setCell ⟨g, 1, none⟩ (.string s)) :=
  ⟨arr_other h.1 (Nat.ne_of_lt h.2.2.2), arr_set1 h.2.1 s, h.2.2.1.setCell (Nat.le_of_lt h.2.2.2) _, h.2.2.2⟩
theorem st_set2 {w0 W : World} {g : Nat} {a b c : ByteArray} (h : St w0 g a b c W) (s : ByteArray) : St w0 g a b s (W.setCell ⟨g, 2, none⟩ (.string s)) :=
  ⟨arr_other h.1 (Nat.ne_of_lt h.2.2.2), arr_set2 h.2.1 s, h.2.2.1.setCell (Nat.le_of_lt h.2.2.2) _, h.2.2.2⟩
theorem st_out {w0 W : World} {g : Nat} {a b c : ByteArray} (h : St w0 g a b c W) : Arr3 w0.heap.size a b c (((W.setCell ⟨w0.heap.size, 0, none⟩ (.string a)).setCell ⟨w0.heap.size, 1, none⟩ (.string b)).setCell ⟨w0.heap.size, 2, none⟩ (.string c)) ∧ Below w0.heap.size w0 (((W.setCell ⟨w0.heap.size, 0, none⟩ (.string a)).setCell ⟨w0.heap.size, 1, none⟩ (.string b)).setCell ⟨w0.heap.size, 2, none⟩ (.string c)) :=
  ⟨arr_set2 (arr_set1 (arr_set0 h.1 a) b) c, ((h.2.2.1.setCell (Nat.le_refl _) _).setCell (Nat.le_refl _) _).setCell (Nat.le_refl _) _⟩
theorem st_call {f : FuncId} {args : Array Value} {v : Value} (h : ∀ W : World, Calls Tryd.prog f args W fun e w' => e = .returned v ∧ Below W.heap.size W w') {w0 W : World} {g : Nat} {a b c : ByteArray} (hs : St w0 g a b c W) :
    Calls Tryd.prog f args W fun e w' => e = .returned v ∧ Hid (St w0 g a b c w') ∧ w'.cell? ⟨g, 0, none⟩ = some (.string a) ∧ w'.cell? ⟨g, 1, none⟩ = some (.string b) ∧ w'.cell? ⟨g, 2, none⟩ = some (.string c) ∧ w'.frozen? ⟨g, 0, none⟩ = false ∧ w'.frozen? ⟨g, 1, none⟩ = false ∧ w'.frozen? ⟨g, 2, none⟩ = false := by
  refine (h W).mono ?_
  rintro e w' ⟨rfl, hb⟩
  have s := st_below hs hb
  obtain ⟨h1, h2, h3, h4, h5, h6, h7⟩ := s.2.1
  exact ⟨rfl, s, h1, h2, h3, h4, h5, h6⟩
theorem same_below {f : FuncId} {args : Array Value} {v : Value} (h : ∀ W : World, Calls Tryd.prog f args W fun e w' => e = .returned v ∧ w' = W) : ∀ W : World, Calls Tryd.prog f args W fun e w' => e = .returned v ∧ Below W.heap.size W w' := fun W => (h W).mono fun e w' ⟨he, hw⟩ => ⟨he, by rw [hw]; exact Below.refl _ _⟩
theorem padShow {d : Int} (d0 : 1 ≤ d) (d1 : d ≤ 31) (w : World) : Calls Tryd.prog 63 #[.int .i64 d] w fun e w' => e = .returned (.string ⟨(if d < 10 then [dg d] else D2 d).toArray⟩) ∧ Below w.heap.size w w' := by
  have h := showNum d.toNat (by omega) w
  rw [Int.toNat_of_nonneg (by omega)] at h
  by_cases hd : d < 10
  · rw [dec_small1 (by omega), Int.toNat_of_nonneg (by omega)] at h
    rw [if_pos hd]
    exact h
  · rw [dec_twoD (by omega) (by omega), Int.toNat_of_nonneg (by omega)] at h
    rw [if_neg hd]
    exact h
set_option maxHeartbeats 4000000 in
theorem formsRef (t y m d : Int) (t0 : 0 ≤ t) (t1 : t ≤ 253402300799) (hv : Valid y m d) (hd : dayOf y m d = t / 86400) (w : World) :
    Calls Tryd.prog 51 #[.int .i64 t] w fun e w' => e = .returned (.agg #[.string ⟨(showL (t / 86400) (t % 86400) y m d).toArray⟩, .string ⟨(dash2L (t / 86400) (t % 86400) y m d).toArray⟩, .string ⟨(blankL (t / 86400) (t % 86400) y m d).toArray⟩]) ∧ Below w.heap.size w w' := by
  have cC := hide (fun w => civilRef y m d hv w)
  rw [hd] at cC
  have n0 : 0 ≤ t / 86400 := by omega
  have n1 : t / 86400 ≤ 2932896 := by omega
  have r0 : 0 ≤ t % 86400 := by omega
  have r1 : t % 86400 < 86400 := by omega
  go_enter Tryd.func51, Tryd.ntmps51
  go_wp2_with fail
  refine (cC.out _).mono ?_
  rintro e w1 ⟨rfl, b1⟩
  clear cC hd
  replace b1 := hide b1
  have Hn : ∃ n, Hid (t / 86400 = n) := ⟨_, rfl⟩
  have Hr : ∃ n, Hid (t % 86400 = n) := ⟨_, rfl⟩
  obtain ⟨n, Hn⟩ := Hn
  obtain ⟨r, Hr⟩ := Hr
  rw [Hn.out] at n0 n1 ⊢
  obtain ⟨y0, y1, m0, m1, d0, d1⟩ := hv
  have dL := mlen_in y m0 m1
  obtain ⟨h2, hh2⟩ : ∃ x : ByteArray, x = ⟨(D2 (r / 3600)).toArray⟩ := ⟨_, rfl⟩
  obtain ⟨i2, hi2⟩ : ∃ x : ByteArray, x = ⟨(D2 (r / 60 % 60)).toArray⟩ := ⟨_, rfl⟩
  obtain ⟨s2, hs2⟩ : ∃ x : ByteArray, x = ⟨(D2 (r % 60)).toArray⟩ := ⟨_, rfl⟩
  have r0' : 0 ≤ r := by rw [← Hr.out]; omega
  have r1' : r < 86400 := by rw [← Hr.out]; omega
  have cH := hide (twoRefI (r / 3600) (by omega) (by omega))
  have cM := hide (twoRefI (r / 60 % 60) (by omega) (by omega))
  have cS := hide (twoRefI (r % 60) (by omega) (by omega))
  have zh : h2.size = 2 := by rw [hh2]; rfl
  have zi : i2.size = 2 := by rw [hi2]; rfl
  have zs : s2.size = 2 := by rw [hs2]; rfl
  rw [← hh2] at cH
  rw [← hi2] at cM
  rw [← hs2] at cS
  have CL : Hid (((((h2 ++ ⟨#[58]⟩) ++ i2) ++ ⟨#[58]⟩) ++ s2 : ByteArray) = ⟨(hmsL r).toArray⟩) := by
    unfold Hid
    apply ba_ofD
    rw [hh2, hi2, hs2]
    simp only [app_list, hmsL]
  clear hh2 hi2 hs2
  have es : r % 60 = t % 60 := by rw [← Hr.out]; omega
  rw [es] at cS
  rw [← Hr.out] at cH cM
  clear es
  go_wp2_with fail
  refine (cH.out _).mono ?_
  rintro e w2 ⟨rfl, b2⟩
  replace b2 := hide b2
  go_wp2_with fail
  refine (cM.out _).mono ?_
  rintro e w3 ⟨rfl, b3⟩
  replace b3 := hide b3
  go_wp2_with fail
  refine (cS.out _).mono ?_
  rintro e w4 ⟨rfl, b4⟩
  replace b4 := hide b4
  go_wp2_with fail
  have S5 : Hid (St w w4.heap.size ⟨#[]⟩ ⟨#[]⟩ ⟨#[]⟩ (w4.alloc (.cells #[.string ⟨#[]⟩, .string ⟨#[]⟩, .string ⟨#[]⟩] 80))) := by
    have z1 := b1.out.size
    have z2 := b2.out.size
    have z3 := b3.out.size
    have z4 := b4.out.size
    have ba : Below w.heap.size w (w.alloc (.cells #[.string ⟨#[]⟩, .string ⟨#[]⟩, .string ⟨#[]⟩] 80)) := (Below.refl _ _).alloc (Nat.le_refl _) _
    have a0 : Arr3 w.heap.size ⟨#[]⟩ ⟨#[]⟩ ⟨#[]⟩ (w.alloc (.cells #[.string ⟨#[]⟩, .string ⟨#[]⟩, .string ⟨#[]⟩] 80)) := ⟨by simp, by simp, by simp, by simp, by simp, by simp, by simp⟩
    have a4 := arr_below (arr_below (arr_below (arr_below a0 b1.out) b2.out) b3.out) b4.out
    have hz : (w.alloc (.cells #[.string ⟨#[]⟩, .string ⟨#[]⟩, .string ⟨#[]⟩] 80)).heap.size = w.heap.size + 1 := by simp
    have bb : Below w.heap.size w w4 := (((ba.trans (b1.out.mono (by omega))).trans (b2.out.mono (by omega))).trans (b3.out.mono (by omega))).trans (b4.out.mono (by omega))
    refine ⟨arr_below a4 ((Below.refl _ _).alloc (Nat.le_refl _) _), ⟨by simp, by simp, by simp, by simp, by simp, by simp, by simp⟩, bb.alloc (by omega) _, by omega⟩
  clear b1 b2 b3 b4
  generalize (w4.alloc (.cells #[.string ⟨#[]⟩, .string ⟨#[]⟩, .string ⟨#[]⟩] 80)) = w5 at S5 ⊢
  generalize w4.heap.size = g at S5 ⊢
  clear cH cM cS
  have CZ : (h2 ++ ⟨#[58]⟩ ++ i2 ++ ⟨#[58]⟩ ++ s2 : ByteArray).size = 8 := by rw [CL.out]; rfl
  generalize (h2 ++ ⟨#[58]⟩ ++ i2 ++ ⟨#[58]⟩ ++ s2 : ByteArray) = ck at CL CZ ⊢
  have lw := wkL_len n
  have lm := moL_len m0 m1
  obtain ⟨wk, hwk⟩ : ∃ x : ByteArray, x = ⟨(wkL n).toArray⟩ := ⟨_, rfl⟩
  obtain ⟨mo, hmo⟩ : ∃ x : ByteArray, x = ⟨(moL m).toArray⟩ := ⟨_, rfl⟩
  obtain ⟨dd, hdd⟩ : ∃ x : ByteArray, x = ⟨(D2 d).toArray⟩ := ⟨_, rfl⟩
  obtain ⟨yy, hyy⟩ : ∃ x : ByteArray, x = ⟨(D4 y).toArray⟩ := ⟨_, rfl⟩
  obtain ⟨yc, hyc⟩ : ∃ x : ByteArray, x = ⟨(D2 (y % 100)).toArray⟩ := ⟨_, rfl⟩
  obtain ⟨sd, hsd⟩ : ∃ x : ByteArray, x = ⟨(if d < 10 then [dg d] else D2 d).toArray⟩ := ⟨_, rfl⟩
  have cW := hide (fun W => weekRef n n0 n1 W)
  have cD := hide (twoRefI d (by omega) (by omega))
  have cO := hide (same_below (fun W => monthRef m m0 m1 W))
  have cY := hide (fourRefI y (by omega) (by omega))
  have cC := hide (twoRefI (y % 100) (by omega) (by omega))
  have cP := hide (fun W => padShow d0 (show d ≤ 31 by omega) W)
  have zw : 3 ≤ wk.size := by rw [hwk]; show 3 ≤ (wkL n).length; omega
  have zw9 : wk.size ≤ 9 := by rw [hwk]; exact lw.2
  have zm : mo.size = 3 := by rw [hmo]; exact lm
  have zd : dd.size = 2 := by rw [hdd]; rfl
  have zy : yy.size = 4 := by rw [hyy]; rfl
  have zc : yc.size = 2 := by rw [hyc]; rfl
  have zp1 : Hid (d < 10 → sd.size = 1) := by intro hd; rw [hsd]; show (if d < 10 then [dg d] else D2 d).length = 1; rw [if_pos hd]; rfl
  have zp2 : Hid (10 ≤ d → sd.size = 2) := by intro hd; rw [hsd]; show (if d < 10 then [dg d] else D2 d).length = 2; rw [if_neg (by omega)]; rfl
  have z3 : (wk.extract 0 3).size = 3 := by rw [ByteArray.size_extract]; omega
  have g0 : (3 : Int) ≤ (wk.size : Int) := by omega
  have HA : Hid (((((((((wk.extract 0 3 ++ ⟨#[44, 32]⟩) ++ dd) ++ ⟨#[32]⟩) ++ mo) ++ ⟨#[32]⟩) ++ yy) ++ ⟨#[32]⟩) ++ ck) ++ ⟨#[32, 71, 77, 84]⟩ = (⟨(showL n r y m d).toArray⟩ : ByteArray)) := by
    unfold Hid
    apply ba_ofD
    rw [hwk, hmo, hdd, hyy, CL.out]
    simp only [app_list, extract_list, showL]
    simp
  have HB : Hid ((((((((wk ++ ⟨#[44, 32]⟩) ++ dd) ++ ⟨#[45]⟩) ++ mo) ++ ⟨#[45]⟩) ++ yc) ++ ⟨#[32]⟩) ++ ck ++ ⟨#[32, 71, 77, 84]⟩ = (⟨(dashL n r y m d).toArray⟩ : ByteArray)) := by
    unfold Hid
    apply ba_ofD
    rw [hwk, hmo, hdd, hyc, CL.out]
    simp only [app_list, dashL]
  have HC1 : d < 10 → Hid ((((((((wk.extract 0 3 ++ ⟨#[32]⟩) ++ mo) ++ ⟨#[32]⟩) ++ (⟨#[32]⟩ ++ sd)) ++ ⟨#[32]⟩) ++ ck) ++ ⟨#[32]⟩) ++ yy = (⟨(blankL n r y m d).toArray⟩ : ByteArray)) := by
    intro hd
    unfold Hid
    apply ba_ofD
    rw [hwk, hmo, hsd, hyy, CL.out, if_pos hd]
    simp only [app_list, extract_list, blankL, padL, if_pos hd]
    simp
  have HC2 : 10 ≤ d → Hid ((((((((wk.extract 0 3 ++ ⟨#[32]⟩) ++ mo) ++ ⟨#[32]⟩) ++ sd) ++ ⟨#[32]⟩) ++ ck) ++ ⟨#[32]⟩) ++ yy = (⟨(blankL n r y m d).toArray⟩ : ByteArray)) := by
    intro hd
    unfold Hid
    apply ba_ofD
    rw [hwk, hmo, hsd, hyy, CL.out, if_neg (by omega)]
    simp only [app_list, extract_list, blankL, padL, if_neg (show ¬ d < 10 by omega)]
    simp
  replace HC1 := hide HC1
  replace HC2 := hide HC2
  rw [← hwk] at cW
  rw [← hmo] at cO
  rw [← hdd] at cD
  rw [← hyy] at cY
  rw [← hyc] at cC
  rw [← hsd] at cP
  clear hwk hmo hdd hyy hyc hsd lw lm CL
  go_region_held3 (fun _ => True) (trivial)
    (first
      | (go_at_call 62; refine (st_call cW.out (st_drew S5.out)).mono ?_; rintro e' w6 ⟨rfl, S6, k1, k2, k3, f1, f2, f3⟩)
      | (go_at_call_of 61 (d); refine (st_call cD.out S6.out).mono ?_; rintro e' w7 ⟨rfl, S7, l1, l2, l3, o1, o2, o3⟩)
      | (go_at_call 49; refine (st_call cO.out S7.out).mono ?_; rintro e' w8 ⟨rfl, S8, p1, p2, p3, u1, u2, u3⟩)
      | (go_at_call_of 61 (y); refine (st_call cY.out S8.out).mono ?_; rintro e' w9 ⟨rfl, S9, v1, v2, v3, x1, x2, x3⟩))
  rw [HA.out]
  have HR : Hid (Ending.returned (.agg #[.string ⟨(showL n r y m d).toArray⟩, .string ⟨(dash2L n r y m d).toArray⟩, .string ⟨(blankL n r y m d).toArray⟩]) = Ending.returned (.agg #[.string ⟨(showL (t / 86400) (t % 86400) y m d).toArray⟩, .string ⟨(dash2L (t / 86400) (t % 86400) y m d).toArray⟩, .string ⟨(blankL (t / 86400) (t % 86400) y m d).toArray⟩])) := by
    unfold Hid; rw [Hn.out, Hr.out]
  generalize (⟨(showL n r y m d).toArray⟩ : ByteArray) = A at HR HA ⊢
  have S10 := hide (st_set0 S9.out A)
  clear k1 k2 k3 f1 f2 f3 l1 l2 l3 o1 o2 o3 p1 p2 p3 u1 u2 u3 v1 v2 v3 x1 x2 x3 S5 S6 S7 S8 S9
  generalize w9.setCell ⟨g, 0, none⟩ (.string A) = w10 at S10 ⊢
  by_cases hy : y < 2070
  · have ed : dash2L n r y m d = dashL n r y m d := by unfold dash2L; rw [if_pos hy]
    rw [ed] at HR
    go_wp2_with fail
    refine (st_call cW.out S10.out).mono ?_
    rintro e' w11 ⟨rfl, S11, k1, k2, k3, f1, f2, f3⟩
    clear k1 k2 k3 f1 f2 f3 S10
    go_wp2_with fail
    refine (st_call cD.out S11.out).mono ?_
    rintro e' w12 ⟨rfl, S12, k1, k2, k3, f1, f2, f3⟩
    clear k1 k2 k3 f1 f2 f3 S11
    go_wp2_with fail
    refine (st_call cO.out S12.out).mono ?_
    rintro e' w13 ⟨rfl, S13, k1, k2, k3, f1, f2, f3⟩
    clear k1 k2 k3 f1 f2 f3 S12
    go_wp2_with fail
    refine (st_call cC.out S13.out).mono ?_
    rintro e' w14 ⟨rfl, S14, k1, k2, k3, f1, f2, f3⟩
    clear S13
    go_wp2_with fail
    rw [HB.out]
    generalize (⟨(dashL n r y m d).toArray⟩ : ByteArray) = E at HR HB ⊢
    clear k1 k2 k3 f1 f2 f3
    refine (st_call cP.out (st_set1 S14.out E)).mono ?_
    rintro e' w15 ⟨rfl, S15, k1, k2, k3, f1, f2, f3⟩
    clear k1 k2 k3 f1 f2 f3
    by_cases hd : d < 10
    · have zsd := zp1.out hd
      go_wp2_with fail
      go_region_held3 (fun _ => True) (trivial)
        (first
          | (go_at_call 62; refine (st_call cW.out (st_drew S15.out)).mono ?_; rintro e' w16 ⟨rfl, S16, k1, k2, k3, f1, f2, f3⟩)
          | (go_at_call 49; refine (st_call cO.out S16.out).mono ?_; rintro e' w17 ⟨rfl, S17, l1, l2, l3, o1, o2, o3⟩)
          | (go_at_call 61; refine (st_call cY.out S17.out).mono ?_; rintro e' w18 ⟨rfl, S18, v1, v2, v3, x1, x2, x3⟩))
      have EC := HC1.out hd
      rw [EC.out]
      generalize (⟨(blankL n r y m d).toArray⟩ : ByteArray) = C at HR EC ⊢
      have S19 := hide (st_set2 S18.out C)
      clear k1 k2 k3 f1 f2 f3 l1 l2 l3 o1 o2 o3 v1 v2 v3 x1 x2 x3 S15 S16 S17 S18
      generalize w18.setCell ⟨g, 2, none⟩ (.string C) = w19 at S19 ⊢
      obtain ⟨k1, k2, k3, f1, f2, f3, k4⟩ := S19.out.2.1
      obtain ⟨l1, l2, l3, o1, o2, o3, l4⟩ := S19.out.1
      go_wp2_with fail
      obtain ⟨⟨q1, q2, q3, _⟩, qb⟩ := st_out S19.out
      exact bodyPost_ret (v := .agg #[.string A, .string E, .string C]) (by simp [results, Tryd.results51, go_sem, q1, q2, q3]) rfl ⟨HR.out, qb⟩
    · have hd' : 10 ≤ d := by omega
      have zsd := zp2.out hd'
      go_wp2_with fail
      go_region_held3 (fun _ => True) (trivial)
        (first
          | (go_at_call 62; refine (st_call cW.out (st_drew S15.out)).mono ?_; rintro e' w16 ⟨rfl, S16, k1, k2, k3, f1, f2, f3⟩)
          | (go_at_call 49; refine (st_call cO.out S16.out).mono ?_; rintro e' w17 ⟨rfl, S17, l1, l2, l3, o1, o2, o3⟩)
          | (go_at_call 61; refine (st_call cY.out S17.out).mono ?_; rintro e' w18 ⟨rfl, S18, v1, v2, v3, x1, x2, x3⟩))
      have EC := HC2.out hd'
      rw [EC.out]
      generalize (⟨(blankL n r y m d).toArray⟩ : ByteArray) = C at HR EC ⊢
      have S19 := hide (st_set2 S18.out C)
      clear k1 k2 k3 f1 f2 f3 l1 l2 l3 o1 o2 o3 v1 v2 v3 x1 x2 x3 S15 S16 S17 S18
      generalize w18.setCell ⟨g, 2, none⟩ (.string C) = w19 at S19 ⊢
      obtain ⟨k1, k2, k3, f1, f2, f3, k4⟩ := S19.out.2.1
      obtain ⟨l1, l2, l3, o1, o2, o3, l4⟩ := S19.out.1
      go_wp2_with fail
      obtain ⟨⟨q1, q2, q3, _⟩, qb⟩ := st_out S19.out
      exact bodyPost_ret (v := .agg #[.string A, .string E, .string C]) (by simp [results, Tryd.results51, go_sem, q1, q2, q3]) rfl ⟨HR.out, qb⟩
  · have ed : dash2L n r y m d = [] := by unfold dash2L; rw [if_neg hy]
    rw [ed] at HR
    have hy' : 2070 ≤ y := by omega
    go_wp2_with fail
    refine (st_call cP.out S10.out).mono ?_
    rintro e' w15 ⟨rfl, S15, k1, k2, k3, f1, f2, f3⟩
    clear k1 k2 k3 f1 f2 f3
    by_cases hd : d < 10
    · have zsd := zp1.out hd
      go_wp2_with fail
      go_region_held3 (fun _ => True) (trivial)
        (first
          | (go_at_call 62; refine (st_call cW.out (st_drew S15.out)).mono ?_; rintro e' w16 ⟨rfl, S16, k1, k2, k3, f1, f2, f3⟩)
          | (go_at_call 49; refine (st_call cO.out S16.out).mono ?_; rintro e' w17 ⟨rfl, S17, l1, l2, l3, o1, o2, o3⟩)
          | (go_at_call 61; refine (st_call cY.out S17.out).mono ?_; rintro e' w18 ⟨rfl, S18, v1, v2, v3, x1, x2, x3⟩))
      have EC := HC1.out hd
      rw [EC.out]
      generalize (⟨(blankL n r y m d).toArray⟩ : ByteArray) = C at HR EC ⊢
      have S19 := hide (st_set2 S18.out C)
      clear k1 k2 k3 f1 f2 f3 l1 l2 l3 o1 o2 o3 v1 v2 v3 x1 x2 x3 S15 S16 S17 S18
      generalize w18.setCell ⟨g, 2, none⟩ (.string C) = w19 at S19 ⊢
      obtain ⟨k1, k2, k3, f1, f2, f3, k4⟩ := S19.out.2.1
      obtain ⟨l1, l2, l3, o1, o2, o3, l4⟩ := S19.out.1
      go_wp2_with fail
      obtain ⟨⟨q1, q2, q3, _⟩, qb⟩ := st_out S19.out
      exact bodyPost_ret (v := .agg #[.string A, .string ⟨#[]⟩, .string C]) (by simp [results, Tryd.results51, go_sem, q1, q2, q3]) rfl ⟨HR.out, qb⟩
    · have hd' : 10 ≤ d := by omega
      have zsd := zp2.out hd'
      go_wp2_with fail
      go_region_held3 (fun _ => True) (trivial)
        (first
          | (go_at_call 62; refine (st_call cW.out (st_drew S15.out)).mono ?_; rintro e' w16 ⟨rfl, S16, k1, k2, k3, f1, f2, f3⟩)
          | (go_at_call 49; refine (st_call cO.out S16.out).mono ?_; rintro e' w17 ⟨rfl, S17, l1, l2, l3, o1, o2, o3⟩)
          | (go_at_call 61; refine (st_call cY.out S17.out).mono ?_; rintro e' w18 ⟨rfl, S18, v1, v2, v3, x1, x2, x3⟩))
      have EC := HC2.out hd'
      rw [EC.out]
      generalize (⟨(blankL n r y m d).toArray⟩ : ByteArray) = C at HR EC ⊢
      have S19 := hide (st_set2 S18.out C)
      clear k1 k2 k3 f1 f2 f3 l1 l2 l3 o1 o2 o3 v1 v2 v3 x1 x2 x3 S15 S16 S17 S18
      generalize w18.setCell ⟨g, 2, none⟩ (.string C) = w19 at S19 ⊢
      obtain ⟨k1, k2, k3, f1, f2, f3, k4⟩ := S19.out.2.1
      obtain ⟨l1, l2, l3, o1, o2, o3, l4⟩ := S19.out.1
      go_wp2_with fail
      obtain ⟨⟨q1, q2, q3, _⟩, qb⟩ := st_out S19.out
      exact bodyPost_ret (v := .agg #[.string A, .string ⟨#[]⟩, .string C]) (by simp [results, Tryd.results51, go_sem, q1, q2, q3]) rfl ⟨HR.out, qb⟩
end Go.Proofs.YtikokjclhpgocabDoor
