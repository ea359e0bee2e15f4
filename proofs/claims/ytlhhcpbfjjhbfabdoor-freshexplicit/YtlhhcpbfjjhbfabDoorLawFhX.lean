/- The walk of FreshExplicit. -/
import Derived.Test.YtlhhcpbfjjhbfabDoorLawFhA
import Derived.Test.YtlhhcpbfjjhbfabDoorLawShows
import Derived.Test.YtlhhcpbfjjhbfabDoorShw
import Derived.Test.YtlhhcpbfjjhbfabDoorKnQ
namespace Go.Proofs.YtlhhcpbfjjhbfabDoor
open Go.RowKit
def fx1 (L : List UInt8) : FL := [(exb, [120]), (ccl, mab ++ 61 :: L)]
def fx2 (X Y : List UInt8) : FL := [(dab, X), (exb, Y)]
theorem told1 (k : Nat) (hk : k ≤ 2147483648) : Told (fx1 (Lib.decDigits k)) false false false false false false (k : Int) (-1) (-1) (-1) := by
  have hv : valsOf (fx1 (Lib.decDigits k)) ccb = [mab ++ 61 :: Lib.decDigits k] := by unfold valsOf fx1; simp [show lows ccl = lows ccb by decide, show ¬ lows exb = lows ccb by decide]
  have w1 : (mab ++ 61 :: Lib.decDigits k).all wrdB = true := by
    have := word_dec (mab ++ [61]) (by decide +kernel) k
    simpa using this
  have hd : dirsOf [mab ++ 61 :: Lib.decDigits k] = [(mab, Lib.decDigits k, true)] := by
    rw [dirs_one, listOf_word _ (by simp [mab]) w1, List.map_cons, dir_ma]
    rfl
  have e : ∀ nm, ¬ mab = nm → fndD [(mab, Lib.decDigits k, true)] nm = none := fun nm h => by simp [fndD, h]
  have e2 : numO (some (mab, Lib.decDigits k, true)) = (k : Int) := by
    show max (secs (Lib.decDigits k)) 0 = (k : Int)
    rw [secs_dec k hk]
    omega
  refine ⟨?_, by omega, by omega, by omega, by omega⟩
  unfold parOf
  rw [hv, hd]
  unfold ctlV hasD numD
  rw [e nsb (by decide), e ncb (by decide), e pvb (by decide), e pub (by decide), e mrb (by decide), e xrb (by decide), e oib (by decide), e smb (by decide), e mfb (by decide), e msb (by decide), show fndD [(mab, Lib.decDigits k, true)] mab = some (mab, Lib.decDigits k, true) by simp [fndD], e2]
  rfl
theorem told2 (X Y : List UInt8) : Told (fx2 X Y) false false false false false false (-1) (-1) (-1) (-1) := by
  have hv : valsOf (fx2 X Y) ccb = [] := by unfold valsOf fx2; simp [show ¬ lows dab = lows ccb by decide, show ¬ lows exb = lows ccb by decide]
  have hp : valsOf (fx2 X Y) pgb = [] := by unfold valsOf fx2; simp [show ¬ lows dab = lows pgb by decide, show ¬ lows exb = lows pgb by decide]
  exact ⟨by unfold parOf; rw [hv, hp]; rfl, by omega, by omega, by omega, by omega⟩
theorem show_29 (n r y d : Int) {m : Int} (m0 : 1 ≤ m) (m1 : m ≤ 12) : (showL n r y m d).length = 29 := by
  have a := wkL_len n
  have b := moL_len m0 m1
  simp [showL, hmsL, D2, D4, b]
  omega
theorem join_one (X : List UInt8) : joinOf [X] = X := by
  have h := join_first [X] (by simp)
  simpa using h
theorem vals1_dab (L : List UInt8) : valsOf (fx1 L) dab = [] := by unfold valsOf fx1; simp [show ¬ lows ccl = lows dab by decide, show ¬ lows exb = lows dab by decide]
theorem vals1_lmb (L : List UInt8) : valsOf (fx1 L) lmb = [] := by unfold valsOf fx1; simp [show ¬ lows ccl = lows lmb by decide, show ¬ lows exb = lows lmb by decide]
theorem vals2_dab (X Y : List UInt8) : valsOf (fx2 X Y) dab = [X] := by unfold valsOf fx2; simp [show ¬ lows exb = lows dab by decide]
theorem vals2_exb (X Y : List UInt8) : valsOf (fx2 X Y) exb = [Y] := by unfold valsOf fx2; simp [show ¬ lows dab = lows exb by decide]
theorem vals2_lmb (X Y : List UInt8) : valsOf (fx2 X Y) lmb = [] := by unfold valsOf fx2; simp [show ¬ lows dab = lows lmb by decide, show ¬ lows exb = lows lmb by decide]
theorem dt_show {t y m d : Int} (t0 : 0 ≤ t) (t1 : t ≤ 253402300799) (hv : Valid y m d) (hd : dayOf y m d = t / 86400) : DtP (showL (t / 86400) (t % 86400) y m d) t :=
  ⟨by omega, t1, t, 0, .inr ⟨t0, rfl, rfl⟩, parse_of_form ⟨(showL (t / 86400) (t % 86400) y m d).toArray⟩ t ⟨t0, t1, y, m, d, hv, hd, .inl rfl⟩⟩
theorem life1 (x k g s : Int) (hk : 0 ≤ k) (hE : Bool) (p0 p1 p2 p3 : Int) : lifeN (-1) k hE (-1) x (-1) s g p0 p2 p3 p1 = k := by
  unfold lifeN
  rw [if_neg (by simp), if_pos (by omega)]
theorem life2 (t k g s : Int) (t0 : 0 ≤ t) (hk : 0 ≤ k) (h2 : k ≤ 2147483648) (p0 p1 p2 p3 : Int) : lifeN (-1) (-1) true t (t + k) (-1) s g p0 p2 p3 p1 = k := by
  unfold lifeN untN dtN sN
  rw [if_neg (by simp), if_neg (by simp), if_pos rfl, if_neg (by omega), if_neg (by omega)]
  omega
set_option maxRecDepth 20000 in
set_option maxHeartbeats 8000000 in
theorem explicitW (sec at' : Int) (p0 p1 p2 p3 : Int) (w : World) (E : EvD w) :
    Calls Tryd.prog 4 #[.int .i64 sec, .int .i64 at', .agg #[.int .i64 p0, .int .i64 p1, .int .i64 p2, .int .i64 p3]] w fun e w' => e = .returned (.bool true) ∧ Below w.heap.size w w' := by
  have b0 := below_alloc' w (.cells #[.int .i64 p0, .int .i64 p1, .int .i64 p2, .int .i64 p3] 35)
  have P0 := cells_lit w #[.int .i64 p0, .int .i64 p1, .int .i64 p2, .int .i64 p3] 35
  have cA := hide' (aliveF _ (evD_below E b0))
  have B0 := hide' b0
  replace P0 := hide' P0
  replace E := hide' E
  clear b0
  go_enter Tryd.func4, Tryd.ntmps4
  go_wp2_with fail
  refine cA.out.mono ?_
  rintro e w1 ⟨rfl, bw⟩
  have B1 := hide' (bt' B0.out bw)
  have P1 := hide' (cells_below P0.out bw)
  clear bw B0 P0 cA
  by_cases h0 : sec < 0
  · go_wp2_with fail
    go_ret
    exact ⟨rfl, B1.out⟩
  by_cases h1 : 2147483648 < sec
  · go_wp2_with fail
    go_ret
    exact ⟨rfl, B1.out⟩
  by_cases h2 : at' < 0
  · go_wp2_with fail
    go_ret
    exact ⟨rfl, B1.out⟩
  by_cases h3 : 68719476736 < at'
  · go_wp2_with fail
    go_ret
    exact ⟨rfl, B1.out⟩
  obtain ⟨k, rfl⟩ : ∃ k : Nat, sec = (k : Int) := ⟨sec.toNat, by omega⟩
  have hk : k ≤ 2147483648 := by omega
  have a0 : 0 ≤ at' := by omega
  have a1 : at' ≤ 68719476736 := by omega
  have cM := hide' (minuteC w1)
  go_wp2_with fail
  refine cM.out.mono ?_
  rintro e w2 ⟨fa, rfl, -, bw⟩
  have bz := bt' bw (below_alloc' w2 (.cells #[.string ⟨#[]⟩, .string ⟨#[]⟩, .int .i64 200, .string ⟨#[]⟩, .int .i64 0, .slice (some fa) 1 1, .slice none 0 0, .int .i64 1000, .int .i64 1000] 39))
  have B2 := hide' (bt' B1.out bz)
  have P2 := hide' (cells_below P1.out bz)
  have Z2 := hide' (cells_lit w2 #[.string ⟨#[]⟩, .string ⟨#[]⟩, .int .i64 200, .string ⟨#[]⟩, .int .i64 0, .slice (some fa) 1 1, .slice none 0 0, .int .i64 1000, .int .i64 1000] 39)
  have ZL : Hid (w.heap.size < w2.heap.size) := Nat.lt_of_lt_of_le P1.out.2 bw.size
  clear bw bz B1 P1 cM
  have cS := hide' (fun W => showNat k (by omega) W)
  have DL : Hid ((⟨(Lib.decDigits k).toArray⟩ : ByteArray).data.toList = Lib.decDigits k) := by unfold Hid; simp
  have hsz : (⟨(Lib.decDigits k).toArray⟩ : ByteArray).size ≤ 20 := by
    rw [size_l]
    by_cases h0 : k = 0
    · subst h0; rw [Lib.decDigits_one (by omega)]; simp
    · have := decE_len 20 k (by omega)
      unfold decE at this
      rw [if_neg h0] at this
      exact this
  have hlen : (Lib.decDigits k).length ≤ 20 := by rw [size_l] at hsz; exact hsz
  have BL1 : Hid (bulkF (fx1 (Lib.decDigits k)) ≤ 1048576) := by unfold Hid; simp [bulkF, fx1, exb, ccl, mab]; omega
  clear hlen
  generalize (⟨(Lib.decDigits k).toArray⟩ : ByteArray) = D at cS DL hsz
  obtain ⟨z, hz⟩ : ∃ z, z = w2.heap.size := ⟨_, rfl⟩
  obtain ⟨WA, hWA⟩ : ∃ WA, WA = w2.alloc (.cells #[.string ⟨#[]⟩, .string ⟨#[]⟩, .int .i64 200, .string ⟨#[]⟩, .int .i64 0, .slice (some fa) 1 1, .slice none 0 0, .int .i64 1000, .int .i64 1000] 39) := ⟨_, rfl⟩
  rw [← hWA] at B2 P2 Z2
  rw [← hz] at Z2 ZL
  go_upto_region 6 with fail
  rw [← hWA, ← hz]
  clear hWA hz
  have c3 := cells_nine Z2.out
  go_wp2_with fail
  refine (cS.out _).mono ?_
  rintro e w3 ⟨rfl, bw⟩
  have B3 := hide' (bt' B2.out bw)
  have P3 := hide' (cells_below P2.out bw)
  have Z3 := hide' (cells_below Z2.out bw)
  clear bw B2 P2 Z2 c3
  have k1 := hide' (fun b W (h : EvD W) (hx : HoldsF W (.slice (some ⟨b, 0, none⟩) 2 2) (fx1 (Lib.decDigits k))) => by
    obtain ⟨x, hX⟩ := dt_ex (joinOf (valsOf (fx1 (Lib.decDigits k)) exb)) (by have h1 := join_len (valsOf (fx1 (Lib.decDigits k)) exb); have h2 := bulk_vals (fx1 (Lib.decDigits k)) exb; have h3 := BL1.out; omega)
    have c := lifeFC ⟨#[]⟩ ⟨#[]⟩ ⟨#[]⟩ 200 0 1000 1000 (some ⟨b, 0, none⟩) none 2 0 2 0 p0 p1 p2 p3 (fx1 (Lib.decDigits k)) false false false false false false (k : Int) (-1) (-1) (-1) (-1) x (-1) W hx BL1.out h (told1 k hk) (by rw [vals1_dab]; exact dt_nil) hX (by rw [vals1_lmb]; exact dt_nil)
    rw [life1 _ _ _ _ (by omega)] at c
    exact c)
  have F1 := fun WS => (show HoldsF (WS.alloc (.cells #[.string ⟨#[69, 120, 112, 105, 114, 101, 115]⟩, .string ⟨#[120]⟩, .string ⟨#[99, 97, 99, 104, 101, 45, 99, 111, 110, 116, 114, 111, 108]⟩, .string (⟨#[109, 97, 120, 45, 97, 103, 101, 61]⟩ ++ D)] 42)) (.slice (some ⟨World.heap WS |>.size, 0, none⟩) 2 2) (fx1 (Lib.decDigits k)) from by
    have h := holdsF_lit2 WS exb [120] ccl (mab ++ 61 :: Lib.decDigits k)
    have e : (⟨(mab ++ 61 :: Lib.decDigits k).toArray⟩ : ByteArray) = ⟨#[109, 97, 120, 45, 97, 103, 101, 61]⟩ ++ D := (ba_of (by rw [ByteArray.data_append]; simp [DL.out, mab])).symm
    unfold S at h
    rw [e] at h
    exact h)
  obtain ⟨y1, hy1⟩ : ∃ y1, y1 = w3.heap.size := ⟨_, rfl⟩
  obtain ⟨WS, hWS⟩ : ∃ WS, WS = w3.setCell ⟨z, 5, none⟩ (.slice (some ⟨y1, 0, none⟩) 2 2) := ⟨_, rfl⟩
  have sWS : WS.heap.size = y1 := by rw [hWS, hy1]; simp
  have ZS : Blk z WS [.string ⟨#[]⟩, .string ⟨#[]⟩, .int .i64 200, .string ⟨#[]⟩, .int .i64 0, .slice (some ⟨y1, 0, none⟩) 2 2, .slice none 0 0, .int .i64 1000, .int .i64 1000] := by rw [hWS]; exact cells_set Z3.out (by simp) (.slice (some ⟨y1, 0, none⟩) 2 2)
  have PS : Blk w.heap.size WS [.int .i64 p0, .int .i64 p1, .int .i64 p2, .int .i64 p3] := by rw [hWS]; exact cells_other P3.out (by have := ZL.out; omega) _
  have BS : Below w.heap.size w WS := by rw [hWS]; exact B3.out.setCell (by have := ZL.out; show w.heap.size ≤ z; omega) _
  obtain ⟨X1, hX1⟩ : ∃ X1, X1 = WS.alloc (.cells #[.string ⟨#[69, 120, 112, 105, 114, 101, 115]⟩, .string ⟨#[120]⟩, .string ⟨#[99, 97, 99, 104, 101, 45, 99, 111, 110, 116, 114, 111, 108]⟩, .string (⟨#[109, 97, 120, 45, 97, 103, 101, 61]⟩ ++ D)] 42) := ⟨_, rfl⟩
  have bX := below_alloc' WS (.cells #[.string ⟨#[69, 120, 112, 105, 114, 101, 115]⟩, .string ⟨#[120]⟩, .string ⟨#[99, 97, 99, 104, 101, 45, 99, 111, 110, 116, 114, 111, 108]⟩, .string (⟨#[109, 97, 120, 45, 97, 103, 101, 61]⟩ ++ D)] 42)
  have h1X := F1 WS
  rw [sWS] at h1X
  rw [← hX1] at bX h1X
  have B4 := hide' (bt' BS bX)
  have Z4' := hide' (cells_below ZS bX)
  have P4 := hide' (cells_below PS bX)
  have kL1 := hide' (k1.out y1 X1 (evD_below E.out B4.out) h1X)
  have z3 := cells_nine Z3.out
  have zl := Z3.out.2
  have nz1 : z ≠ w3.heap.size := by omega
  have nz2 : w3.heap.size ≠ z := by omega
  clear h1X F1 bX BS PS ZS sWS k1
  go_upto_region 7 with fail
  rw [← hy1, ← hWS, ← hX1]
  clear hy1 hWS hX1 z3 zl nz1 nz2 Z3 P3 B3
  obtain ⟨-, e0, e1, e2, e3, e4, e5, e6, e7, e8⟩ := enC_open (show EnC z X1 ⟨#[]⟩ ⟨#[]⟩ ⟨#[]⟩ 200 0 1000 1000 (some ⟨y1, 0, none⟩) none 2 0 2 0 from Z4'.out)
  obtain ⟨-, r0, r1, r2, r3⟩ := poC_open (show PoC w.heap.size X1 p0 p1 p2 p3 from P4.out)
  go_wp2_with fail
  refine kL1.out.mono ?_
  rintro e w4 ⟨rfl, bw⟩
  have B5 := hide' (bt' B4.out bw)
  have Z5 := hide' (cells_below Z4'.out bw)
  have P5 := hide' (cells_below P4.out bw)
  clear bw B4 Z4' P4 kL1 e0 e1 e2 e3 e4 e5 e6 e7 e8 r0 r1 r2 r3
  obtain ⟨ya, ma, da, hva, hda⟩ := dateOf a0 (show at' ≤ 253402300799 by omega)
  obtain ⟨yb, mb, db, hvb, hdb⟩ := dateOf (t := at' + (k : Int)) (by omega) (by omega)
  have cX := hide' (fun W => showRef at' ya ma da a0 (by omega) hva hda W)
  have cY := hide' (fun W => showRef (at' + (k : Int)) yb mb db (by omega) (by omega) hvb hdb W)
  have dX := dt_show a0 (by omega) hva hda
  have dY := dt_show (t := at' + (k : Int)) (by omega) (by omega) hvb hdb
  have lX : (showL (at' / 86400) (at' % 86400) ya ma da).length = 29 := show_29 _ _ _ _ hva.m0 hva.m1
  have lY : (showL ((at' + (k : Int)) / 86400) ((at' + (k : Int)) % 86400) yb mb db).length = 29 := show_29 _ _ _ _ hvb.m0 hvb.m1
  generalize showL (at' / 86400) (at' % 86400) ya ma da = X at cX dX lX
  generalize showL ((at' + (k : Int)) / 86400) ((at' + (k : Int)) % 86400) yb mb db = Y at cY dY lY
  go_wp2_with fail
  refine (cX.out _).mono ?_
  rintro e w5 ⟨rfl, bw⟩
  replace B5 := hide' (bt' B5.out bw)
  replace Z5 := hide' (cells_below Z5.out bw)
  replace P5 := hide' (cells_below P5.out bw)
  clear bw cX
  go_wp2_with fail
  refine (cY.out _).mono ?_
  rintro e w6 ⟨rfl, bw⟩
  have B6 := hide' (bt' B5.out bw)
  have Z6 := hide' (cells_below Z5.out bw)
  have P6 := hide' (cells_below P5.out bw)
  clear bw cY B5 Z5 P5
  have BL2 : bulkF (fx2 X Y) ≤ 1048576 := by simp [bulkF, fx2, dab, exb, lX, lY]
  have k2 := hide' (fun b W (h : EvD W) (hx : HoldsF W (.slice (some ⟨b, 0, none⟩) 2 2) (fx2 X Y)) => by
    have c := lifeFC ⟨#[]⟩ ⟨#[]⟩ ⟨#[]⟩ 200 0 1000 1000 (some ⟨b, 0, none⟩) none 2 0 2 0 p0 p1 p2 p3 (fx2 X Y) false false false false false false (-1) (-1) (-1) (-1) at' (at' + (k : Int)) (-1) W hx BL2 h (told2 X Y) (by rw [vals2_dab, join_one]; exact dX) (by rw [vals2_exb, join_one]; exact dY) (by rw [vals2_lmb]; exact dt_nil)
    rw [show hasN (fx2 X Y) exb = true by unfold hasN; rw [vals2_exb]; rfl, life2 _ _ _ _ a0 (by omega) (by omega)] at c
    exact c)
  obtain ⟨y2, hy2⟩ : ∃ y2, y2 = w6.heap.size := ⟨_, rfl⟩
  obtain ⟨WT, hWT⟩ : ∃ WT, WT = w6.setCell ⟨z, 5, none⟩ (.slice (some ⟨y2, 0, none⟩) 2 2) := ⟨_, rfl⟩
  have sWT : WT.heap.size = y2 := by rw [hWT, hy2]; simp
  have ZT : Blk z WT [.string ⟨#[]⟩, .string ⟨#[]⟩, .int .i64 200, .string ⟨#[]⟩, .int .i64 0, .slice (some ⟨y2, 0, none⟩) 2 2, .slice none 0 0, .int .i64 1000, .int .i64 1000] := by rw [hWT]; exact cells_set Z6.out (by simp) (.slice (some ⟨y2, 0, none⟩) 2 2)
  have PT' : Blk w.heap.size WT [.int .i64 p0, .int .i64 p1, .int .i64 p2, .int .i64 p3] := by rw [hWT]; exact cells_other P6.out (by have := ZL.out; omega) _
  have BT : Below w.heap.size w WT := by rw [hWT]; exact B6.out.setCell (by have := ZL.out; show w.heap.size ≤ z; omega) _
  obtain ⟨X2, hX2⟩ : ∃ X2, X2 = WT.alloc (.cells #[.string ⟨#[68, 97, 116, 101]⟩, .string ⟨X.toArray⟩, .string ⟨#[69, 120, 112, 105, 114, 101, 115]⟩, .string ⟨Y.toArray⟩] 42) := ⟨_, rfl⟩
  have bX := below_alloc' WT (.cells #[.string ⟨#[68, 97, 116, 101]⟩, .string ⟨X.toArray⟩, .string ⟨#[69, 120, 112, 105, 114, 101, 115]⟩, .string ⟨Y.toArray⟩] 42)
  have h1X : HoldsF (WT.alloc (.cells #[.string ⟨#[68, 97, 116, 101]⟩, .string ⟨X.toArray⟩, .string ⟨#[69, 120, 112, 105, 114, 101, 115]⟩, .string ⟨Y.toArray⟩] 42)) (.slice (some ⟨WT.heap.size, 0, none⟩) 2 2) (fx2 X Y) := holdsF_lit2 WT dab X exb Y
  rw [sWT] at h1X
  rw [← hX2] at bX h1X
  have B7 := hide' (bt' BT bX)
  have Z7 := hide' (cells_below ZT bX)
  have P7 := hide' (cells_below PT' bX)
  have kL2 := hide' (k2.out y2 X2 (evD_below E.out B7.out) h1X)
  have z3 := cells_nine Z6.out
  have zl := Z6.out.2
  have nz1 : z ≠ w6.heap.size := by omega
  have nz2 : w6.heap.size ≠ z := by omega
  clear h1X bX BT PT' ZT sWT k2 dX dY lX lY BL2
  go_upto_region 11 with fail
  rw [← hy2, ← hWT, ← hX2]
  clear hy2 hWT hX2 z3 zl nz1 nz2 Z6 P6 B6
  obtain ⟨-, e0, e1, e2, e3, e4, e5, e6, e7, e8⟩ := enC_open (show EnC z X2 ⟨#[]⟩ ⟨#[]⟩ ⟨#[]⟩ 200 0 1000 1000 (some ⟨y2, 0, none⟩) none 2 0 2 0 from Z7.out)
  obtain ⟨-, r0, r1, r2, r3⟩ := poC_open (show PoC w.heap.size X2 p0 p1 p2 p3 from P7.out)
  go_wp2_with fail
  refine kL2.out.mono ?_
  rintro e w8 ⟨rfl, bw⟩
  have B8 := hide' (bt' B7.out bw)
  go_wp2_with fail
  go_ret
  exact ⟨by simp, B8.out⟩
end Go.Proofs.YtlhhcpbfjjhbfabDoor
