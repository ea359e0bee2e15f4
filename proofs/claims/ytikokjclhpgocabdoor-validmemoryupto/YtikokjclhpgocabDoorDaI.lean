/- What Parse answers to any text of each length. -/
import Derived.Test.YtikokjclhpgocabDoorDaH
namespace Go.Proofs.YtikokjclhpgocabDoor
open Go.RowKit
theorem byte_eq {b c : UInt8} (h : (b.toNat : Int) = (c.toNat : Int)) : b = c := UInt8.toNat_inj.1 (by omega)
theorem lit_eq {l k : List UInt8} (h : (⟨l.toArray⟩ : ByteArray) = ⟨k.toArray⟩) : l = k := by
  have := congrArg (fun x : ByteArray => x.data.toList) h
  simpa using this
set_option maxHeartbeats 1000000 in
theorem sound29 (s : ByteArray) (hs : s.size = 29) (e1 : s.extract 3 5 = ⟨#[44, 32]⟩) (e2 : (s[7].toNat : Int) = 32) (e3 : (s[11].toNat : Int) = 32) (e4 : (s[16].toNat : Int) = 32) (e5 : s.extract 25 29 = ⟨#[32, 71, 77, 84]⟩)
    (n y m d c : Int) (g1 : digs (s.extract 12 16).data.toList = true) (hy : y = numV (s.extract 12 16).data.toList) (hm : (s.extract 8 11).data.toList = moL m) (g2 : digs (s.extract 5 7).data.toList = true) (hd : d = numV (s.extract 5 7).data.toList) (hc : (s.extract 17 25).data.toList = hmsL c) (hn : s.extract 0 3 = nameB n false) :
    s.data.toList = showL n c y m d := by
  have hl : s.data.toList.length = 29 := by have : s.data.toList.length = s.size := by simp
                                            omega
  obtain ⟨b0, b1, b2, b3, b4, b5, b6, b7, b8, b9, b10, b11, b12, b13, b14, b15, b16, b17, b18, b19, b20, b21, b22, b23, b24, b25, b26, b27, b28, e⟩ : ∃ b0 b1 b2 b3 b4 b5 b6 b7 b8 b9 b10 b11 b12 b13 b14 b15 b16 b17 b18 b19 b20 b21 b22 b23 b24 b25 b26 b27 b28, s.data.toList = [b0, b1, b2, b3, b4, b5, b6, b7, b8, b9, b10, b11, b12, b13, b14, b15, b16, b17, b18, b19, b20, b21, b22, b23, b24, b25, b26, b27, b28] := by
    match h : s.data.toList, hl with
    | [b0, b1, b2, b3, b4, b5, b6, b7, b8, b9, b10, b11, b12, b13, b14, b15, b16, b17, b18, b19, b20, b21, b22, b23, b24, b25, b26, b27, b28], _ => exact ⟨b0, b1, b2, b3, b4, b5, b6, b7, b8, b9, b10, b11, b12, b13, b14, b15, b16, b17, b18, b19, b20, b21, b22, b23, b24, b25, b26, b27, b28, rfl⟩
  obtain rfl := ba_ofD e
  rw [ext_lit _ 12 16 [b12, b13, b14, b15] rfl] at g1 hy
  rw [ext_lit _ 8 11 [b8, b9, b10] rfl] at hm
  rw [ext_lit _ 5 7 [b5, b6] rfl] at g2 hd
  rw [ext_lit _ 17 25 [b17, b18, b19, b20, b21, b22, b23, b24] rfl] at hc
  rw [ext_lit _ 0 3 [b0, b1, b2] rfl, name3] at hn
  rw [ext_lit _ 3 5 [b3, b4] rfl] at e1
  rw [ext_lit _ 25 29 [b25, b26, b27, b28] rfl] at e5
  have k1 := lit_eq (k := [44, 32]) e1
  have k5 := lit_eq (k := [32, 71, 77, 84]) e5
  have kn := lit_eq hn
  have k7 : b7 = 32 := byte_eq e2
  have k11 : b11 = 32 := byte_eq e3
  have k16 : b16 = 32 := byte_eq e4
  have dy := (dig4 g1).1
  have dd := (dig2 g2).1
  have hy' : y = numV [b12, b13, b14, b15] := hy
  have hd' : d = numV [b5, b6] := hd
  rw [← hy'] at dy
  rw [← hd'] at dd
  have hm' : [b8, b9, b10] = moL m := hm
  have hc' : [b17, b18, b19, b20, b21, b22, b23, b24] = hmsL c := hc
  show [b0, b1, b2, b3, b4, b5, b6, b7, b8, b9, b10, b11, b12, b13, b14, b15, b16, b17, b18, b19, b20, b21, b22, b23, b24, b25, b26, b27, b28] = _
  unfold showL
  rw [← kn, ← dd, ← hm', ← dy, ← hc', ← k1, ← k5, k7, k11, k16]
  rfl
set_option maxHeartbeats 1000000 in
theorem sound24 (s : ByteArray) (hs : s.size = 24) (e1 : (s[3].toNat : Int) = 32) (e2 : (s[7].toNat : Int) = 32) (e3 : (s[10].toNat : Int) = 32) (e4 : (s[19].toNat : Int) = 32) (x dl : ByteArray) (hx : s.extract 8 10 = x) (zx : x.size = 2)
    (hq : ((x[0].toNat : Int) = 32 ∧ dl = x.extract 1 2) ∨ (¬ (x[0].toNat : Int) = 32 ∧ ¬ (x[0].toNat : Int) = 48 ∧ dl = x))
    (n y m d c : Int) (g1 : digs (s.extract 20 24).data.toList = true) (hy : y = numV (s.extract 20 24).data.toList) (hm : (s.extract 4 7).data.toList = moL m) (g2 : digs dl.data.toList = true) (hd : d = numV dl.data.toList) (hc : (s.extract 11 19).data.toList = hmsL c) (hn : s.extract 0 3 = nameB n false) :
    s.data.toList = blankL n c y m d := by
  have hl : s.data.toList.length = 24 := by have : s.data.toList.length = s.size := by simp
                                            omega
  obtain ⟨b0, b1, b2, b3, b4, b5, b6, b7, b8, b9, b10, b11, b12, b13, b14, b15, b16, b17, b18, b19, b20, b21, b22, b23, e⟩ : ∃ b0 b1 b2 b3 b4 b5 b6 b7 b8 b9 b10 b11 b12 b13 b14 b15 b16 b17 b18 b19 b20 b21 b22 b23, s.data.toList = [b0, b1, b2, b3, b4, b5, b6, b7, b8, b9, b10, b11, b12, b13, b14, b15, b16, b17, b18, b19, b20, b21, b22, b23] := by
    match h : s.data.toList, hl with
    | [b0, b1, b2, b3, b4, b5, b6, b7, b8, b9, b10, b11, b12, b13, b14, b15, b16, b17, b18, b19, b20, b21, b22, b23], _ => exact ⟨b0, b1, b2, b3, b4, b5, b6, b7, b8, b9, b10, b11, b12, b13, b14, b15, b16, b17, b18, b19, b20, b21, b22, b23, rfl⟩
  obtain rfl := ba_ofD e
  rw [ext_lit _ 8 10 [b8, b9] rfl] at hx
  subst hx
  rw [ext_lit _ 20 24 [b20, b21, b22, b23] rfl] at g1 hy
  rw [ext_lit _ 4 7 [b4, b5, b6] rfl] at hm
  rw [ext_lit _ 11 19 [b11, b12, b13, b14, b15, b16, b17, b18] rfl] at hc
  rw [ext_lit _ 0 3 [b0, b1, b2] rfl, name3] at hn
  have kn := lit_eq hn
  have k3 : b3 = 32 := byte_eq e1
  have k7 : b7 = 32 := byte_eq e2
  have k10 : b10 = 32 := byte_eq e3
  have k19 : b19 = 32 := byte_eq e4
  have dy := (dig4 g1).1
  have hy' : y = numV [b20, b21, b22, b23] := hy
  rw [← hy'] at dy
  have hm' : [b4, b5, b6] = moL m := hm
  have hc' : [b11, b12, b13, b14, b15, b16, b17, b18] = hmsL c := hc
  have hp : [b8, b9] = padL d := by
    rcases hq with ⟨q1, q2⟩ | ⟨q1, q2, q3⟩
    · rw [q2, ext_lit _ 1 2 [b9] rfl] at g2 hd
      obtain ⟨z1, z2, z3⟩ := dig1 g2
      have hd' : d = numV [b9] := hd
      rw [← hd'] at z1 z2 z3
      have k8 : b8 = 32 := byte_eq q1
      unfold padL
      rw [if_pos z3, k8, z1]
    · rw [q3] at g2 hd
      obtain ⟨z1, z2, z3⟩ := dig2 g2
      have hd' : d = numV [b8, b9] := hd
      have q2' : ¬ (b8.toNat : Int) = 48 := q2
      have hb : isDig b8 = true ∧ isDig b9 = true := by simpa [digs] using g2
      have i1 := isDig_in hb.1
      have i2 := isDig_in hb.2
      have ev : numV [b8, b9] = ((b8.toNat : Int) - 48) * 10 + ((b9.toNat : Int) - 48) := by simp [numV]
      unfold padL
      rw [← hd'] at z1
      rw [if_neg (by omega)]
      exact z1
  show [b0, b1, b2, b3, b4, b5, b6, b7, b8, b9, b10, b11, b12, b13, b14, b15, b16, b17, b18, b19, b20, b21, b22, b23] = _
  unfold blankL
  rw [← kn, ← hp, ← hm', ← dy, ← hc', k3, k7, k10, k19]
  rfl
theorem cut_sound (l : List UInt8) (h : (Lib.cut l [44, 32]).2.2 = true) : l = (Lib.cut l [44, 32]).1 ++ ([44, 32] ++ (Lib.cut l [44, 32]).2.1) := by
  unfold Lib.cut at h ⊢
  rcases Lib.index_spec l [44, 32] with ⟨h1, _⟩ | ⟨i, h1, h2, h3, _⟩
  · rw [h1] at h; simp at h
  · rw [h1, if_pos (by omega), Int.toNat_natCast]
    show l = l.take i ++ ([44, 32] ++ l.drop (i + 2))
    have hp : [44, 32] <+: l.drop i := List.isPrefixOf_iff_prefix.1 h3
    obtain ⟨r, hr⟩ := hp
    have e2 : l.drop (i + 2) = r := by
      rw [← List.drop_drop, ← hr]; rfl
    rw [e2, hr, List.take_append_drop]
set_option maxHeartbeats 1000000 in
theorem soundOther (s a b ce : ByteArray) (hs : s.data.toList = a.data.toList ++ ([44, 32] ++ b.data.toList)) (hb : b.size = 22) (e1 : (b[2].toNat : Int) = 45) (e2 : (b[6].toNat : Int) = 45) (e3 : (b[9].toNat : Int) = 32) (e4 : b.extract 18 22 = ⟨#[32, 71, 77, 84]⟩)
    (hce : (55 ≤ (b[7].toNat : Int) ∧ ce = ⟨#[49, 57]⟩) ∨ ((b[7].toNat : Int) < 55 ∧ ce = ⟨#[50, 48]⟩))
    (n y m d c : Int) (g1 : digs (ce ++ b.extract 7 9).data.toList = true) (hy : y = numV (ce ++ b.extract 7 9).data.toList) (hm : (b.extract 3 6).data.toList = moL m) (g2 : digs (b.extract 0 2).data.toList = true) (hd : d = numV (b.extract 0 2).data.toList) (hc : (b.extract 10 18).data.toList = hmsL c) (hn : a = nameB n true) :
    y < 2070 ∧ s.data.toList = dashL n c y m d := by
  have hl : b.data.toList.length = 22 := by have : b.data.toList.length = b.size := by simp
                                            omega
  obtain ⟨b0, b1, b2, b3, b4, b5, b6, b7, b8, b9, b10, b11, b12, b13, b14, b15, b16, b17, b18, b19, b20, b21, e⟩ : ∃ b0 b1 b2 b3 b4 b5 b6 b7 b8 b9 b10 b11 b12 b13 b14 b15 b16 b17 b18 b19 b20 b21, b.data.toList = [b0, b1, b2, b3, b4, b5, b6, b7, b8, b9, b10, b11, b12, b13, b14, b15, b16, b17, b18, b19, b20, b21] := by
    match h : b.data.toList, hl with
    | [b0, b1, b2, b3, b4, b5, b6, b7, b8, b9, b10, b11, b12, b13, b14, b15, b16, b17, b18, b19, b20, b21], _ => exact ⟨b0, b1, b2, b3, b4, b5, b6, b7, b8, b9, b10, b11, b12, b13, b14, b15, b16, b17, b18, b19, b20, b21, rfl⟩
  obtain rfl := ba_ofD e
  rw [ext_lit _ 7 9 [b7, b8] rfl, app_list] at g1 hy
  rw [ext_lit _ 3 6 [b3, b4, b5] rfl] at hm
  rw [ext_lit _ 0 2 [b0, b1] rfl] at g2 hd
  rw [ext_lit _ 10 18 [b10, b11, b12, b13, b14, b15, b16, b17] rfl] at hc
  rw [ext_lit _ 18 22 [b18, b19, b20, b21] rfl] at e4
  have k4 := lit_eq (k := [32, 71, 77, 84]) e4
  have k2 : b2 = 45 := byte_eq e1
  have k6 : b6 = 45 := byte_eq e2
  have k9 : b9 = 32 := byte_eq e3
  have dd := (dig2 g2).1
  have hd' : d = numV [b0, b1] := hd
  rw [← hd'] at dd
  have hm' : [b3, b4, b5] = moL m := hm
  have hc' : [b10, b11, b12, b13, b14, b15, b16, b17] = hmsL c := hc
  have en : a.data.toList = wkL n := by rw [hn]; unfold nameB; simp
  have hy2 : y < 2070 ∧ [b7, b8] = D2 (y % 100) := by
    rcases hce with ⟨q1, q2⟩ | ⟨q1, q2⟩
    · rw [q2] at g1 hy
      have g1' : digs [49, 57, b7, b8] = true := g1
      have hb : isDig b7 = true ∧ isDig b8 = true := by
        have : isDig 49 = true ∧ isDig 57 = true ∧ isDig b7 = true ∧ isDig b8 = true := by simpa [digs] using g1'
        exact this.2.2
      have i1 := isDig_in hb.1
      have i2 := isDig_in hb.2
      have q1' : 55 ≤ (b7.toNat : Int) := q1
      have hy' : y = numV [49, 57, b7, b8] := hy
      have ev : numV [49, 57, b7, b8] = 1900 + ((b7.toNat : Int) - 48) * 10 + ((b8.toNat : Int) - 48) := by
        simp [numV]; omega
      refine ⟨by omega, ?_⟩
      unfold D2
      rw [dg_of (v := y % 100 / 10) hb.1 (by omega), dg_of (v := y % 100 % 10) hb.2 (by omega)]
    · rw [q2] at g1 hy
      have g1' : digs [50, 48, b7, b8] = true := g1
      have hb : isDig b7 = true ∧ isDig b8 = true := by
        have : isDig 50 = true ∧ isDig 48 = true ∧ isDig b7 = true ∧ isDig b8 = true := by simpa [digs] using g1'
        exact this.2.2
      have i1 := isDig_in hb.1
      have i2 := isDig_in hb.2
      have q1' : (b7.toNat : Int) < 55 := q1
      have hy' : y = numV [50, 48, b7, b8] := hy
      have ev : numV [50, 48, b7, b8] = 2000 + ((b7.toNat : Int) - 48) * 10 + ((b8.toNat : Int) - 48) := by
        simp [numV]; omega
      refine ⟨by omega, ?_⟩
      unfold D2
      rw [dg_of (v := y % 100 / 10) hb.1 (by omega), dg_of (v := y % 100 % 10) hb.2 (by omega)]
  refine ⟨hy2.1, ?_⟩
  rw [hs, en, dash_split]
  unfold restL
  rw [← hy2.2, ← dd, ← hm', ← hc', ← k4]
  show wkL n ++ ([44, 32] ++ [b0, b1, b2, b3, b4, b5, b6, b7, b8, b9, b10, b11, b12, b13, b14, b15, b16, b17, b18, b19, b20, b21]) = _
  rw [k2, k6, k9]
  rfl
end Go.Proofs.YtikokjclhpgocabDoor
