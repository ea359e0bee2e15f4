/- What a decoder's block holds; the contract of readSize. -/
import Derived.Test.YtobkmepamgdccaaGreatDoorChU
import Derived.Test.YtobkmepamgdccaaGreatDoorBd
import Derived.Test.YtobkmepamgdccaaGreatDoorBf
import Derived.Test.YtobkmepamgdccaaGreatDoorShelfJ
namespace Go.Proofs.YtobkmepamgdccaaGreatDoor
open Go.RowKit
theorem quad_set0 {b : Nat} {W : World} {v0 v1 v2 v3 : Value} (h : Quad b W v0 v1 v2 v3) (x : Value) : Quad b (W.setCell ⟨b, 0, none⟩ x) x v1 v2 v3 := by
  obtain ⟨h0, h1, h2, h3, f0, f1, f2, f3, hz⟩ := h
  exact ⟨World.cell?_setCell_same (u := v0) _ _ _ h0, by rw [oth4 (by decide)]; exact h1, by rw [oth4 (by decide)]; exact h2, by rw [oth4 (by decide)]; exact h3, by rw [frozen_set4]; exact f0, by rw [frozen_set4]; exact f1, by rw [frozen_set4]; exact f2, by rw [frozen_set4]; exact f3, by simpa using hz⟩
theorem quad_set1 {b : Nat} {W : World} {v0 v1 v2 v3 : Value} (h : Quad b W v0 v1 v2 v3) (x : Value) : Quad b (W.setCell ⟨b, 1, none⟩ x) v0 x v2 v3 := by
  obtain ⟨h0, h1, h2, h3, f0, f1, f2, f3, hz⟩ := h
  exact ⟨by rw [oth4 (by decide)]; exact h0, World.cell?_setCell_same (u := v1) _ _ _ h1, by rw [oth4 (by decide)]; exact h2, by rw [oth4 (by decide)]; exact h3, by rw [frozen_set4]; exact f0, by rw [frozen_set4]; exact f1, by rw [frozen_set4]; exact f2, by rw [frozen_set4]; exact f3, by simpa using hz⟩
theorem quad_set2 {b : Nat} {W : World} {v0 v1 v2 v3 : Value} (h : Quad b W v0 v1 v2 v3) (x : Value) : Quad b (W.setCell ⟨b, 2, none⟩ x) v0 v1 x v3 := by
  obtain ⟨h0, h1, h2, h3, f0, f1, f2, f3, hz⟩ := h
  exact ⟨by rw [oth4 (by decide)]; exact h0, by rw [oth4 (by decide)]; exact h1, World.cell?_setCell_same (u := v2) _ _ _ h2, by rw [oth4 (by decide)]; exact h3, by rw [frozen_set4]; exact f0, by rw [frozen_set4]; exact f1, by rw [frozen_set4]; exact f2, by rw [frozen_set4]; exact f3, by simpa using hz⟩
/-- a decoder's block g, made behind w0: what is next, the size, the data in a row of their own made later, the trailers -/
def Dec (w0 : World) (g : Nat) (nx s : Int) (out : List UInt8) (tv : Value) (w : World) : Prop :=
  ∃ dv, Quad g w (.int .i64 nx) (.int .i64 s) dv tv ∧ w.ownsRow (g + 1) 5 1 dv out.length (out.map B) ∧ Below w0.heap.size w0 w ∧ w0.heap.size ≤ g
theorem dec_below {w0 : World} {g : Nat} {nx s : Int} {out : List UInt8} {tv : Value} {w w' : World} (h : Dec w0 g nx s out tv w) (hb : Below w.heap.size w w') : Dec w0 g nx s out tv w' := by
  obtain ⟨dv, q, r, b, hg⟩ := h
  exact ⟨dv, quad_below q hb, row_below r hb, bt' b hb, hg⟩
theorem dec_set0 {w0 : World} {g : Nat} {nx s : Int} {out : List UInt8} {tv : Value} {w : World} (h : Dec w0 g nx s out tv w) (x : Int) : Dec w0 g x s out tv (w.setCell ⟨g, 0, none⟩ (.int .i64 x)) := by
  obtain ⟨dv, q, r, b, hg⟩ := h
  exact ⟨dv, quad_set0 q _, row_poke r (Nat.lt_succ_self g), b.setCell hg _, hg⟩
theorem dec_set1 {w0 : World} {g : Nat} {nx s : Int} {out : List UInt8} {tv : Value} {w : World} (h : Dec w0 g nx s out tv w) (x : Int) : Dec w0 g nx x out tv (w.setCell ⟨g, 1, none⟩ (.int .i64 x)) := by
  obtain ⟨dv, q, r, b, hg⟩ := h
  exact ⟨dv, quad_set1 q _, row_poke r (Nat.lt_succ_self g), b.setCell hg _, hg⟩
theorem dec_set3 {w0 : World} {g : Nat} {nx s : Int} {out : List UInt8} {tv : Value} {w : World} (h : Dec w0 g nx s out tv w) (x : Value) : Dec w0 g nx s out x (w.setCell ⟨g, 3, none⟩ x) := by
  obtain ⟨dv, q, r, b, hg⟩ := h
  exact ⟨dv, quad_set3 q _, row_poke r (Nat.lt_succ_self g), b.setCell hg _, hg⟩
theorem dec_bel {w0 : World} {g : Nat} {nx s : Int} {out : List UInt8} {tv : Value} {w : World} (h : Dec w0 g nx s out tv w) : Below w0.heap.size w0 w := by
  obtain ⟨dv, q, r, b, hg⟩ := h
  exact b
theorem idx10B (v : Value) (bs : List UInt8) (w : World) (hv : HoldsB w v bs) :
    Calls Tryz.prog 37 #[v, .int .u8 10] w fun e w' => e = .returned (.int .i64 (Lib.indexByte bs 10)) ∧ w' = w := by
  have hin := hv
  obtain ⟨ao, cap, rfl, h0, hcp, hc⟩ := hv
  cases ao with
  | none =>
    obtain rfl := h0 rfl
    have hz : bs.length = 0 := by omega
    obtain rfl : bs = [] := List.eq_nil_of_length_eq_zero hz
    exact Any.bytes_IndexByte_nil Tryz.lays187 10 w
  | some ad =>
    have hcell : ∀ i, i < bs.length → w.cell? (ad.add i) = some (.int .u8 ((bs.map fun b => (b.toNat : Int)).getD i 0)) := by
      intro i hi
      obtain ⟨b, off, e, _, hcl⟩ := hc (fun e => by rw [e] at hi; simp at hi)
      simp only [Option.some.injEq] at e
      subst e
      rw [Go.WideShapes.add_plain, hcl i hi]
      simp [B, List.getD, hi]
    have c := Any.bytes_IndexByte_at Tryz.lays187 ad bs.length cap (bs.map fun b => (b.toNat : Int)) 10 w (by simp) hcell
    rw [bytesOf_map'] at c
    exact c
theorem ten_toU8 : ((10 : Int).toNat.toUInt8) = 10 := rfl
def szV (bs : List UInt8) : Value := .tuple #[.int .i64 ((lineC bs).2.1 : Int), .int .i64 (lineC bs).2.2]
set_option maxHeartbeats 4000000 in
set_option maxRecDepth 20000 in
theorem readSizeC (w0 : World) (g : Nat) (s : Int) (out : List UInt8) (tv v : Value) (bs : List UInt8) (w : World) (D : Dec w0 g 0 s out tv w) (hv : HoldsB w v bs) (hs : bs.length < 4294967281) (E : Er w) (M : MaxV w) :
    Calls Tryz.prog 28 #[.pointer (some ⟨g, 0, none⟩), v] w fun e w' => e = .returned (szV bs) ∧ Below w0.heap.size w0 w' ∧ Hid ((lineC bs).2.1 ≠ 0 → Dec w0 g (nxOf (lineC bs).1) ((lineC bs).1 : Int) out tv w') := by
  have cI := idx10B v bs w hv
  rw [index10] at cI
  have DH := hide' D
  by_cases hk : lenL bs = bs.length
  · rw [if_pos hk] at cI
    have CI := hide' cI
    by_cases h2 : bs.length < 200
    · have R := line_no bs hk h2
      unfold szV
      rw [R]
      obtain ⟨ao, cap, rfl, _⟩ := hv
      obtain ⟨n, hn⟩ : ∃ n, n = bs.length := ⟨_, rfl⟩
      rw [← hn] at CI hs h2 ⊢
      clear cI hk R hn D E M
      go_enter Tryz.func28, Tryz.ntmps28
      go_wp2_with fail
      refine CI.out.mono ?_
      rintro e w1 ⟨rfl, rfl⟩
      go_wp2_with fail
      go_ret2
      exact ⟨rfl, dec_bel DH.out, by first | exact fun h => absurd rfl h | trivial⟩
    · have R := line_no2 bs hk (by omega)
      unfold szV
      rw [R]
      obtain ⟨ao, cap, rfl, _⟩ := hv
      obtain ⟨n, hn⟩ : ∃ n, n = bs.length := ⟨_, rfl⟩
      rw [← hn] at CI hs h2 ⊢
      clear cI hk R hn D E M
      go_enter Tryz.func28, Tryz.ntmps28
      go_wp2_with fail
      refine CI.out.mono ?_
      rintro e w1 ⟨rfl, rfl⟩
      go_wp2_with fail
      go_ret2
      exact ⟨rfl, dec_bel DH.out, by first | exact fun h => absurd rfl h | trivial⟩
  · have hlt := lenL_lt hk
    rw [if_neg hk] at cI
    have CI := hide' cI
    by_cases h2 : 200 < lenL bs + 1
    · have R := line_long bs hlt h2
      unfold szV
      rw [R]
      obtain ⟨ao, cap, rfl, _⟩ := hv
      obtain ⟨n, hn⟩ : ∃ n, n = bs.length := ⟨_, rfl⟩
      rw [← hn] at CI hs hlt ⊢
      generalize lenL bs = k at CI hlt h2
      have h2' : (200 : Int) < (k : Int) + 1 := by omega
      clear cI hk R hn D E M h2
      go_enter Tryz.func28, Tryz.ntmps28
      go_wp2_with fail
      refine CI.out.mono ?_
      rintro e w1 ⟨rfl, rfl⟩
      go_wp2_with fail
      go_ret2
      exact ⟨rfl, dec_bel DH.out, by first | exact fun h => absurd rfl h | trivial⟩
    · obtain ⟨pv, s1, HP⟩ := holdsB_take hv (lenL bs + 1) (by omega)
      have cv : Sem.run Tryz.prog (convert 22 9 pv) w = .ok (.string ⟨(bs.take (lenL bs + 1)).toArray⟩) w := by
        have HP' := HP
        obtain ⟨a2, c2, e2, _⟩ := HP
        rw [e2] at HP' ⊢
        exact conv_holdsB w a2 c2 _ HP'
      have hl1 : (bs.take (lenL bs + 1)).length ≤ 200 := by rw [List.length_take]; omega
      have cS := Any.strings_CutSuffix Tryz.lays104 ⟨(bs.take (lenL bs + 1)).toArray⟩ ⟨#[13, 10]⟩ w (by rw [size_l]; omega)
      rw [show (⟨(bs.take (lenL bs + 1)).toArray⟩ : ByteArray).data.toList = bs.take (lenL bs + 1) from by simp, show (⟨#[13, 10]⟩ : ByteArray).data.toList = [13, 10] from rfl, trim_end bs hlt, suf_end bs hlt] at cS
      have hl2 := lineL_len bs
      have cZ := sizeOfC (lineL bs) (by omega) w E M
      have RB := hide' (line_bad bs hlt)
      have RG := hide' (fun h => line_ok bs hlt h (by omega))
      have CS := hide' cS
      have CZ := hide' cZ
      have S1 : ∀ W, Sem.run Tryz.prog (Instr.slice 22 v none (some (.int .i64 ((lenL bs : Int) + 1))) none) W = .ok pv W := by
        intro W
        have := s1 W
        rwa [Int.natCast_add] at this
      obtain ⟨ao, cap, rfl, _⟩ := hv
      obtain ⟨n, hn⟩ : ∃ n, n = bs.length := ⟨_, rfl⟩
      have h2' : (lenL bs : Int) + 1 ≤ 200 := by omega
      rw [← hn] at CI S1 hs hlt ⊢
      clear cI hn D E M h2 HP hl1 cS hl2 cZ s1 hk
      unfold szV
      generalize lineC bs = LC at RB RG ⊢
      generalize endL bs = eb at CS RB RG
      generalize lineL bs = ln at CS CZ RB RG
      generalize (bs.take (lenL bs + 1)) = tk at cv CS
      generalize (⟨ln.toArray⟩ : ByteArray) = lt at CS CZ
      generalize (⟨tk.toArray⟩ : ByteArray) = tt at cv CS
      generalize lenL bs = k at CI S1 hlt h2' RG
      generalize sizeC ln = sz at CZ RB RG
      go_enter Tryz.func28, Tryz.ntmps28
      go_wp2_with fail
      refine CI.out.mono ?_
      rintro e w1 ⟨rfl, ew⟩
      rw [ew]
      clear ew w1
      go_wp2_with fail
      refine CS.out.mono ?_
      rintro e w1 ⟨rfl, ew⟩
      rw [ew]
      clear ew w1
      go_wp2_with fail
      refine CZ.out.mono ?_
      rintro e w2 ⟨x, rfl, hx, b2⟩
      have D2 := hide' (dec_below DH.out b2)
      clear b2 cv S1 CI CS CZ DH
      cases eb with
      | false =>
        have R := hide' (RB.out rfl)
        clear RB RG hx
        generalize decide (0 ≤ sz) = gb
        cases gb
        all_goals
          go_wp2_with fail
          go_ret2
          rw [R.out]
          exact ⟨rfl, dec_bel D2.out, by first | exact fun h => absurd rfl h | trivial⟩
      | true =>
        by_cases hz : 0 ≤ sz
        · have R := hide' (RG.out (by simpa using hz))
          have e1 := hx.out hz
          subst e1
          have D3 := hide' (dec_set1 D2.out x)
          have D4 := hide' (dec_set0 D3.out 1)
          have D5 := hide' (dec_set0 D4.out 2)
          obtain ⟨dv, ⟨c0, c1, c2, c3, f0, f1, f2, f3, fz⟩, _⟩ := D2.out
          obtain ⟨dv3, ⟨c30, c31, c32, c33, f30, f31, f32, f33, fz3⟩, _⟩ := D3.out
          obtain ⟨dv4, ⟨c40, c41, c42, c43, f40, f41, f42, f43, fz4⟩, _⟩ := D4.out
          have hz' : decide (0 ≤ x) = true := decide_eq_true hz
          rw [hz']
          by_cases h0 : x = 0
          · subst h0
            clear RB RG hx hz'
            go_wp2_with fail
            go_ret2
            rw [R.out]
            exact ⟨rfl, dec_bel D5.out, fun _ => D5.out⟩
          · have h0' : (x == 0) = false := by simpa using h0
            have N0 : Hid (x.toNat ≠ 0 ∧ ((x.toNat : Nat) : Int) = x) := by unfold Hid; omega
            clear RB RG hx hz' h0
            go_wp2_with fail
            go_ret2
            rw [R.out]
            refine ⟨rfl, dec_bel D4.out, fun _ => ?_⟩
            simp only
            rw [nxOf_pos N0.out.1, N0.out.2]
            exact D4.out
        · have R := hide' (RB.out (by simpa using hz))
          have hz' : decide (0 ≤ sz) = false := decide_eq_false hz
          rw [hz']
          clear RB RG hx hz hz'
          go_wp2_with fail
          go_ret2
          rw [R.out]
          exact ⟨rfl, dec_bel D2.out, by first | exact fun h => absurd rfl h | trivial⟩
end Go.Proofs.YtobkmepamgdccaaGreatDoor
