/- The contracts of read and Decode. -/
import Derived.Test.YtobkmepamgdccaaGreatDoorChW
namespace Go.Proofs.YtobkmepamgdccaaGreatDoor
open Go.RowKit
set_option maxHeartbeats 2000000 in
set_option maxRecDepth 20000 in
theorem readC0 (w0 : World) (g : Nat) (s : Int) (out : List UInt8) (tv v : Value) (bs : List UInt8) (w : World) (D : Dec w0 g 0 s out tv w) (hv : HoldsB w v bs) (hs : bs.length < 4294967281) (E : Er w) (M : MaxV w) :
    Calls Tryz.prog 21 #[.pointer (some ⟨g, 0, none⟩), v] w fun e w' => e = .returned (.tuple #[.int .i64 ((lineC bs).2.1 : Int), .int .i64 (lineC bs).2.2]) ∧ Below w0.heap.size w0 w' ∧ Hid ((lineC bs).2.1 ≠ 0 → Dec w0 g (nxOf (lineC bs).1) ((lineC bs).1 : Int) out tv w') := by
  have C := readSizeC w0 g s out tv v bs w D hv hs E M
  unfold szV at C
  have CH := hide' C
  obtain ⟨dv, ⟨c0, c1, c2, c3, f0, f1, f2, f3, fz⟩, _⟩ := D
  obtain ⟨ao, cap, rfl, _⟩ := hv
  clear C E M hs
  generalize lineC bs = L at CH ⊢
  obtain ⟨l1, l2, l3⟩ := L
  go_enter Tryz.func21, Tryz.ntmps21
  go_wp2_with fail
  refine CH.out.mono ?_
  rintro e w1 ⟨rfl, b1, hD⟩
  have B1 := hide' b1
  clear b1 CH
  go_wp2_with fail
  go_ret2
  exact ⟨rfl, B1.out, hD⟩
set_option maxHeartbeats 2000000 in
set_option maxRecDepth 20000 in
theorem readC1 (w0 : World) (g s : Nat) (hs0 : 0 < s) (hs1 : s < 4294967296) (out : List UInt8) (hol : out.length ≤ 65536) (tv v : Value) (bs : List UInt8) (w : World) (D : Dec w0 g 1 (s : Int) out tv w) (hv : HoldsB w0 v bs) (hs : bs.length < 4294967281) :
    Calls Tryz.prog 21 #[.pointer (some ⟨g, 0, none⟩), v] w fun e w' => Below w0.heap.size w0 w' ∧
      ((65536 < out.length + s ∧ e = .returned (rdV 0 71)) ∨ (out.length + s ≤ 65536 ∧ bs.length < s + 2 ∧ e = .returned (rdV 0 0)) ∨ (out.length + s ≤ 65536 ∧ s + 2 ≤ bs.length ∧ pairB (bs.drop s) = false ∧ e = .returned (rdV 0 70)) ∨
       (out.length + s ≤ 65536 ∧ s + 2 ≤ bs.length ∧ pairB (bs.drop s) = true ∧ e = .returned (rdV ((s : Int) + 2) 0) ∧ Dec w0 g 0 (s : Int) (out ++ bs.take s) tv w')) := by
  have C := readDataC w0 g s hs0 hs1 out hol tv v bs w D hv hs
  unfold rdV at C ⊢
  have CH := hide' C
  obtain ⟨dv, ⟨c0, c1, c2, c3, f0, f1, f2, f3, fz⟩, _⟩ := D
  obtain ⟨ao, cap, rfl, _⟩ := hv
  clear C hs
  go_enter Tryz.func21, Tryz.ntmps21
  go_wp2_with fail
  refine CH.out.mono ?_
  rintro e w1 ⟨b1, h⟩
  have B1 := hide' b1
  clear b1 CH
  rcases h with ⟨h1, rfl⟩ | ⟨h1, h2, rfl⟩ | ⟨h1, h2, h3, rfl⟩ | ⟨h1, h2, h3, rfl, h4⟩
  · have H1 := hide' h1
    clear h1
    go_wp2_with fail
    go_ret2
    exact ⟨B1.out, .inl ⟨H1.out, rfl⟩⟩
  · have H1 := hide' h1
    have H2 := hide' h2
    clear h1 h2
    go_wp2_with fail
    go_ret2
    exact ⟨B1.out, .inr (.inl ⟨H1.out, H2.out, rfl⟩)⟩
  · have H1 := hide' h1
    have H2 := hide' h2
    have H3 := hide' h3
    clear h1 h2 h3
    go_wp2_with fail
    go_ret2
    exact ⟨B1.out, .inr (.inr (.inl ⟨H1.out, H2.out, H3.out, rfl⟩))⟩
  · have H1 := hide' h1
    have H2 := hide' h2
    have H3 := hide' h3
    have H4 := hide' h4
    clear h1 h2 h3 h4
    go_wp2_with fail
    go_ret2
    exact ⟨B1.out, .inr (.inr (.inr ⟨H1.out, H2.out, H3.out, rfl, H4.out⟩))⟩
set_option maxHeartbeats 2000000 in
set_option maxRecDepth 20000 in
theorem readC2 (w0 : World) (g : Nat) (s : Int) (out : List UInt8) (tv v : Value) (bs : List UInt8) (w : World) (D : Dec w0 g 2 s out tv w) (hv : HoldsB w0 v bs) (hs : bs.length < 4294967281) (E : Env w0) :
    Calls Tryz.prog 21 #[.pointer (some ⟨g, 0, none⟩), v] w fun e w' => e = .returned (.tuple #[.int .i64 ((tailC bs).2.1 : Int), .int .i64 (tailC bs).2.2]) ∧ Below w0.heap.size w0 w' ∧ Hid ((tailC bs).2.1 ≠ 0 → FinD w0 g s out (tailC bs).1 w') := by
  have C := readTrailersC w0 g s out tv v bs w D hv hs E
  unfold rdV at C
  have CH := hide' C
  obtain ⟨dv, ⟨c0, c1, c2, c3, f0, f1, f2, f3, fz⟩, _⟩ := D
  obtain ⟨ao, cap, rfl, _⟩ := hv
  clear C E hs
  generalize tailC bs = L at CH ⊢
  obtain ⟨l1, l2, l3⟩ := L
  go_enter Tryz.func21, Tryz.ntmps21
  go_wp2_with fail
  refine CH.out.mono ?_
  rintro e w1 ⟨rfl, b1, hD⟩
  have B1 := hide' b1
  clear b1 CH
  go_wp2_with fail
  go_ret2
  exact ⟨rfl, B1.out, hD⟩
theorem line_size (b : List UInt8) : (lineC b).1 < 4294967296 := by
  rcases lineC_cases b with e | e | ⟨s, e, hlt, _⟩
  · rw [e]; decide
  · rw [e]; decide
  · have h2 : lineC b = ((sizeC (b.take (lenL b - 1))).toNat, lenL b + 1, 0) := by
      unfold lineC at e ⊢
      split
      · rename_i q; omega
      · split
        · rename_i q1 q2; rw [if_neg q1, if_pos q2] at e; simp at e
        · rfl
    rw [h2]
    have h3 : sizeC (b.take (lenL b - 1)) < 4294967296 := by
      unfold sizeC
      split
      · decide
      · rename_i q
        have h4 := hexS_lt ((b.take (lenL b - 1)).takeWhile isHex)
        have h5 : 16 ^ ((b.take (lenL b - 1)).takeWhile isHex).length ≤ 16 ^ 8 := Nat.pow_le_pow_right (by decide) (by omega)
        have h6 : (16 : Nat) ^ 8 = 4294967296 := by decide
        omega
    show (sizeC (b.take (lenL b - 1))).toNat < 4294967296
    omega
def decV (r : List UInt8 × FL × Nat × Int) (dv lv : Value) : Value := .tuple #[dv, lv, .int .i64 (r.2.2.1 : Int), .int .i64 r.2.2.2]
/-- the decoder's block at one time -/
def At (w : World) (bs : List UInt8) (nx : Int) (s : Nat) (out : List UInt8) (fs : FL) (n : Nat) (wr : World) : Prop :=
  DS bs nx s out fs n ∧ ((nx ≠ 3 ∧ Dec w w.heap.size nx (s : Int) out (.slice none 0 0) wr) ∨ (nx = 3 ∧ FinD w w.heap.size (s : Int) out fs wr))
theorem at_start (w : World) (bs : List UInt8) : At w bs 0 0 [] [] 0 (w.alloc (.cells #[.int .i64 0, .int .i64 0, .slice none 0 0, .slice none 0 0] 43)) :=
  ⟨ds_start bs, .inl ⟨by decide, .slice none 0 0, quad_lit w _ _ _ _ _, World.ownsRow_nil _ _ _ _, below_alloc' _ _, Nat.le_refl _⟩⟩
set_option maxHeartbeats 8000000 in
set_option maxRecDepth 20000 in
theorem decC (v : Value) (bs : List UInt8) (w : World) (hv : HoldsB w v bs) (E : Env w) (R : Er w) (hs : bs.length < 4294967281) :
    Calls Tryz.prog 11 #[v] w fun e w' => ∃ dv lv, e = .returned (decV (decOf bs) dv lv) ∧ Own w dv (decOf bs).1 w' ∧ OwnF w lv (decOf bs).2.1 w' := by
  have HV := hide' hv
  have EV := hide' E
  have RV := hide' R
  obtain ⟨ao, cap, rfl, h0, hcp, _⟩ := hv
  obtain ⟨N, hN⟩ : ∃ N, N = bs.length := ⟨_, rfl⟩
  have HN := hide' hN
  rw [← hN] at hs hcp ⊢
  clear hN E R h0
  go_enter Tryz.func11, Tryz.ntmps11
  go_wp2_with fail
  go_loopw [7, 8, 9] (fun lv _ _ wr => ∃ (n : Nat) (nx : Int) (s : Nat) (out : List UInt8) (fs : FL), lv = .int .i64 n ∧ n ≤ N ∧ s < 4294967296 ∧ Hid (At w bs nx s out fs n wr)) (fun lv _ _ _ => N - (intOf lv).toNat)
  case atStart => exact ⟨0, 0, 0, [], [], rfl, Nat.zero_le _, by decide, at_start w bs⟩
  case round =>
    obtain ⟨n, nx, s, out, fs, rfl, hn, hsz, A⟩ := hrel
    obtain ⟨ds, hA⟩ := A.out
    have DSH := hide' ds
    rcases hA with ⟨h3, D⟩ | ⟨h3, F⟩
    · have hb := dec_bel D
      have sl := fun W => from_run ao N cap n hn hcp W
      have HS := holdsB_suf HV.out n (by rw [← HN.out]; exact hn)
      rw [← HN.out] at HS
      obtain ⟨vs, hvs⟩ : ∃ vs, vs = Lib.fromV ao N cap n := ⟨_, rfl⟩
      rw [← hvs] at HS sl
      have dl : (bs.drop n).length = N - n := by rw [List.length_drop, HN.out]
      have hdl : (bs.drop n).length < 4294967281 := by omega
      have D9 := D
      obtain ⟨dv, ⟨c0, c1, c2, c3, f0, f1, f2, f3, fz⟩, _⟩ := D9
      clear hvs A
      rcases ds_nx ds with rfl | rfl | rfl | rfl
      · have C := hide' (readC0 w w.heap.size (s : Int) out (.slice none 0 0) vs (bs.drop n) wr D (holdsB_mono HS hb) hdl (er_below RV.out hb) (maxV_below EV.out.1 hb))
        have st := ds_size ds
        have ls := line_size (bs.drop n)
        have hle : (lineC (bs.drop n)).2.1 ≤ N - n := by
          rcases lineC_cases (bs.drop n) with e | e | ⟨s, e, hlt, _⟩
          · rw [e]; exact Nat.zero_le _
          · rw [e]; exact Nat.zero_le _
          · rw [e]; show lenL (bs.drop n) + 1 ≤ N - n; omega
        generalize lineC (bs.drop n) = L at C st ls hle
        obtain ⟨l1, l2, l3⟩ := L
        simp only at C st ls hle
        have ST := hide' st
        clear st ds HS dl hdl hb DSH D
        have hN2 : N < 4294967281 := hs
        go_wp2_with fail
        refine C.out.mono ?_
        rintro e w1 ⟨rfl, b1, hD⟩
        have B1 := hide' b1
        clear b1 C
        by_cases hz : l2 = 0
        · subst hz
          have RR := hide' (ST.out.1 rfl)
          clear ST hD
          go_wp2_with fail
          exact bodyPost_ret (v := .tuple #[.slice none 0 0, .slice none 0 0, .int .i64 0, .int .i64 l3]) (by simp [results, Tryz.results11, go_sem]) rfl ⟨.slice none 0 0, .slice none 0 0, by rw [RR.out]; rfl, by rw [RR.out]; exact own_nil _ _ B1.out, by rw [RR.out]; exact ownF_nil _ _ B1.out⟩
        · have hz' : ((l2 : Int) == 0) = false := by simp; omega
          have RR := hide' (ST.out.2 hz)
          have DD := hide' (hD.out hz)
          clear ST hD
          go_wp2_with fail
          go_roundw
          case rel => exact ⟨n + l2, _, l1, out, [], by go_num, by omega, ls, RR.out, .inl ⟨nxOf_ne _, DD.out⟩⟩
          case measure => simp [intOf]; omega
      · have hs0 : 0 < s := by
          rcases ds.2.2 with h | h | h | h
          · exact absurd h.1 (by decide)
          · obtain ⟨_, _, f, m, k, _, h5, _⟩ := h; omega
          · exact absurd h.1 (by decide)
          · exact absurd h.1 (by decide)
        have C := hide' (readC1 w w.heap.size s hs0 hsz out ds.2.1 (.slice none 0 0) vs (bs.drop n) wr D HS hdl)
        unfold rdV at C
        have ST := hide' (ds_data ds)
        have DL := hide' dl
        clear ds HS dl hdl hb DSH D
        have hN2 : N < 4294967281 := hs
        go_wp2_with fail
        refine C.out.mono ?_
        rintro e w1 ⟨b1, h⟩
        have B1 := hide' b1
        clear b1 C
        rcases h with ⟨h1, rfl⟩ | ⟨h1, h2, rfl⟩ | ⟨h1, h2, h3, rfl⟩ | ⟨h1, h2, h3, rfl, h4⟩
        · have RR := hide' (ST.out.1 h1)
          clear ST h1
          go_wp2_with fail
          exact bodyPost_ret (v := .tuple #[.slice none 0 0, .slice none 0 0, .int .i64 0, .int .i64 71]) (by simp [results, Tryz.results11, go_sem]) rfl ⟨.slice none 0 0, .slice none 0 0, by rw [RR.out]; rfl, by rw [RR.out]; exact own_nil _ _ B1.out, by rw [RR.out]; exact ownF_nil _ _ B1.out⟩
        · have RR := hide' (ST.out.2.1 h1 h2)
          clear ST h1 h2
          go_wp2_with fail
          exact bodyPost_ret (v := .tuple #[.slice none 0 0, .slice none 0 0, .int .i64 0, .int .i64 0]) (by simp [results, Tryz.results11, go_sem]) rfl ⟨.slice none 0 0, .slice none 0 0, by rw [RR.out]; rfl, by rw [RR.out]; exact own_nil _ _ B1.out, by rw [RR.out]; exact ownF_nil _ _ B1.out⟩
        · have RR := hide' (ST.out.2.2.1 h1 h2 h3)
          clear ST h1 h2 h3
          go_wp2_with fail
          exact bodyPost_ret (v := .tuple #[.slice none 0 0, .slice none 0 0, .int .i64 0, .int .i64 70]) (by simp [results, Tryz.results11, go_sem]) rfl ⟨.slice none 0 0, .slice none 0 0, by rw [RR.out]; rfl, by rw [RR.out]; exact own_nil _ _ B1.out, by rw [RR.out]; exact ownF_nil _ _ B1.out⟩
        · have RR := hide' (ST.out.2.2.2 h1 h2 h3)
          have DD := hide' h4
          have hle : s + 2 ≤ N - n := by rw [← DL.out]; exact h2
          have hz' : (((s : Int) + 2) == 0) = false := by simp; omega
          clear ST h1 h2 h3 h4
          go_wp2_with fail
          go_roundw
          case rel => exact ⟨n + (s + 2), 0, s, _, [], by go_num, by omega, hsz, RR.out, .inl ⟨by decide, DD.out⟩⟩
          case measure => simp [intOf]; omega
      · have C := hide' (readC2 w w.heap.size (s : Int) out (.slice none 0 0) vs (bs.drop n) wr D HS hdl EV.out)
        have st := ds_tail ds
        have hle : (tailC (bs.drop n)).2.1 ≤ N - n := by
          rcases tail_need (bs.drop n) with e | e | ⟨_, e, _⟩
          · rw [e]; exact Nat.zero_le _
          · rcases Nat.eq_zero_or_pos (tailC (bs.drop n)).2.1 with h | h
            · omega
            · have h5 := (st.2 (by omega)).1
              have h6 := HN.out
              omega
          · omega
        generalize tailC (bs.drop n) = L at C st hle
        obtain ⟨l1, l2, l3⟩ := L
        simp only at C st hle
        have ST := hide' st
        clear st ds HS dl hdl hb DSH D
        have hN2 : N < 4294967281 := hs
        go_wp2_with fail
        refine C.out.mono ?_
        rintro e w1 ⟨rfl, b1, hD⟩
        have B1 := hide' b1
        clear b1 C
        by_cases hz : l2 = 0
        · subst hz
          have RR := hide' (ST.out.1 rfl)
          clear ST hD
          go_wp2_with fail
          exact bodyPost_ret (v := .tuple #[.slice none 0 0, .slice none 0 0, .int .i64 0, .int .i64 l3]) (by simp [results, Tryz.results11, go_sem]) rfl ⟨.slice none 0 0, .slice none 0 0, by rw [RR.out]; rfl, by rw [RR.out]; exact own_nil _ _ B1.out, by rw [RR.out]; exact ownF_nil _ _ B1.out⟩
        · have hz' : ((l2 : Int) == 0) = false := by simp; omega
          have RR := hide' (ST.out.2 hz)
          have DD := hide' (hD.out hz)
          clear ST hD
          go_wp2_with fail
          go_roundw
          case rel => exact ⟨n + l2, 3, s, out, l1, by go_num, by omega, hsz, RR.out, .inr ⟨rfl, DD.out⟩⟩
          case measure => simp [intOf]; omega
      · exact absurd rfl h3
    · subst h3
      have RR := hide' (ds_end ds)
      obtain ⟨dv, tv, q, r1, r2, b, hg⟩ := F
      have HR1 := hide' r1
      have HR2 := hide' r2
      have HB := hide' b
      obtain ⟨c0, c1, c2, c3, f0, f1, f2, f3, fz⟩ := q
      clear A ds DSH r1 r2 b hg
      go_wp2_with fail
      go_quiet (fail)
      go_wp2_with fail
      have hb2 := below_drewN wr nq
      exact bodyPost_ret (v := .tuple #[dv, tv, .int .i64 (n : Int), .int .i64 0]) (by simp [results, Tryz.results11, go_sem]) rfl ⟨dv, tv, by rw [RR.out]; rfl, by rw [RR.out]; exact ⟨row_base (row_below HR1.out hb2) (by omega), bt' HB.out hb2⟩, by rw [RR.out]; exact ⟨row_base (row_below HR2.out hb2) (by omega), bt' HB.out hb2⟩⟩
end Go.Proofs.YtobkmepamgdccaaGreatDoor
