/- The contracts of the library's digits at base sixteen. -/
import Derived.Test.YtobkmepamgdccaaGreatDoorChR
import Derived.Test.YtobkmepamgdccaaGreatDoorChW
import Derived.Test.YtobkmepamgdccaaGreatDoorBc
import Derived.Test.YtobkmepamgdccaaGreatDoorBf
import Derived.Laws.BitsAllLaws
namespace Go.Proofs.YtobkmepamgdccaaGreatDoor
open Go.RowKit
/-- the library's table of places, at the place that is met here -/
def Bru (w : World) : Prop := w.cell? ⟨7, 15, none⟩ = some (.int .u8 4)
theorem bru_lt {w : World} (h : Bru w) : 7 < w.heap.size := by
  rcases Nat.lt_or_ge 7 w.heap.size with h1 | h1
  · exact h1
  · unfold Bru World.cell? at h
    rw [Array.getElem?_eq_none h1] at h
    simp at h
theorem bru_below {w w' : World} (h : Bru w) (hb : Below w.heap.size w w') : Bru w' := by
  unfold Bru
  rw [hb.cell (p := ⟨7, 15, none⟩) (bru_lt h)]
  exact h
set_option maxRecDepth 20000 in
set_option maxHeartbeats 1000000 in
theorem tz64C (w : World) (h : Bru w) : Calls Tryz.prog 122 #[.int .u64 16] w fun e w' => e = .returned (.int .i64 4) ∧ w' = w := by
  unfold Bru at h
  have key : IntKind.u64.wrap (bits BinOp.and IntKind.u64 16 (IntKind.u64.wrap (-16)) * 285870213051353865) / 288230376151711744 = 15 := by decide +kernel
  go_enter Tryz.func122, Tryz.ntmps122
  go_wp2_with (simp only [key])
  go_ret
  exact ⟨rfl, rfl⟩
set_option maxRecDepth 20000 in
set_option maxHeartbeats 1000000 in
theorem tzC (w : World) (h : Bru w) : Calls Tryz.prog 108 #[.int .u64 16] w fun e w' => e = .returned (.int .i64 4) ∧ w' = w := by
  have C := hide' (tz64C w h)
  clear h
  go_enter Tryz.func108, Tryz.ntmps108
  go_wp2_with (go_at_call 122; refine C.out.mono ?_; rintro e w9 ⟨rfl, ew⟩; rw [ew]; clear ew w9)
  go_ret
  exact ⟨rfl, rfl⟩
theorem pow2C (w : World) : Calls Tryz.prog 107 #[.int .i64 16] w fun e w' => e = .returned (.bool true) ∧ w' = w := by
  have key : bits BinOp.and IntKind.i64 16 15 = 0 := by decide +kernel
  go_enter Tryz.func107, Tryz.ntmps107
  go_wp2_with (simp only [key])
  go_ret
  exact ⟨rfl, rfl⟩
theorem row_far {W : World} {base k n b o : Nat} {t : TypeId} {v x : Value} {cs : List Value} (h : W.ownsRow base t k v n cs) (hb : v.ownBlock ≠ some b) : (W.setCell ⟨b, o, none⟩ x).ownsRow base t k v n cs := by
  obtain ⟨hl, h1 | ⟨g, cap, cur, hv, hg, hh, hr⟩⟩ := h
  · exact ⟨hl, .inl h1⟩
  · refine ⟨hl, .inr ⟨g, cap, cur, hv, hg, ?_, hr⟩⟩
    rw [heap_setCell_other _ _ _ _ (show g ≠ b by intro e; apply hb; rw [hv, e]; rfl)]
    exact hh
/-- an array of 65 bytes, filled from its end -/
def Buf (g : Nat) (W : World) (ds : List UInt8) : Prop := (∀ j, j < 65 → (W.cell? ⟨g, j, none⟩).isSome = true ∧ W.frozen? ⟨g, j, none⟩ = false) ∧ (∀ j (h : j < ds.length), W.cell? ⟨g, 65 - ds.length + j, none⟩ = some (B ds[j])) ∧ g < W.heap.size ∧ ds.length ≤ 65
theorem buf_new (w : World) (t : TypeId) : Buf w.heap.size (w.alloc (.cells Tryz.zeroCells119 t)) [] := by
  refine ⟨fun j hj => ?_, fun j h => by simp at h, by simp, by simp⟩
  have e : Tryz.zeroCells119 = Array.replicate 65 (.int .u8 0) := by kernel_rfl
  rw [e]
  constructor
  · unfold World.cell?
    rw [heap_alloc_new]
    simp [hj]
  · unfold World.frozen?
    rw [heap_alloc_new]
    simp
theorem buf_step {g : Nat} {W : World} {ds : List UInt8} (h : Buf g W ds) (c : UInt8) (hl : ds.length < 65) : Buf g (W.setCell ⟨g, 64 - ds.length, none⟩ (B c)) (c :: ds) := by
  obtain ⟨h1, h2, h3, h4⟩ := h
  obtain ⟨u, hu⟩ := Option.isSome_iff_exists.1 (h1 (64 - ds.length) (by omega)).1
  refine ⟨fun j hj => ⟨?_, by simpa using (h1 j hj).2⟩, fun j hj => ?_, by simpa using h3, by simp; omega⟩
  · by_cases e : j = 64 - ds.length
    · subst e
      rw [World.cell?_setCell_same (u := u) _ _ _ hu]; rfl
    · rw [World.cell?_setCell_other _ _ _ _ (by first | (simp; omega) | simp)]
      exact (h1 j hj).1
  · rw [List.length_cons] at hj ⊢
    cases j with
    | zero =>
      rw [show 65 - (ds.length + 1) + 0 = 64 - ds.length by omega, World.cell?_setCell_same (u := u) _ _ _ hu]
      rfl
    | succ j =>
      rw [show 65 - (ds.length + 1) + (j + 1) = 65 - ds.length + j by omega, World.cell?_setCell_other _ _ _ _ (by first | (simp; omega) | simp), h2 j (by omega)]
      rfl
theorem buf_holds {g : Nat} {W : World} {ds : List UInt8} (h : Buf g W ds) : HoldsB W (.slice (some ⟨g, 65 - ds.length, none⟩) ds.length ds.length) ds :=
  ⟨_, ds.length, rfl, (fun e => by cases e), Nat.le_refl _, fun _ => ⟨g, 65 - ds.length, rfl, h.2.2.1, h.2.1⟩⟩
theorem hexL_zero (f : Nat) : hexL f 0 = [] := by cases f <;> simp [hexL]
theorem hexL_step {f v : Nat} (h : 16 ≤ v) (hf : v < 16 ^ f) : ∃ f', f = f' + 1 ∧ 1 ≤ f' ∧ v / 16 < 16 ^ f' ∧ hexL f v = hexL f' (v / 16) ++ [hexB (v % 16)] := by
  cases f with
  | zero => simp at hf; omega
  | succ f =>
    refine ⟨f, rfl, ?_, ?_, ?_⟩
    · rcases Nat.eq_zero_or_pos f with e | e
      · subst e; simp at hf; omega
      · exact e
    · rw [Nat.pow_succ] at hf; omega
    · rw [hexL, if_neg (by omega)]
theorem hexL_one {f v : Nat} (h0 : 0 < v) (h : v < 16) (hf : 1 ≤ f) : hexL f v = [hexB v] := by
  obtain ⟨f, rfl⟩ : ∃ g, f = g + 1 := ⟨f - 1, by omega⟩
  rw [hexL, if_neg (by omega), show v / 16 = 0 by omega, hexL_zero, show v % 16 = v by omega]; rfl
theorem dg_get (a : Fin 16) : (((⟨#[48, 49, 50, 51, 52, 53, 54, 55, 56, 57, 97, 98, 99, 100, 101, 102, 103, 104, 105, 106, 107, 108, 109, 110, 111, 112, 113, 114, 115, 116, 117, 118, 119, 120, 121, 122]⟩ : ByteArray)[a.val]'(show a.val < 36 from Nat.lt_trans a.isLt (by decide))).toNat : Int) = ((hexB a.val).toNat : Int) := by
  revert a; decide +kernel
theorem idx_dg (k : Nat) (h : k < 16) : ∀ W, Sem.run Tryz.prog (Instr.index 9 (.string ⟨#[48, 49, 50, 51, 52, 53, 54, 55, 56, 57, 97, 98, 99, 100, 101, 102, 103, 104, 105, 106, 107, 108, 109, 110, 111, 112, 113, 114, 115, 116, 117, 118, 119, 120, 121, 122]⟩) (.int .u64 ((k : Nat) : Int))) W = .ok (.int .u8 ((hexB k).toNat : Int)) W := by
  intro W
  rw [run_index_string _ _ _ _ _ Tryz.underlying9, dif_pos ⟨by omega, by show (k : Int) < 36; omega⟩]
  exact congrArg (fun x => Result.ok (Value.int IntKind.u8 x) W) (dg_get ⟨k, h⟩)
theorem and15 (u : Nat) (h : u < 18446744073709551616) : bits .and .u64 (u : Int) 15 = ((u % 16 : Nat) : Int) := by
  have h1 := bits_and_u64_nat u 15 h (by decide)
  rw [show ((15 : Nat) : Int) = 15 from rfl] at h1
  rw [h1, show (15 : Nat) = 2 ^ 4 - 1 from rfl, Nat.and_two_pow_sub_one_eq_mod]
set_option maxRecDepth 100000 in
set_option maxHeartbeats 8000000 in
theorem fmtC (w0 : World) (dv : Value) (ps : List UInt8) (u : Nat) (hu0 : 0 < u) (hu : u ≤ 65536) (w : World) (hown : Own w0 dv ps w) (hl : ps.length ≤ 1000000000) (Z : Bru w) :
    Calls Tryz.prog 81 #[dv, .int .u64 (u : Int), .int .i64 16, .bool false, .bool true] w fun e w' => ∃ v', e = .returned (.tuple #[v', .string ⟨#[]⟩]) ∧ Own w0 v' (ps ++ hexOf u) w' := by
  obtain ⟨W0, hW0⟩ : ∃ W0, W0 = w.alloc (.cells Tryz.zeroCells119 119) := ⟨_, rfl⟩
  have bA := below_alloc' w (.cells Tryz.zeroCells119 119)
  have bn := buf_new w 119
  rw [← hW0] at bA bn
  have ZB := hide' (bru_below Z bA)
  have OB := hide' (own_mono hown bA)
  have BN := hide' bn
  have hob : Hid (dv.ownBlock ≠ some w.heap.size) := by
    intro e
    rcases hown.1.2 with ⟨h1, _⟩ | ⟨g, cap, cur, h1, _⟩
    · rw [h1] at e; simp [Value.ownBlock] at e
    · rw [h1] at e
      simp only [Value.ownBlock, Option.some.injEq] at e
      have := (hown.1.lt g (by rw [h1]; rfl)).2
      omega
  obtain ⟨D, hD⟩ : ∃ D, D = hexOf u := ⟨_, rfl⟩
  have HD := hide' hD
  have hw0 := hown.2.size
  obtain ⟨g, hg⟩ : ∃ g, g = w.heap.size := ⟨_, rfl⟩
  rw [← hg] at BN hob hw0
  rw [← hD]
  obtain ⟨da, dc, hdv⟩ := row_slice hown.1
  subst hdv
  have hal : Tryz.prog.arrayLen 119 = 65 := by simp [Program.arrayLen, Tryz.underlying119]
  have HW0 := hide' hW0
  have HG := hide' hg
  clear hD bA bn Z hown hW0 hg
  go_enter Tryz.func81, Tryz.ntmps81
  go_wp2_with fail
  rw [← HW0.out, ← HG.out]
  refine (pow2C _).mono ?_
  rintro e w9 ⟨rfl, ew⟩
  rw [ew]
  clear ew w9
  go_wp2_with fail
  refine (tzC _ ZB.out).mono ?_
  rintro e w9 ⟨rfl, ew⟩
  rw [ew]
  clear ew w9
  have f8 : u < 16 ^ 8 := Nat.lt_of_le_of_lt hu (by decide)
  go_wp2_with fail
  go_loopw [1, 13] (fun uv iv wr => ∃ (k f : Nat) (ds : List UInt8), uv = .int .u64 (k : Int) ∧ iv = .int .i64 (65 - (ds.length : Int)) ∧ 0 < k ∧ k ≤ 65536 ∧ ds.length + f = 8 ∧ Hid (k < 16 ^ f ∧ D = hexL f k ++ ds) ∧ Hid (Buf g wr ds) ∧ Hid (Own w0 (.slice da ps.length dc) ps wr)) (fun uv _ _ => (intOf uv).toNat)
  case atStart => exact ⟨u, 8, [], rfl, rfl, hu0, hu, rfl, ⟨f8, by rw [HD.out]; simp [hexOf]⟩, BN, OB⟩
  case round =>
    obtain ⟨k, f, ds, rfl, rfl, hk0, hk1, hdf, HE, BF, OW⟩ := hrel
    obtain ⟨ef, eD⟩ := HE.out
    have hlen : ds.length ≤ 8 := by omega
    by_cases h16 : 16 ≤ k
    · obtain ⟨f', rfl, hf1, hf2, hx⟩ := hexL_step h16 ef
      have a1 := and15 k (by omega)
      have B2 := hide' (buf_step BF.out (hexB (k % 16)) (by omega))
      have OW2 : Hid (Own w0 (.slice da ps.length dc) ps (wr.setCell ⟨g, 64 - ds.length, none⟩ (B (hexB (k % 16))))) := ⟨row_far OW.out.1 hob.out, OW.out.2.setCell hw0 _⟩
      have HE2 : Hid (k / 16 < 16 ^ f' ∧ D = hexL f' (k / 16) ++ (hexB (k % 16) :: ds)) := ⟨hf2, by rw [eD, hx]; simp⟩
      obtain ⟨c1, c2⟩ := BF.out.1 (64 - ds.length) (by omega)
      obtain ⟨cu, c1⟩ := Option.isSome_iff_exists.1 c1
      obtain ⟨m, hm⟩ : ∃ m, m = ds.length := ⟨_, rfl⟩
      have HM := hide' hm
      rw [← hm] at hlen hdf c1 c2 ⊢
      unfold B at OW2 B2
      rw [← hm] at OW2 B2
      have dg := dg_get ⟨k % 16, Nat.mod_lt _ (by decide)⟩
      simp only at dg
      rw [← dg] at OW2 B2
      generalize hexB (k % 16) = hb at B2 OW2 HE2
      have i0 : (0 : Int) ≤ 65 - (m : Int) - 1 := by omega
      have i1 : (65 : Int) - (m : Int) - 1 < 65 := by omega
      have i2 : ((65 : Int) - (m : Int) - 1).toNat = 64 - m := by omega
      have i3 : (64 : Int) - (m : Int) = ((64 - m : Nat) : Int) := by omega
      have h16' : (16 : Int) ≤ (k : Int) := by omega
      clear ef eD hx HE hm hf2 dg
      go_wp2_with (simp only [a1])
      go_roundw
      case rel => exact ⟨k / 16, f', hb :: ds, by go_num, by rw [List.length_cons, ← HM.out]; go_num, by omega, by omega, by rw [List.length_cons, ← HM.out]; omega, HE2, B2, OW2⟩
      case measure => simp [intOf]; omega
    · have h16' : (k : Int) < 16 := by omega
      have B2 := hide' (buf_step BF.out (hexB k) (by omega))
      have OW2 : Hid (Own w0 (.slice da ps.length dc) ps (wr.setCell ⟨g, 64 - ds.length, none⟩ (B (hexB k)))) := ⟨row_far OW.out.1 hob.out, OW.out.2.setCell hw0 _⟩
      have hf1 : 1 ≤ f := by
        rcases Nat.eq_zero_or_pos f with e | e
        · subst e; simp at ef; omega
        · exact e
      have HE2 : Hid (D = hexB k :: ds) := by unfold Hid; rw [eD, hexL_one hk0 (by omega) hf1]; rfl
      obtain ⟨c1, c2⟩ := BF.out.1 (64 - ds.length) (by omega)
      obtain ⟨cu, c1⟩ := Option.isSome_iff_exists.1 c1
      have HH := hide' (buf_holds B2.out)
      obtain ⟨m, hm⟩ : ∃ m, m = ds.length := ⟨_, rfl⟩
      have HM := hide' hm
      rw [← hm] at hlen hdf c1 c2 ⊢
      rw [List.length_cons, ← hm, show 65 - (m + 1) = 64 - m by omega] at HH
      unfold B at OW2 HH
      rw [← hm] at OW2
      have dg := dg_get ⟨k, by omega⟩
      simp only at dg
      rw [← dg] at OW2 HH
      generalize hexB k = hb at OW2 HE2 HH
      have i0 : (0 : Int) ≤ 65 - (m : Int) - 1 := by omega
      have i1 : (65 : Int) - (m : Int) - 1 < 65 := by omega
      have i2 : ((65 : Int) - (m : Int) - 1).toNat = 64 - m := by omega
      have hsl : ∀ W, (Instr.sliceAt 119 (.pointer (some ⟨g, 0, none⟩)) (some (.int .i64 ((65 : Int) - (m : Int) - 1))) none none).run Tryz.prog W = .ok (.slice (some ⟨g, 64 - m, none⟩) (m + 1) (m + 1)) W := fun W => by
        rw [run_sliceAt_array_l W 119 ⟨g, 0, none⟩ (by simp [Program.arrayLen, Program.elem, Tryz.underlying119]) .i64 ((65 : Int) - (m : Int) - 1) (by omega) (by rw [hal]; omega)]
        have hel : Tryz.prog.elem 119 = 5 := by kernel_rfl
        rw [hel, Tryz.sizeOf5, hal]
        simp only [Result.andThen, slicedAt]
        have e1 : ((65 : Int) - (m : Int) - 1).toNat = 64 - m := by omega
        rw [e1, if_neg (by omega), Nat.mul_one, Go.WideShapes.add_plain, show 65 - (64 - m) = m + 1 by omega, Nat.zero_add]
      clear ef eD HE hm B2 dg
      go_wp2_with (at_builtin; refine appAllB rfl (.tmp 95) (.tmp 97) rfl w0 _ ps rfl OW2.out _ (hb :: ds) rfl HH.out (by rw [List.length_cons, ← HM.out]; omega) ?_; intro v2 w2 hown2)
      go_ret2
      exact ⟨v2, rfl, by rw [HE2.out]; exact hown2⟩
set_option maxRecDepth 20000 in
set_option maxHeartbeats 2000000 in
theorem appUC (w0 : World) (dv : Value) (ps : List UInt8) (u : Nat) (hu0 : 0 < u) (hu : u ≤ 65536) (w : World) (hown : Own w0 dv ps w) (hl : ps.length ≤ 1000000000) (Z : Bru w) :
    Calls Tryz.prog 63 #[dv, .int .u64 (u : Int), .int .i64 16] w fun e w' => ∃ v', e = .returned v' ∧ Own w0 v' (ps ++ hexOf u) w' := by
  have C := hide' (fmtC w0 dv ps u hu0 hu w hown hl Z)
  obtain ⟨da, dc, hdv⟩ := row_slice hown.1
  subst hdv
  clear hown Z
  generalize hexOf u = D at C ⊢
  go_enter Tryz.func63, Tryz.ntmps63
  go_wp2_with fail
  refine C.out.mono ?_
  rintro e w1 ⟨v', rfl, ho⟩
  have O := hide' ho
  clear ho C
  go_wp2_with fail
  go_ret
  exact ⟨v', rfl, O.out⟩
set_option maxRecDepth 20000 in
set_option maxHeartbeats 2000000 in
theorem appIC (w0 : World) (dv : Value) (ps : List UInt8) (u : Nat) (hu0 : 0 < u) (hu : u ≤ 65536) (w : World) (hown : Own w0 dv ps w) (hl : ps.length ≤ 1000000000) (Z : Bru w) :
    Calls Tryz.prog 47 #[dv, .int .i64 (u : Int), .int .i64 16] w fun e w' => ∃ v', e = .returned v' ∧ Own w0 v' (ps ++ hexOf u) w' := by
  have C := hide' (appUC w0 dv ps u hu0 hu w hown hl Z)
  obtain ⟨da, dc, hdv⟩ := row_slice hown.1
  subst hdv
  clear hown Z
  generalize hexOf u = D at C ⊢
  go_enter Tryz.func47, Tryz.ntmps47
  go_wp2_with fail
  refine C.out.mono ?_
  rintro e w1 ⟨v', rfl, ho⟩
  have O := hide' ho
  clear ho C
  go_wp2_with fail
  go_ret
  exact ⟨v', rfl, O.out⟩
set_option maxRecDepth 20000 in
set_option maxHeartbeats 2000000 in
theorem appC (w0 : World) (dv : Value) (ps : List UInt8) (u : Nat) (hu0 : 0 < u) (hu : u ≤ 65536) (w : World) (hown : Own w0 dv ps w) (hl : ps.length ≤ 1000000000) (Z : Bru w) :
    Calls Tryz.prog 34 #[dv, .int .i64 (u : Int), .int .i64 16] w fun e w' => ∃ v', e = .returned v' ∧ Own w0 v' (ps ++ hexOf u) w' := by
  have C := hide' (appIC w0 dv ps u hu0 hu w hown hl Z)
  obtain ⟨da, dc, hdv⟩ := row_slice hown.1
  subst hdv
  clear hown Z
  generalize hexOf u = D at C ⊢
  go_enter Tryz.func34, Tryz.ntmps34
  go_wp2_with fail
  refine C.out.mono ?_
  rintro e w1 ⟨v', rfl, ho⟩
  have O := hide' ho
  clear ho C
  go_wp2_with fail
  go_ret
  exact ⟨v', rfl, O.out⟩
end Go.Proofs.YtobkmepamgdccaaGreatDoor
