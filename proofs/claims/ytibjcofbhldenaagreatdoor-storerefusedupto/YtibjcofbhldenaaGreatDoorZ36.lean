/- The contract of New. A row of numbers that a call itself made; the contracts of copyInts, cut and CopyFate. -/
import Derived.Test.YtibjcofbhldenaaGreatDoorZ35
import Derived.Test.YtibjcofbhldenaaGreatDoorZ16
import Derived.Test.YtibjcofbhldenaaGreatDoorZ01
namespace Go.Proofs.YtibjcofbhldenaaGreatDoor
open Go.RowKit Go.Maps
/-- what New answers, and leaves -/
def NewPost (fs : FilL) (room : Int) (fails : List Int) (power : Int) (W : World) (e : Ending) (W' : World) : Prop :=
  Below W.heap.size W W' ∧ ((newE fs room ≠ 0 ∧ e = .returned (.tuple #[.pointer none, .int .i64 (newE fs room)])) ∨ (newE fs room = 0 ∧ ∃ g o, e = .returned (.tuple #[.pointer (some ⟨g, 0, none⟩), .int .i64 0]) ∧ Dsk o g (newS fs room fails power) W' ∧ ∀ k, o.has k → W.heap.size ≤ k))
theorem blk_grown {b m : Nat} {W W' : World} {vs : List Value} (h : Blk b W vs) (hg : W.grownBy W' (some m)) (hne : b ≠ m) : Blk b W' vs := by
  have e := hg.block b h.2 (fun e => hne (Option.some.inj e))
  exact ⟨fun j hj => ⟨by rw [World.cell?_of_block (w := W) (a := ⟨b, j, none⟩) e]; exact (h.1 j hj).1, by rw [World.frozen?_of_block (w := W) (a := ⟨b, j, none⟩) e]; exact (h.1 j hj).2⟩, Nat.lt_of_lt_of_le h.2 hg.size⟩
theorem row_grown {W W' : World} {base k n m : Nat} {t : TypeId} {v : Value} {cs : List Value} (h : W.ownsRow base t k v n cs) (hg : W.grownBy W' (some m)) (hne : m < base) : W'.ownsRow base t k v n cs := by
  obtain ⟨hl, h1 | ⟨x, cap, cur, hv, hx, hh, hrr⟩⟩ := id h
  · exact ⟨hl, .inl h1⟩
  · refine ⟨hl, .inr ⟨x, cap, cur, hv, hx, ?_, hrr⟩⟩
    rw [hg.block x (h.lt x (by rw [hv]; rfl)).2 (fun e => by have := Option.some.inj e; omega)]
    exact hh
def Ow.nil : Ow := fun _ => none
theorem map_in {W : World} {m n : Nat} {D : DU} (h : W.ownsMap Tryz.prog 3 (unitElem (H := Unit)) m n D) : Maps.IsMap D := h.isMap
set_option maxRecDepth 20000 in
set_option maxHeartbeats 8000000 in
theorem newC (fv : Value) (fs : FilL) (room : Int) (zv : Value) (fails : List Int) (power : Int) (W : World) (hf : HoldsFi W fv fs) (hz : HoldsI W zv fails) (hl : ∀ f ∈ fs, f.1.length ≤ 140737488351232 ∧ f.2.length ≤ 1000000000) (hn : fs.length ≤ 1000000000) (hzn : fails.length ≤ 1000000000) (hzb : ∀ z ∈ fails, -9223372036854775808 ≤ z ∧ z ≤ 9223372036854775807) :
    Calls Tryz.prog 21 #[fv, .int .i64 room, zv, .int .i64 power] W fun e W' => NewPost fs room fails power W e W' := by
  by_cases hr0 : room < 0
  · have E : Hid (newE fs room = 131) := by unfold Hid newE; rw [if_pos (.inl hr0)]
    have q : decide (room < 0) = true := by simpa using hr0
    clear hf hz hl hn hzn hzb
    go_enter Tryz.func21, Tryz.ntmps21
    go_wp2_with fail
    go_ret2
    exact ⟨Below.refl _ _, .inl ⟨by rw [E.out]; decide, by rw [E.out]; rfl⟩⟩
  · by_cases hr1 : 1073741824 < room
    · have E : Hid (newE fs room = 131) := by unfold Hid newE; rw [if_pos (.inr hr1)]
      have q : decide (room < 0) = false := by simpa using hr0
      clear hf hz hl hn hzn hzb
      go_enter Tryz.func21, Tryz.ntmps21
      go_wp2_with fail
      go_ret2
      exact ⟨Below.refl _ _, .inl ⟨by rw [E.out]; decide, by rw [E.out]; rfl⟩⟩
    · have E0 : newE fs room = if filesOk fs = true then 0 else 95 := by unfold newE; rw [if_neg (by rintro (h | h); exact hr0 h; exact hr1 h)]
      have CR := hide' (risingF fv fs W hf (fun f h => (hl f h).1) hn)
      have q : decide (room < 0) = false := by simpa using hr0
      cases hok : filesOk fs with
      | false =>
        have E : Hid (newE fs room = 95) := by unfold Hid; rw [E0, hok]; rfl
        rw [hok] at CR
        clear hf hz hl hn hzn hzb hok E0
        go_enter Tryz.func21, Tryz.ntmps21
        go_wp2_with (go_at_call 70; refine CR.out.mono ?_; rintro e w1 ⟨rfl, b1⟩; have B1 := hide' b1; clear b1)
        go_ret2
        exact ⟨B1.out, .inl ⟨by rw [E.out]; decide, by rw [E.out]; rfl⟩⟩
      | true =>
        have E : Hid (newE fs room = 0) := by unfold Hid; rw [E0, hok]; rfl
        rw [hok] at CR
        have HOK := hide' hok
        have hmm := @run_makeMap Tryz.prog
        have HFI := hide' hf
        have HZI := hide' hz
        have HLB := hide' hl
        have HZB := hide' hzb
        have hrm : 0 ≤ room ∧ room ≤ 1073741824 := by omega
        obtain ⟨za, zc, rfl, z0, zcp, zcell⟩ := hz
        obtain ⟨fa, fc, rfl, f0, fcp, fcell⟩ := hf
        obtain ⟨Nz, hNz⟩ : ∃ n, n = fails.length := ⟨_, rfl⟩
        obtain ⟨Nf, hNf⟩ : ∃ n, n = fs.length := ⟨_, rfl⟩
        have HNZ := hide' hNz
        have HNF := hide' hNf
        rw [← hNz] at hzn HZI ⊢
        rw [← hNf] at hn HFI CR ⊢
        have ZC := hide' zcell
        have FC := hide' fcell
        clear zcell fcell z0 zcp f0 fcp hNz hNf hl hzb hok E0
        go_enter Tryz.func21, Tryz.ntmps21
        go_wp2_with fail
        refine CR.out.mono ?_
        rintro e w1 ⟨rfl, b1⟩
        have B1 := hide' b1
        clear b1
        go_wp2_with fail
        have bA := below_alloc' w1 (.map #[] 0)
        have bB := below_alloc' (w1.alloc (.map #[] 0)) (.map #[] 0)
        have bC := below_alloc' ((w1.alloc (.map #[] 0)).alloc (.map #[] 0)) (.cells #[.int .i64 room, .int .i64 power, .map (some w1.heap.size), .int .i64 0, .int .i64 0, .map (some (w1.heap.size + 1)), .map none, .slice none 0 0] 120)
        have zA : (w1.alloc (.map #[] 0)).heap.size = w1.heap.size + 1 := by simp
        have zB : ((w1.alloc (.map #[] 0)).alloc (.map #[] 0)).heap.size = w1.heap.size + 1 + 1 := by simp
        have zC : (((w1.alloc (.map #[] 0)).alloc (.map #[] 0)).alloc (.cells #[.int .i64 room, .int .i64 power, .map (some w1.heap.size), .int .i64 0, .int .i64 0, .map (some (w1.heap.size + 1)), .map none, .slice none 0 0] 120)).heap.size = w1.heap.size + 3 := by simp
        have BK := cells_lit ((w1.alloc (.map #[] 0)).alloc (.map #[] 0)) #[.int .i64 room, .int .i64 power, .map (some w1.heap.size), .int .i64 0, .int .i64 0, .map (some (w1.heap.size + 1)), .map none, .slice none 0 0] 120
        rw [zB] at BK
        have BKH := hide' BK
        have M0 : Hid ((((w1.alloc (.map #[] 0)).alloc (.map #[] 0)).alloc (.cells #[.int .i64 room, .int .i64 power, .map (some w1.heap.size), .int .i64 0, .int .i64 0, .map (some (w1.heap.size + 1)), .map none, .slice none 0 0] 120)).ownsMap Tryz.prog 3 (unitElem (H := Unit)) w1.heap.size 0 (.map [])) := ((World.ownsMap_made w1 Tryz.prog 3 unitElem).alloc _).alloc _
        have M1 : Hid ((((w1.alloc (.map #[] 0)).alloc (.map #[] 0)).alloc (.cells #[.int .i64 room, .int .i64 power, .map (some w1.heap.size), .int .i64 0, .int .i64 0, .map (some (w1.heap.size + 1)), .map none, .slice none 0 0] 120)).ownsMap Tryz.prog 9 pel (w1.heap.size + 1) 0 (.map [])) := by
          have := (World.ownsMap_made (w1.alloc (.map #[] 0)) Tryz.prog 9 pel).alloc (.cells #[.int .i64 room, .int .i64 power, .map (some w1.heap.size), .int .i64 0, .int .i64 0, .map (some (w1.heap.size + 1)), .map none, .slice none 0 0] 120)
          rw [zA] at this
          exact this
        have B2 : Hid (Below W.heap.size W (((w1.alloc (.map #[] 0)).alloc (.map #[] 0)).alloc (.cells #[.int .i64 room, .int .i64 power, .map (some w1.heap.size), .int .i64 0, .int .i64 0, .map (some (w1.heap.size + 1)), .map none, .slice none 0 0] 120))) := by
          have q0 := B1.out.size
          exact ((B1.out.trans (bA.mono q0)).trans (bB.mono (by omega))).trans (bC.mono (by omega))
        have hm0 : W.heap.size ≤ w1.heap.size := B1.out.size
        have hz2 := hide' zC
        clear bA bB bC zA zB zC BK B1 hmm CR
        generalize (((w1.alloc (.map #[] 0)).alloc (.map #[] 0)).alloc (.cells #[.int .i64 room, .int .i64 power, .map (some w1.heap.size), .int .i64 0, .int .i64 0, .map (some (w1.heap.size + 1)), .map none, .slice none 0 0] 120)) = w2 at BKH M0 M1 B2 hz2 ⊢
        generalize w1.heap.size = m0 at BKH M0 M1 hm0 hz2 ⊢
        -- the numbers of the calls that fail
        go_loopw [12, 33] (fun _ i wr => ∃ j : Nat, j ≤ Nz ∧ i = .int .i64 j ∧ Hid (FailsN wr m0 j (fails.take j)) ∧ Hid (w2.grownBy wr (some m0))) (fun _ i _ => Nz - (intOf i).toNat)
        case atStart => exact ⟨0, by omega, rfl, ⟨_, M0.out, fun i => by simp [Maps.has_eq]⟩, ⟨rfl, rfl, rfl, Nat.le_refl _, fun _ _ _ => rfl⟩⟩
        case round =>
          obtain ⟨j, hj, rfl, HF, HG⟩ := hrel
          have eg := HG.out.block (m0 + 1 + 1) (by have := hz2.out; omega) (fun e => by have := Option.some.inj e; omega)
          have Bg : Hid (Blk (m0 + 1 + 1) wr [.int .i64 room, .int .i64 power, .map (some m0), .int .i64 0, .int .i64 0, .map (some (m0 + 1)), .map none, .slice none 0 0]) := ⟨fun i hi => ⟨by rw [World.cell?_of_block (w := w2) (a := ⟨m0 + 1 + 1, i, none⟩) eg]; exact (BKH.out.1 i hi).1, by rw [World.frozen?_of_block (w := w2) (a := ⟨m0 + 1 + 1, i, none⟩) eg]; exact (BKH.out.1 i hi).2⟩, Nat.lt_of_lt_of_le BKH.out.2 HG.out.size⟩
          have BW : Hid (Below W.heap.size W wr) := B2.out.trans ⟨HG.out.os, HG.out.tape, HG.out.output, HG.out.size, fun i hi => HG.out.block i (by have := B2.out.size; omega) (fun e => by have := Option.some.inj e; omega)⟩
          clear eg
          by_cases hlt : j < Nz
          · have hjl : j < fails.length := by rw [← HNZ.out]; exact hlt
            obtain ⟨zb, zo, hza, hzlt, hzc⟩ := ZC.out (fun e => by rw [e] at hjl; cases hjl)
            subst hza
            have x1 := hzc j hjl
            rw [← BW.out.cell (p := ⟨zb, zo + j, none⟩) hzlt] at x1
            have c2 := (cells_eight Bg.out).1.2.2.1
            obtain ⟨D, hD, hh⟩ := HF.out
            have HD := hide' hD
            have HH := hide' hh
            have ET : Hid (fails.take (j + 1) = fails.take j ++ [fails[j]'hjl]) := List.take_succ_eq_append_getElem hjl
            have hzw := HZB.out _ (List.getElem_mem hjl)
            generalize fails[j]'hjl = z at x1 ET hzw
            have KY := hide' (keyOf_int_mk (a := z) Tryz.underlying3 (by unfold Lit.wf; simp only [Bool.and_eq_true, decide_eq_true_eq]; exact hzw))
            clear hD hh hzc
            go_wp2_with (at_mapUpdate; refine wpList_mapUpdate_own _ rfl _ _ _ 115 rfl 3 141 kInt Tryz.underlying115 (unitElem (H := Unit)) m0 j D rfl HD.out (by unfold maxLen; omega) _ _ (.int .i64 z) rfl rfl KY.out (.agg []) [] unitElem_mk ?_; intro w4 h1 h2; have H1 := hide' h1; have G4 := hide' (HG.out.andThen h2 (fun x hx => .inr hx)); clear h1 h2)
            go_roundw
            case rel => exact ⟨j + 1, by omega, by go_num, ⟨_, H1.out, by intro i; rw [ET.out]; exact fails_put (map_in HD.out) HH.out i⟩, G4⟩
            case measure => simp [intOf]; omega
          · have ej : fails.take j = fails := List.take_of_length_le (by rw [← HNZ.out]; omega)
            have HFA : Hid (FailsAt wr m0 fails) := by
              obtain ⟨D, h1, h2⟩ := HF.out
              rw [ej] at h2
              exact ⟨_, D, h1, h2⟩
            have hoL : ∀ k : Nat, ((((Ow.nil).set (m0 + 1 + 1) .disk).set m0 .fails).set (m0 + 1) .seen).has k → k = m0 + 1 ∨ k = m0 ∨ k = m0 + 1 + 1 := fun k hk => by
              rcases has_set hk with e | e
              · exact .inl e
              · rcases has_set e with e | e
                · exact .inr (.inl e)
                · rcases has_set e with e | e
                  · exact .inr (.inr e)
                  · exact absurd rfl (show ¬ (none : Option Role) = none from e)
            have NP : Hid (NewP ((((Ow.nil).set (m0 + 1 + 1) .disk).set m0 .fails).set (m0 + 1) .seen) (m0 + 1 + 1) m0 (m0 + 1) (fun _ => 0) room power fails [] W.heap.size wr) := by
              have hsz := HG.out.size
              have hz3 := hz2.out
              refine ⟨Bg.out, HFA.out, ?_, fun i hi => absurd hi (by simp), ?_, ?_, set_same _ _ _, fun k hk => ?_, fun k hk => ?_⟩
              · exact World.ownsMap.kept M1.out HG.out (fun e => by have := Option.some.inj e; omega)
              · rw [set_other _ _ (by omega), set_other _ _ (by omega)]; exact set_same _ _ _
              · rw [set_other _ _ (by omega)]; exact set_same _ _ _
              · rcases hoL k hk with e | e | e <;> omega
              · rcases hoL k hk with e | e | e <;> omega
            clear ej HFA hoL HF HG Bg M0 M1 BKH B2 hz2
            have hgW : W.heap.size ≤ m0 + 1 + 1 := by omega
            generalize ((((Ow.nil).set (m0 + 1 + 1) .disk).set m0 .fails).set (m0 + 1) .seen) = oo at NP
            generalize m0 + 1 + 1 = g at NP hgW ⊢
            generalize m0 + 1 = m1 at NP ⊢
            go_wp2_with fail
            go_loopw [14, 15, 46] (fun _ _ i wx => ∃ (j : Nat) (o : Ow) (fb : Nat → Nat), j ≤ Nf ∧ i = .int .i64 j ∧ Hid (NewP o g m0 m1 fb room power fails (fs.take j) W.heap.size wx) ∧ Hid (Below W.heap.size W wx)) (fun _ _ i _ => Nf - (intOf i).toNat)
            case atStart => exact ⟨0, _, _, by omega, rfl, NP, BW⟩
            case round =>
              obtain ⟨k, o, fb, hk, rfl, HNP, HBW⟩ := hrel
              by_cases hlt2 : k < Nf
              · have hkl : k < fs.length := by rw [← HNF.out]; exact hlt2
                obtain ⟨b1, o1, hfa, hflt, hfc⟩ := FC.out (fun e => by rw [e] at hkl; cases hkl)
                obtain ⟨x1, u, x2, x3⟩ := hfc k hkl
                obtain ⟨ua, uc, hu, _⟩ := id x3
                subst hu
                rw [← HBW.out.cell (p := ⟨b1, o1 + k * 2, none⟩) hflt] at x1
                rw [← HBW.out.cell (p := ⟨b1, o1 + k * 2 + 1, none⟩) hflt] at x2
                have HX3 := hide' x3
                have hbl := HLB.out _ (List.getElem_mem hkl)
                have HOKK : Hid (filesOk (fs.take k ++ [fs[k]'hkl]) = true) := by
                  unfold Hid
                  rw [← List.take_succ_eq_append_getElem hkl]
                  exact ok_mono fs (k + 1) HOK.out
                have HTK : Hid (fs.take (k + 1) = fs.take k ++ [fs[k]'hkl]) := List.take_succ_eq_append_getElem hkl
                have hkn : (fs.take k).length = k := by rw [List.length_take]; omega
                have HKN := hide' hkn
                have ysz : (⟨((fs[k]'hkl).1).toArray⟩ : ByteArray).size ≤ 140737488351232 := by rw [size_l]; exact hbl.1
                have KEY : Hid (keyOf Tryz.prog 9 (.string ⟨((fs[k]'hkl).1).toArray⟩) = some (.string (fs[k]'hkl).1)) := by
                  unfold Hid
                  have := key_str ysz
                  simpa using this
                have hdl := hbl.2
                unfold S at x1
                generalize fs[k]'hkl = f at x1 x2 HX3 HOKK HTK ysz KEY hdl
                obtain ⟨L, hL⟩ : ∃ L, L = f.2.length := ⟨_, rfl⟩
                have HL := hide' hL
                rw [← hL] at x2 hdl HX3
                generalize (⟨(f.1).toArray⟩ : ByteArray) = y at x1 ysz KEY
                obtain ⟨X, hX⟩ : ∃ X, X = wr.heap.size + 1 := ⟨_, rfl⟩
                have HX := hide' hX
                have hgw : g < wr.heap.size := HNP.out.blk.2
                have nXV : ¬ X = wr.heap.size := by omega
                have nVX : ¬ wr.heap.size = X := by omega
                have nXg : ¬ X = g := by omega
                have ngX : ¬ g = X := by omega
                have hfl : b1 < wr.heap.size := Nat.lt_of_lt_of_le hflt HBW.out.size
                have hfn : ¬ wr.heap.size = b1 := by omega
                -- newFile
                have CN : Hid (Calls Tryz.prog 71 #[.pointer (some ⟨g, 0, none⟩)] (wr.alloc (.cells #[.string y, .slice ua L uc] 91)) fun e w' => e = .returned (.pointer (some ⟨X, 0, none⟩)) ∧ Hid (w' = newB (wr.alloc (.cells #[.string y, .slice ua L uc] 91)) g k) ∧ w'.cell? ⟨wr.heap.size, 1, none⟩ = some (.slice ua L uc)) := by
                  have b3 := below_alloc' wr (.cells #[.string y, .slice ua L uc] 91)
                  have bk := cells_below HNP.out.blk b3
                  rw [HKN.out] at bk
                  refine (newFileB bk (by omega)).mono ?_
                  rintro e w' ⟨rfl, rfl⟩
                  refine ⟨by rw [HX.out]; simp, rfl, ?_⟩
                  have hof : Off (fun x => x = g) (wr.alloc (.cells #[.string y, .slice ua L uc] 91)) (newB (wr.alloc (.cells #[.string y, .slice ua L uc] 91)) g k) := Off.trans (off_poke (S := fun x => x = g) ⟨g, 4, none⟩ rfl _) (off_alloc (S := fun _ => False) _) (fun i hi => hi.elim)
                  rw [World.cell?_of_block (a := ⟨wr.heap.size, 1, none⟩) (hof.block wr.heap.size (by simp) (by omega))]
                  simp
                clear hfc x3 hL hX hkn
                subst hfa
                go_wp2_with fail
                refine CN.out.mono ?_
                rintro e w4 ⟨rfl, N4, v41⟩
                -- what stands behind newFile
                have b3 := below_alloc' wr (.cells #[.string y, .slice ua L uc] 91)
                have z3 : (wr.alloc (.cells #[.string y, .slice ua L uc] 91)).heap.size = X := by rw [HX.out]; simp
                have NP3 := newP_below HNP.out b3
                have ez : ((wr.alloc (.cells #[.string y, .slice ua L uc] 91)).setCell ⟨g, 4, none⟩ (.int .i64 ((k : Int) + 1))).heap.size = X := by rw [← z3]; simp [World.setCell]
                have s34 : Same o (fun r => r ≠ .disk) (wr.alloc (.cells #[.string y, .slice ua L uc] 91)) w4 := by
                  rw [N4.out]
                  refine (same_poke NP3.og _).trans ((same_below (R := fun r => r ≠ .disk) (below_alloc' _ _) (fun x hx => ?_)))
                  have := NP3.lt x hx
                  rw [ez, ← z3]; exact this
                have S4 : Hid (Same o (fun r => r ≠ .disk) wr w4) := (same_below (R := fun r => r ≠ .disk) b3 HNP.out.lt).trans s34
                have G4 : Hid (Blk g w4 [.int .i64 room, .int .i64 power, .map (some m0), .int .i64 0, .int .i64 ((k : Int) + 1), .map (some m1), .map none, .slice none 0 0]) := by
                  have q1 := cells_set NP3.blk (j := 4) (by simp) (.int .i64 ((k : Int) + 1))
                  rw [N4.out]
                  exact cells_below q1 (below_alloc' _ _)
                have X4 : Hid (Blk X w4 [.int .i64 (k : Int), .slice none 0 0, .int .i64 0]) := by
                  have q1 := cells_lit ((wr.alloc (.cells #[.string y, .slice ua L uc] 91)).setCell ⟨g, 4, none⟩ (.int .i64 ((k : Int) + 1))) #[.int .i64 (k : Int), .slice none 0 0, .int .i64 0] 145
                  rw [ez] at q1
                  rw [N4.out]
                  exact q1
                have Z4 : Hid (w4.heap.size = X + 1) := by unfold Hid; rw [N4.out, ← ez]; simp
                have hof : Off (fun x => x = g) (wr.alloc (.cells #[.string y, .slice ua L uc] 91)) w4 := by rw [N4.out]; exact Off.trans (off_poke (S := fun x => x = g) ⟨g, 4, none⟩ rfl _) (off_alloc (S := fun _ => False) _) (fun i hi => hi.elim)
                have V4 : Hid (w4.cell? ⟨wr.heap.size, 0, none⟩ = some (.string y)) := by
                  unfold Hid
                  rw [World.cell?_of_block (a := ⟨wr.heap.size, 0, none⟩) (hof.block wr.heap.size (by simp) (by omega))]
                  simp
                have B4 : Hid (Below W.heap.size W w4) := by
                  have q1 := HBW.out.trans (b3.mono HBW.out.size)
                  exact q1.trans (hof.below (by have := q1.size; omega) (fun x e => by rw [e]; exact hgW))
                have CC : Hid (Calls Tryz.prog 72 #[.slice ua L uc] w4 fun e w' => ∃ ra rc, e = .returned (.slice ra L rc) ∧ Hid (Own w4 (.slice ra L rc) f.2 w') ∧ (w'.cell? ⟨X, 1, none⟩ = some (.slice none 0 0) ∧ w'.frozen? ⟨X, 1, none⟩ = false) ∧ (w'.cell? ⟨X, 2, none⟩ = some (.int .i64 0) ∧ w'.frozen? ⟨X, 2, none⟩ = false)) := by
                  refine (bcloneC _ f.2 w4 (holdsB_mono HX3.out B4.out) (by rw [← HL.out]; omega)).mono ?_
                  rintro e w' ⟨v, rfl, ho⟩
                  obtain ⟨ra, rc, hv⟩ := row_sl ho.1
                  rw [← HL.out] at hv
                  subst hv
                  obtain ⟨⟨_, q1, q2⟩, ⟨_, q3, q4⟩⟩ := cells_3 (cells_below X4.out ho.2)
                  exact ⟨ra, rc, rfl, ho, ⟨q1, q3⟩, ⟨q2, q4⟩⟩
                clear b3 z3 NP3 ez s34 hof N4
                go_wp2_with fail
                refine CC.out.mono ?_
                rintro e w5 ⟨ra, rc, rfl, O5, ⟨y1, y2⟩, ⟨y3, y4⟩⟩
                go_wp2_with fail
                have hX5 : X < w5.heap.size := cell_lt y1
                have oX : o X = none := none_of_lt HNP.out.lt (by have := HX.out; omega)
                have X5 := cells_below X4.out O5.out.2
                have X6 : Hid (Blk X ((w5.setCell ⟨X, 1, none⟩ (.slice ra L rc)).setCell ⟨X, 2, none⟩ (.int .i64 (L : Int))) [.int .i64 (k : Int), .slice ra L rc, .int .i64 (L : Int)]) := cells_set (cells_set X5 (j := 1) (by simp) (.slice ra L rc)) (j := 2) (by simp) (.int .i64 (L : Int))
                have R6 : Hid (((w5.setCell ⟨X, 1, none⟩ (.slice ra L rc)).setCell ⟨X, 2, none⟩ (.int .i64 (L : Int))).ownsRow (X + 1) 5 1 (.slice ra L rc) f.2.length (f.2.map B)) := by
                  have q1 := O5.out.1
                  rw [Z4.out] at q1
                  exact row_poke (row_poke q1 (by omega)) (by omega)
                have of56 : Off (fun x => x = X) w5 ((w5.setCell ⟨X, 1, none⟩ (.slice ra L rc)).setCell ⟨X, 2, none⟩ (.int .i64 (L : Int))) := (off_poke (S := fun x => x = X) ⟨X, 1, none⟩ rfl _).trans (off_poke (S := fun x => x = X) ⟨X, 2, none⟩ rfl _) (fun i hi => .inl hi)
                have of46 : Hid (Off (fun x => x = X) w4 ((w5.setCell ⟨X, 1, none⟩ (.slice ra L rc)).setCell ⟨X, 2, none⟩ (.int .i64 (L : Int)))) := (off_of (S := fun x => x = X) O5.out.2).trans of56 (fun i hi => .inl hi)
                have hlt4 : ∀ x, o.has x → x < w4.heap.size := fun x hx => by have h1 := HNP.out.lt x hx; have h2 := S4.out.size; omega
                have S6 : Hid (Same o (fun r => r ≠ .disk) wr ((w5.setCell ⟨X, 1, none⟩ (.slice ra L rc)).setCell ⟨X, 2, none⟩ (.int .i64 (L : Int)))) := S4.out.trans (same_off of46.out hlt4 (fun x r e e2 => by rw [e, oX] at e2; cases e2))
                have G6 : Hid (Blk g ((w5.setCell ⟨X, 1, none⟩ (.slice ra L rc)).setCell ⟨X, 2, none⟩ (.int .i64 (L : Int))) [.int .i64 room, .int .i64 power, .map (some m0), .int .i64 0, .int .i64 ((k : Int) + 1), .map (some m1), .map none, .slice none 0 0]) := cells_other (cells_other (cells_below G4.out O5.out.2) ngX _) ngX _
                have V6 : Hid (((w5.setCell ⟨X, 1, none⟩ (.slice ra L rc)).setCell ⟨X, 2, none⟩ (.int .i64 (L : Int))).cell? ⟨wr.heap.size, 0, none⟩ = some (.string y)) := by
                  unfold Hid
                  rw [World.cell?_of_block (w := w4) (a := ⟨wr.heap.size, 0, none⟩) (of46.out.block _ (cell_lt V4.out) nVX)]
                  exact V4.out
                have B6 : Hid (Below W.heap.size W ((w5.setCell ⟨X, 1, none⟩ (.slice ra L rc)).setCell ⟨X, 2, none⟩ (.int .i64 (L : Int)))) := B4.out.trans (of46.out.below B4.out.size (fun x e => by have h1 := HX.out; have h2 := HBW.out.size; omega))
                have hX6 : X < ((w5.setCell ⟨X, 1, none⟩ (.slice ra L rc)).setCell ⟨X, 2, none⟩ (.int .i64 (L : Int))).heap.size := X6.out.2
                clear y1 y2 y3 y4 X5 of56 of46 hlt4 O5 hX5 S4 G4 X4 Z4 V4 B4 CC CN v41
                generalize (w5.setCell ⟨X, 1, none⟩ (.slice ra L rc)).setCell ⟨X, 2, none⟩ (.int .i64 (L : Int)) = w6 at X6 R6 S6 G6 V6 B6 hX6 ⊢
                have CK : Hid (∀ Wx, Below w6.heap.size w6 Wx → Calls Tryz.prog 73 #[.string y] Wx fun e w7 => e = .returned (.string y) ∧ (w7.cell? ⟨g, 5, none⟩ = some (.map (some m1)) ∧ w7.cell? ⟨wr.heap.size, 0, none⟩ = some (.string y)) ∧ ∃ w8, (Instr.mapUpdate 117 (.map (some m1)) (.string y) (.pointer (some ⟨X, 0, none⟩))).run Tryz.prog w7 = .ok () w8 ∧ Hid (Below w6.heap.size w6 w7 ∧ w7.grownBy w8 (some m1) ∧ Tbl w8 m1 (upd fb k X) (putN (numbered (fs.take k)) f.1 k))) := by
                  intro Wx hb
                  refine (clone y Wx ysz).mono ?_
                  rintro e w7 ⟨rfl, hb2⟩
                  have b7 := hb.trans (hb2.mono hb.size)
                  have t7 := tbl_upd (n := k) (b := X) (tbl_below (tbl_same HNP.out.seen S6.out HNP.out.o1 (by decide)) b7) (fun p hp => by
                    have h1 : p.2 ∈ (numbered (fs.take k)).map (fun p => p.2) := List.mem_map_of_mem hp
                    rw [num_snd, List.mem_range, HKN.out] at h1
                    exact h1)
                  obtain ⟨w8, r1, r2, r3⟩ := World.ownsMap.update (val := .pointer (some ⟨X, 0, none⟩)) t7 kStr Tryz.underlying117 (by rw [num_len, HKN.out]; unfold maxLen; omega) KEY.out (pel_at X)
                  refine ⟨rfl, ⟨(cells_eight (cells_below G6.out b7)).1.2.2.2.2.2.1, by rw [b7.cell (p := ⟨wr.heap.size, 0, none⟩) (cell_lt V6.out)]; exact V6.out⟩, w8, r1, b7, r3, ?_⟩
                  have e1 : (DataW.lit (Lit.int .i64 (X : Int)) : DU) = .lit (.int .i64 ((upd fb k X k : Nat) : Int)) := by rw [upd_same]
                  rw [e1] at r2
                  exact tbl_put r2
                have g5 := (cells_eight G6.out).1.2.2.2.2.2.1
                have v5 := V6.out
                go_region_with (first
                  | (go_at_call 73; refine (CK.out _ ?_).mono ?_; (first | exact (Below.refl _ _).drew | exact Below.refl _ _); rintro e w7 ⟨rfl, ⟨p1, p2⟩, w8, r7, H7⟩))
                all_goals
                  go_wp2_with fail
                  obtain ⟨b7, g8, t8⟩ := H7.out
                  have lt6 : ∀ x, o.has x → x < w6.heap.size := fun x hx => Nat.lt_of_lt_of_le (HNP.out.lt x hx) S6.out.size
                  have lt7 : ∀ x, o.has x → x < w7.heap.size := fun x hx => Nat.lt_of_lt_of_le (lt6 x hx) b7.size
                  have hm1 : m1 < wr.heap.size := HNP.out.lt m1 (has_of HNP.out.o1)
                  have hXe := HX.out
                  have S8 : Same o (fun r => r ≠ .disk ∧ r ≠ .seen) wr w8 := (S6.out.mono (fun r h => h.1)).trans ((same_below (R := fun r => r ≠ .disk ∧ r ≠ .seen) b7 lt6).trans ((same_grown g8 lt7 HNP.out.o1).mono (fun r h => h.2)))
                  have hgm1 : g ≠ m1 := ow_ne HNP.out.og HNP.out.o1 (by decide)
                  have G8 := blk_grown (cells_below G6.out b7) g8 hgm1
                  have X8 := blk_grown (cells_below X6.out b7) g8 (by omega)
                  have R8 := row_grown (row_below R6.out b7) g8 (by omega)
                  have hX8 : X < w8.heap.size := X8.2
                  have NPN := newP_file (fs := fs.take k) (X := X) (rv := .slice ra L rc) (f := f) HNP.out HBW.out.size (by omega) hX8 S8 (by rw [HKN.out]; exact G8) (by rw [HKN.out, ← HL.out]; exact X8) R8 (by rw [HKN.out]; exact t8) HOKK.out
                  rw [HKN.out, ← HTK.out] at NPN
                  have BN : Below W.heap.size W w8 := (B6.out.trans (b7.mono B6.out.size)).trans ⟨g8.os, g8.tape, g8.output, g8.size, fun i hi => g8.block i (by have h1 := B6.out.size; have h2 := b7.size; omega) (fun e => by have h1 := Option.some.inj e; have h2 := HNP.out.new m1 (has_of HNP.out.o1); omega)⟩
                  have NPH := hide' NPN
                  have BNH := hide' BN
                  clear b7 g8 t8 lt6 lt7 S8 G8 X8 R8 NPN BN
                  go_roundw
                  case rel => exact ⟨k + 1, _, _, by omega, by go_num, NPH, BNH⟩
                  case measure => simp [intOf]; omega
              · have ek : fs.take k = fs := List.take_of_length_le (by rw [← HNF.out]; omega)
                have NPF : Hid (NewP o g m0 m1 fb room power fails fs W.heap.size wr) := by have := HNP.out; rw [ek] at this; exact this
                have CM := hide' (mcloneC NPF.out.seen)
                have c5 := (cells_eight NPF.out.blk).1.2.2.2.2.2.1
                clear ek HNP
                go_wp2_with (go_at_call 74; refine CM.out.mono ?_; rintro e w9 ⟨rfl, t9, b9⟩; have T9 := hide' t9; have B9 := hide' b9; have K9 := hide' (cells_below NPF.out.blk b9); have c6 := (K9.out.1 6 (by simp)).1; have f6 := (K9.out.1 6 (by simp)).2; simp only [List.getElem_cons_succ, List.getElem_cons_zero] at c6; clear t9 b9)
                go_ret2
                have hV := newP_dkV NPF.out HOK.out hrm (Nat.le_refl _) B9.out T9.out
                refine ⟨?_, .inr ⟨E.out, g, _, rfl, ⟨_, _, _, _, _, _, hV⟩, fun x hx => ?_⟩⟩
                · exact (HBW.out.trans (B9.out.mono HBW.out.size)).setCell hgW _
                · rcases has_set hx with e | e
                  · have := HBW.out.size; omega
                  · exact NPF.out.new x e
end Go.Proofs.YtibjcofbhldenaaGreatDoor
namespace Go.Proofs.YtibjcofbhldenaaGreatDoor
open Go.RowKit
def I (z : Int) : Value := .int .i64 z
end Go.Proofs.YtibjcofbhldenaaGreatDoor
