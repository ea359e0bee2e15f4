/- The walk of InboxBoxes. -/
import Derived.Test.YtmikgpmnffdnnaaGreatDoorSlb
import Derived.Test.YtmikgpmnffdnnaaGreatDoorInA
import Derived.Test.YtmikgpmnffdnnaaGreatDoorOpnL
namespace Go.Proofs.YtmikgpmnffdnnaaGreatDoor
open Go.RowKit
namespace inboxBoxes
def erB (bad : Bool) : Int := if bad = true then 80 else 0
/-- the box holds bx, the law's own list hb; both stand in blocks of their own behind w -/
def LI (w : World) (g : Nat) (hv : Value) (bx hb : List UInt8) (er : Int) (wr : World) : Prop :=
  ∃ cv, BoxX g cv bx er wr ∧ SlB hv hb wr ∧ (∀ k, blkV hv = some k → k ≠ g ∧ cv.ownBlock ≠ some k ∧ w.heap.size ≤ k) ∧ Below w.heap.size w wr ∧ w.heap.size ≤ g
theorem li_below {w : World} {g : Nat} {hv : Value} {bx hb : List UInt8} {er : Int} {wr wr' : World} (h : LI w g hv bx hb er wr) (b : Below wr.heap.size wr wr') : LI w g hv bx hb er wr' := by
  obtain ⟨cv, h1, h2, h3, h4, h5⟩ := h
  exact ⟨cv, boxX_below h1 b, slB_below h2 b, h3, bt' h4 b, h5⟩
theorem bel_far {w wr wr' : World} {S : Nat → Prop} (h : Below w.heap.size w wr) (hf : Far S wr wr') (hS : ∀ k, S k → w.heap.size ≤ k) : Below w.heap.size w wr' := h.trans (below_far hf w.heap.size h.size hS)
theorem row_ge {g n : Nat} {W : World} {cv : Value} {cs : List Value} (h : W.ownsRow (g + 1) 5 1 cv n cs) : ∀ k, cv.ownBlock = some k → g < k ∧ k < W.heap.size := fun k e => World.ownsRow.lt h k e
/-- a block that neither the box nor the law's list stands in is written -/
theorem li_far {w : World} {g : Nat} {hv : Value} {bx hb : List UInt8} {er : Int} {wr wr' : World} {S : Nat → Prop} (h : LI w g hv bx hb er wr) (hf : Far S wr wr') (h1 : ¬ S g) (h2 : ∀ cv k, BoxX g cv bx er wr → cv.ownBlock = some k → ¬ S k) (h3 : ∀ k, blkV hv = some k → ¬ S k) (hS : ∀ k, S k → w.heap.size ≤ k) : LI w g hv bx hb er wr' := by
  obtain ⟨cv, q1, q2, q3, q4, q5⟩ := h
  have hb := hf.2.2.2.2 g q1.1.2 h1
  refine ⟨cv, ⟨⟨fun j hj => ⟨by rw [World.cell?_of_block (w := wr) (a := ⟨g, j, none⟩) hb]; exact (q1.1.1 j hj).1, by rw [World.frozen?_of_block (w := wr) (a := ⟨g, j, none⟩) hb]; exact (q1.1.1 j hj).2⟩, Nat.lt_of_lt_of_le q1.1.2 hf.2.2.2.1⟩, row_Far q1.2 hf (fun k e => h2 cv k q1 e)⟩, slB_far q2 hf h3, q3, bel_far q4 hf hS, q5⟩
/-- a piece is put in -/
theorem feedL (w : World) (g : Nat) (hv v : Value) (hb p : List UInt8) (hp : p ≠ []) (bad : Bool) (wr : World) (h : LI w g hv hb hb (erB bad) wr) (hu : HoldsB wr v p) (hl : hb.length + p.length ≤ 1000000000) :
    Calls Tryz.prog 28 #[.pointer (some ⟨g, 0, none⟩), v] wr fun e W' => e = .returned (.tuple #[]) ∧ Hid (LI w g hv (if bad = true then hb else hb ++ p) hb (erB bad) W') ∧ Hid (∀ k, k < wr.heap.size → k ≠ g → (∀ cv, BoxX g cv hb (erB bad) wr → cv.ownBlock ≠ some k) → W'.heap[k]? = wr.heap[k]?) ∧ Hid (wr.heap.size ≤ W'.heap.size) ∧ Hid (∀ cv k, BoxX g cv (if bad = true then hb else hb ++ p) (erB bad) W' → cv.ownBlock = some k → (∃ cv0, BoxX g cv0 hb (erB bad) wr ∧ cv0.ownBlock = some k) ∨ wr.heap.size ≤ k) := by
  cases bad with
  | true =>
    obtain ⟨cv, q1, q2, q3, q4, q5⟩ := h
    refine (feedBadI g (g + 1) 26 hb 80 (by decide) v p wr (boxX_box q1) hu).mono ?_
    rintro e W' ⟨rfl, rfl⟩
    exact ⟨rfl, ⟨cv, q1, q2, q3, q4, q5⟩, fun _ _ _ _ => rfl, Nat.le_refl _, fun cv k h1 h2 => .inl ⟨cv, h1, h2⟩⟩
  | false =>
    obtain ⟨cv, q1, q2, q3, q4, q5⟩ := h
    have uq : ∀ cv' er bx W, BoxX g cv' bx er W → ∀ cv'' er' bx', BoxX g cv'' bx' er' W → cv' = cv'' := by
      intro cv' er bx W a cv'' er' bx' b
      have e1 := (cells_three a.1).1.2.1
      have e2 := (cells_three b.1).1.2.1
      rw [e1] at e2
      cases e2
      rfl
    refine (feedX g cv hb p hp v wr q1 hu (by omega)).mono ?_
    rintro e W' ⟨rfl, cv', r1, r2, r3⟩
    have hrg := row_ge q1.2
    refine ⟨rfl, ⟨cv', r1, ?_, fun k e => ?_, ?_, q5⟩, fun k hk hn hc => r2.2.2.2.2 k hk (fun e => ?_), r2.2.2.2.1, fun cv2 k h1 h2 => ?_⟩
    · refine slB_far q2 r2 (fun k e e2 => ?_)
      rcases e2 with e2 | e2
      · exact (q3 k e).1 e2
      · exact (q3 k e).2.1 e2
    · refine ⟨(q3 k e).1, fun e2 => ?_, (q3 k e).2.2⟩
      rcases r3 with r3 | r3
      · rw [r3] at e2; exact (q3 k e).2.1 e2
      · have := r3 k e2
        have := slB_lt q2 k e
        omega
    · refine bel_far q4 r2 (fun k e => ?_)
      rcases e with e | e
      · omega
      · have := hrg k e; omega
    · rcases e with e | e
      · exact hn e
      · exact hc cv q1 e
    · rw [uq cv2 _ _ _ h1 cv' _ _ r1] at h2
      rcases r3 with r3 | r3
      · exact .inl ⟨cv, q1, by rw [← r3]; exact h2⟩
      · exact .inr (r3 k h2)
theorem boxX_one {g : Nat} {cv cv' : Value} {bx bx' : List UInt8} {er er' : Int} {W : World} (a : BoxX g cv bx er W) (b : BoxX g cv' bx' er' W) : cv = cv' := by
  have e1 := (cells_three a.1).1.2.1
  have e2 := (cells_three b.1).1.2.1
  rw [e1] at e2
  cases e2
  rfl
/-- the law's own list is appended to -/
theorem li_app {w : World} {g : Nat} {hv v' : Value} {bx hb p : List UInt8} {er : Int} {wr wr' : World} (h : LI w g hv bx hb er wr) (s1 : SlB v' (hb ++ p) wr') (f1 : Far (fun k => blkV hv = some k) wr wr') (n1 : ∀ k, blkV v' = some k → blkV hv = some k ∨ wr.heap.size ≤ k) : LI w g v' bx (hb ++ p) er wr' := by
  obtain ⟨cv, q1, q2, q3, q4, q5⟩ := h
  have hb := f1.2.2.2.2 g q1.1.2 (fun e => (q3 g e).1 rfl)
  have hrg := row_ge q1.2
  have hgl := q1.1.2
  refine ⟨cv, ⟨⟨fun j hj => ⟨by rw [World.cell?_of_block (w := wr) (a := ⟨g, j, none⟩) hb]; exact (q1.1.1 j hj).1, by rw [World.frozen?_of_block (w := wr) (a := ⟨g, j, none⟩) hb]; exact (q1.1.1 j hj).2⟩, Nat.lt_of_lt_of_le q1.1.2 f1.2.2.2.1⟩, row_Far q1.2 f1 (fun k e e2 => (q3 k e2).2.1 e)⟩, s1, fun k e => ?_, bel_far q4 f1 (fun k e => (q3 k e).2.2), q5⟩
  rcases n1 k e with e | e
  · exact q3 k e
  · exact ⟨by omega, fun e2 => by have := hrg k e2; omega, Nat.le_trans q4.size e⟩
theorem li_next {w : World} {g : Nat} {hv cv cv' : Value} {bx bx' hb : List UInt8} {er er' : Int} {wr wr' : World} (h : LI w g hv bx hb er wr) (hc : BoxX g cv bx er wr) (f : Far (fun k => k = g) wr wr') (b' : BoxX g cv' bx' er' wr') (n : cv' = cv ∨ ∀ k, cv'.ownBlock = some k → wr.heap.size ≤ k) : LI w g hv bx' hb er' wr' := by
  obtain ⟨cv0, q1, q2, q3, q4, q5⟩ := h
  obtain rfl := boxX_one q1 hc
  refine ⟨cv', b', slB_far q2 f (fun k e e2 => (q3 k e).1 e2), fun k e => ⟨(q3 k e).1, fun e2 => ?_, (q3 k e).2.2⟩, bel_far q4 f (fun k e => by omega), q5⟩
  rcases n with n | n
  · rw [n] at e2; exact (q3 k e).2.1 e2
  · have := n k e2
    have := slB_lt q2 k e
    omega
theorem li_cut {w : World} {g : Nat} {ao : Option Addr} {cap : Nat} {bx hb : List UInt8} {er : Int} {wr : World} (h : LI w g (.slice ao hb.length cap) bx hb er wr) (n : Nat) (hn : n ≤ hb.length) : LI w g (Lib.fromV ao hb.length cap n) bx (hb.drop n) er wr := by
  obtain ⟨cv, q1, q2, q3, q4, q5⟩ := h
  obtain ⟨s1, s2⟩ := slB_suf q2 n hn
  exact ⟨cv, q1, s1, fun k e => q3 k (s2 k e), q4, q5⟩
theorem flat_take (xs : List (List UInt8)) (i : Nat) (h : i < xs.length) : ((xs.take (i + 1)).flatten).length = ((xs.take i).flatten).length + (xs[i]).length := by
  rw [List.take_succ_eq_append_getElem h, List.flatten_append, List.length_append, List.flatten_singleton]
theorem flat_bulk : ∀ (xs : List (List UInt8)), (xs.flatten).length ≤ bulkT xs := by
  intro xs
  induction xs with
  | nil => simp [bulkT]
  | cons x r ih => rw [List.flatten_cons, List.length_append]; simp only [bulkT]; omega
theorem fromV_two (ao : Option Addr) (n c : Nat) : Lib.fromV ao n c 2 = .slice (if c = 2 then ao else Option.map (fun x => ({ block := x.block, off := x.off + 2 } : Addr)) ao) (n - 2) (c - 2) := by
  unfold Lib.fromV
  by_cases h : c = 2
  · rw [if_pos h, if_pos h]
  · rw [if_neg h, if_neg h]
    cases ao <;> simp [Addr.add]
theorem len_bulk : ∀ (xs : List (List UInt8)), xs.length ≤ bulkT xs := by
  intro xs
  induction xs with
  | nil => simp [bulkT]
  | cons x r ih => simp only [bulkT, List.length_cons]; omega
theorem flat_le (xs : List (List UInt8)) (i : Nat) : ((xs.take i).flatten).length ≤ bulkT xs := by
  have h1 := flat_bulk xs
  have h2 : (xs.flatten).length = ((xs.take i).flatten).length + ((xs.drop i).flatten).length := by
    rw [← List.length_append, ← List.flatten_append, List.take_append_drop]
  omega
set_option maxRecDepth 100000 in
set_option maxHeartbeats 16000000 in
theorem walk (sv : Value) (xs : List (List UInt8)) (w : World) (hs : HoldsL w sv xs) (hl : bulkT xs ≤ 1048576) (E : Env w) (R : Er w) :
    Calls Tryz.prog 7 #[sv] w fun e w' => e = .returned (.bool true) ∧ Below w.heap.size w w' := by
  have c0 := hide' (aliveI w E R)
  obtain ⟨sa, sc, rfl, hs0, hsc, hss⟩ := hs
  have HSS := hide' hss
  obtain ⟨L, hL⟩ : ∃ L, L = xs.length := ⟨_, rfl⟩
  have HL := hide' hL
  have hLl : L ≤ 1048576 := by have := len_bulk xs; omega
  rw [← hL] at hsc ⊢
  clear E R hss hL
  go_enter Tryz.func7, Tryz.ntmps7
  go_wp2_with fail
  refine c0.out.mono ?_
  rintro e w1 ⟨rfl, b1⟩
  have B1 := hide' b1
  clear c0 b1
  go_wp2_with fail
  refine (newI 26 w1).mono ?_
  rintro e w2 ⟨rfl, hw2⟩
  have bk2 : Blk w1.heap.size w2 [(.func (.func 26) #[] #[]), .slice none 0 0, .int .i64 0] := by rw [hw2]; exact cells_lit w1 #[(.func (.func 26) #[] #[]), .slice none 0 0, .int .i64 0] _
  have b2 : Below w1.heap.size w1 w2 := by rw [hw2]; exact below_alloc' _ _
  have hwg := B1.out.size
  have I0 : Hid (LI w w1.heap.size (.slice (some ⟨w2.heap.size, 0, none⟩) 0 0) [] [] (erB false) (w2.alloc (.cells #[] 5))) :=
    ⟨.slice none 0 0, ⟨cells_below bk2 (below_alloc' _ _), World.ownsRow_nil _ _ _ _⟩, slB_empty _ _, (fun k e => by rw [blkV_zero] at e; cases e), bt' (bt' B1.out b2) (below_alloc' _ _), hwg⟩
  obtain ⟨g, hg⟩ : ∃ g, g = w1.heap.size := ⟨_, rfl⟩
  rw [← hg] at I0 ⊢
  clear hw2 bk2 b2 hg B1 hwg
  go_wp2_with fail
  go_loopw [4, 5, 6, 7, 8, 9, 10, 11, 12, 13, 14] (fun hv bv iv _ _ _ _ _ _ _ _ wr => ∃ (i : Nat) (hb : List UInt8) (bad : Bool), iv = .int .i64 i ∧ i ≤ L ∧ bv = .bool bad ∧ hb.length ≤ ((xs.take i).flatten).length ∧ Hid (LI w g hv hb hb (erB bad) wr)) (fun _ _ iv _ _ _ _ _ _ _ _ _ => L - (intOf iv).toNat)
  case atStart => exact ⟨0, [], false, rfl, Nat.zero_le _, rfl, Nat.zero_le _, I0.out⟩
  case round =>
    obtain ⟨i, hb, bad, rfl, hi, rfl, hbl, I⟩ := hrel
    have hbb := flat_le xs i
    by_cases hlt : i < L
    · have hlt' : (i : Int) < (L : Int) := by omega
      have hix : i < xs.length := by rw [← HL.out]; exact hlt
      obtain ⟨sb, so, rfl, hsl, hcell⟩ := HSS.out (fun e => by have := HL.out; rw [e] at this; simp at this; omega)
      obtain ⟨u, hu, hH⟩ := hcell i hix
      have hft := flat_take xs i hix
      have hbb2 := flat_le xs (i + 1)
      generalize xs[i] = p at hH hft
      obtain ⟨pa, pc, hpv, _⟩ := holdsB_parts hH
      subst hpv
      have HH := hide' hH
      have CK := hide' (fun W (hb : Below w.heap.size w W) => show W.cell? ⟨sb, so + i, none⟩ = some (.slice pa p.length pc) by rw [hb.cell (p := ⟨sb, so + i, none⟩) hsl]; exact hu)
      obtain ⟨cv, q1, q2, q3, q4, q5⟩ := I.out
      have ck := CK.out wr q4
      obtain ⟨qa, qc, hhv, _⟩ := holdsB_parts (slB_holds q2)
      subst hhv
      clear hcell hu hH
      by_cases hp : p.length = 0
      · have C := hide' (restI g (g + 1) 26 hb (erB bad) wr (boxX_box q1) (by omega))
        have HHV := hide' (slB_holds q2)
        rw [hp] at ck
        clear q1 q2 q3 q4
        go_wp2_with fail
        refine C.out.mono ?_
        rintro e w5 ⟨u5, rfl, ho5⟩
        have I5 := hide' (li_below I.out ho5.2)
        have H5 := hide' (holdsB_own ho5)
        have G5 := hide' (holdsB_mono HHV.out ho5.2)
        obtain ⟨xa, xc, hu5, _⟩ := H5.out
        subst hu5
        clear ho5 C ck
        go_wp2_with fail
        refine (sameBe _ _ hb _ H5.out G5.out (by omega)).mono ?_
        rintro e w6 ⟨rfl, b6⟩
        have I6 := hide' (li_below I5.out b6)
        clear b6 I5
        go_wp2_with fail
        go_roundw
        case rel => exact ⟨i + 1, hb, bad, by go_num, by omega, rfl, by omega, I6.out⟩
        case measure => simp [intOf]; omega
      · have hpne : p ≠ [] := fun e => hp (by rw [e]; rfl)
        have hpz : ((p.length : Int) == 0) = false := by simp; omega
        have CC := hide' (copyB _ p wr (holdsB_mono HH.out q4) (by omega))
        have hvlt := hide' (slB_lt q2)
        have cvlt := hide' (row_ge q1.2)
        have hgl := q1.1.2
        have Q1 := hide' q1
        have Q4s := q4.size
        clear q1 q2 q3 q4
        go_wp2_with fail
        refine CC.out.mono ?_
        rintro e w5 ⟨u5, rfl, ho5⟩
        have H5 := hide' (holdsB_own ho5)
        have I5 := hide' (li_below I.out ho5.2)
        obtain ⟨hS5, hO5⟩ := slB_row ho5.1
        have hsz5 := ho5.2.size
        have hlt5 := ho5.1.lt
        obtain ⟨ua5, uc5, hu5, _, hcp5, hcc5⟩ := hS5
        subst hu5
        obtain ⟨pb, po, rfl, hpb5, _, hcells⟩ := hcc5 (by omega)
        have hpbo := hO5 pb (blkV_some _ _ _ (by omega))
        have hpb := hlt5 pb hpbo
        obtain rfl : po = 0 := by
          rcases ho5.1.2 with ⟨h9, _⟩ | ⟨x9, c9, cur9, h9, _⟩
          · cases h9
          · cases h9; rfl
        have CF := hide' (feedL w g _ _ hb p hpne bad w5 I5.out H5.out (by omega))
        have ck5 := CK.out w5 (bt' I.out.choose_spec.2.2.2.1 ho5.2)
        have Q5 := hide' (boxX_below Q1.out ho5.2)
        clear ho5 CC ck hlt5 hO5 hpbo
        go_wp2_with fail
        refine CF.out.mono ?_
        rintro e w6 ⟨rfl, I6, HF6, HS6, HC6⟩
        have hpb6 := HF6.out pb hpb.2 (by omega) (fun cv2 h2 e2 => by rw [boxX_one h2 Q5.out] at e2; have := cvlt.out pb e2; omega)
        have cells6 : ∀ t, t < p.length → (w6.cell? ⟨pb, t, none⟩).isSome = true ∧ w6.frozen? ⟨pb, t, none⟩ = false := by
          intro t ht
          have := hcells t (by omega)
          rw [Nat.zero_add] at this
          rw [World.cell?_of_block (w := w5) (a := ⟨pb, t, none⟩) hpb6, World.frozen?_of_block (w := w5) (a := ⟨pb, t, none⟩) hpb6]
          exact this
        have C6 := hide' cells6
        clear CF ck5 hpb6 cells6 hcells
        go_wp2_with fail
        go_loopw [8] (fun jv wj => ∃ j : Nat, jv = .int .i64 j ∧ j ≤ p.length ∧ Hid (Far (fun k => k = pb) w6 wj) ∧ Hid (∀ t, t < p.length → (wj.cell? ⟨pb, t, none⟩).isSome = true ∧ wj.frozen? ⟨pb, t, none⟩ = false)) (fun jv _ => p.length - (intOf jv).toNat)
        case atStart => exact ⟨0, rfl, Nat.zero_le _, far_refl _ _, C6.out⟩
        case round =>
          obtain ⟨j, rfl, hj, FJ, CJ⟩ := hrel
          by_cases hjl : j < p.length
          · have hjl' : (j : Int) < (p.length : Int) := by omega
            obtain ⟨hj1, hj2⟩ := CJ.out j hjl
            obtain ⟨x, hx⟩ := Option.isSome_iff_exists.1 hj1
            have FJ2 : Hid (Far (fun k => k = pb) w6 (wr.setCell ⟨pb, j, none⟩ (.int .u8 7))) := far_trans (T := fun k => k = pb) FJ.out ⟨rfl, rfl, rfl, by simp [World.setCell], fun k _ hn => Below.heap_setCell _ _ _ _ hn⟩ (fun k _ e => e)
            have CJ2 : Hid (∀ t, t < p.length → ((wr.setCell ⟨pb, j, none⟩ (.int .u8 7)).cell? ⟨pb, t, none⟩).isSome = true ∧ (wr.setCell ⟨pb, j, none⟩ (.int .u8 7)).frozen? ⟨pb, t, none⟩ = false) := by
              intro t ht
              refine ⟨?_, by simpa using (CJ.out t ht).2⟩
              by_cases e : t = j
              · subst e
                rw [World.cell?_setCell_same _ _ _ hx]; rfl
              · rw [World.cell?_setCell_other _ _ _ _ (by first | (simp; omega) | simp)]; exact (CJ.out t ht).1
            clear hj1 FJ CJ
            go_wp2_with fail
            go_roundw
            case rel => exact ⟨j + 1, by go_num, by omega, FJ2, CJ2⟩
            case measure => simp [intOf]; omega
          · have hje : j = p.length := by omega
            subst hje
            have I7 : Hid (LI w g (.slice qa hb.length qc) (if bad = true then hb else hb ++ p) hb (erB bad) wr) := li_far I6.out FJ.out (by show ¬ g = pb; omega) (fun cv2 k h2 e2 e3 => by
                have e4 : k = pb := e3
                rcases HC6.out cv2 k h2 e2 with ⟨cv0, h0, e0⟩ | h0
                · rw [boxX_one h0 Q5.out] at e0; have := cvlt.out k e0; omega
                · omega) (fun k e e2 => by have e4 : k = pb := e2; have := hvlt.out k e; omega) (fun k e => by have e4 : k = pb := e; omega)
            clear FJ CJ C6 HF6 HS6 HC6 I6
            obtain ⟨cv7, r1, r2, r3, r4, r5⟩ := I7.out
            have R1 := hide' r1
            have R2 := hide' r2
            have R4 := hide' r4
            have ck7 := CK.out wr r4
            have H7 := hide' (holdsB_mono HH.out r4)
            clear r1 r2 r3 r4 r5
            cases bad with
            | true =>
              have CN := hide' (nextBadI g cv7 hb 80 (by decide) wr R1.out)
              go_wp2_with fail
              refine CN.out.mono ?_
              rintro e w8 ⟨rfl, b8⟩
              have I8 := hide' (li_below I7.out b8)
              have CP := hide' (pairC _ hb w8 (slB_holds (slB_below R2.out b8)) (by omega))
              unfold prV at CP
              generalize prOf hb = X at CP
              clear b8 CN ck7
              go_wp2_with fail
              refine CP.out.mono ?_
              rintro e w9 ⟨rfl, b9⟩
              have I9 := hide' (li_below I8.out b9)
              clear b9 CP
              go_wp2_with fail
              go_roundw
              case rel => exact ⟨i + 1, hb, true, by go_num, by omega, rfl, by omega, I9.out⟩
              case measure => simp [intOf]; omega
            | false =>
              have hcl : (hb ++ p).length = hb.length + p.length := List.length_append
              go_wp2_with (at_builtin; refine appSl rfl (.tmp 57) (.tmp 61) rfl _ hb rfl R2.out _ p hpne rfl H7.out (by omega) ?_; intro v8 w8 s8 f8 n8; have I8 := hide' (li_app I7.out s8 f8 n8); have S8 := hide' s8; obtain ⟨va, vc, hv8, hvc⟩ := holdsB_parts (slB_holds s8); rw [hcl] at hv8; subst hv8; clear s8 f8 n8)
              obtain ⟨cv8, r1, r2, r3, r4, r5⟩ := I8.out
              have CN := hide' (nextI g cv8 (hb ++ p) w8 r1 (by omega))
              have R8 := hide' r1
              obtain ⟨f1, f2, f3, f4, f5, f6⟩ := pr_facts (hb ++ p)
              have NL := hide' (fun W' (f : Far (fun k => k = g) w8 W') (cv' : Value) (b' : BoxX g cv' ((hb ++ p).drop (prOf (hb ++ p)).2.1) (prOf (hb ++ p)).2.2 W') (n : cv' = cv8 ∨ ∀ k, cv'.ownBlock = some k → w8.heap.size ≤ k) => li_next I8.out r1 f b' n)
              have CP := hide' (fun W (h : HoldsB W (.slice va (hb.length + p.length) vc) (hb ++ p)) => pairC _ (hb ++ p) W h (by omega))
              unfold prV at CP
              have LC := hide' (fun W bx er (h : LI w g (.slice va (hb ++ p).length vc) bx (hb ++ p) er W) (n : Nat) (hn : n ≤ (hb ++ p).length) => li_cut h n hn)
              have SF := hide' (fun (n : Nat) (hn : n ≤ (hb ++ p).length) W => from_run va (hb ++ p).length vc n hn hvc W)
              rw [hcl] at LC SF f1
              generalize hX : prOf (hb ++ p) = X at CN f1 f2 f3 f4 f5 f6 NL CP
              obtain ⟨x1, x2, x3⟩ := X
              simp only at CN f1 f2 f3 f4 f5 f6 NL CP
              have FIN : ∀ (n : Nat) (er : Int), n ≤ hb.length + p.length → ∃ fv, (∀ W, Sem.run Tryz.prog (Instr.slice 22 (.slice va (hb.length + p.length) vc) (some (.int .i64 (n : Int))) none none) W = .ok fv W) ∧ ∀ W, LI w g (.slice va (hb.length + p.length) vc) ((hb ++ p).drop n) (hb ++ p) er W → LI w g fv ((hb ++ p).drop n) ((hb ++ p).drop n) er W := fun n er hn => ⟨_, SF.out n hn, fun W h => LC.out W _ _ h n hn⟩
              have FINH := hide' FIN
              clear r1 r2 r3 r4 r5 hX FIN SF hvc ck7
              rcases f2 with h3 | h3
              · subst h3
                rcases f3 with h2 | h2
                · subst h2
                  obtain rfl := f4 rfl
                  obtain ⟨fv, sl, FL⟩ := FINH.out 0 0 (Nat.zero_le _)
                  have FLH := hide' FL
                  clear FL FINH
                  go_wp2_with fail
                  refine CN.out.mono ?_
                  rintro e w9 ⟨rfl, f9, cv9, b9, n9⟩
                  have I9 := hide' (NL.out w9 f9 cv9 b9 n9)
                  have C9 := hide' (CP.out w9 (slB_holds I9.out.choose_spec.2.1))
                  clear f9 b9 n9 CN NL CP
                  go_wp2_with fail
                  refine C9.out.mono ?_
                  rintro e w10 ⟨rfl, b10⟩
                  have I10 := hide' (li_below I9.out b10)
                  rw [List.drop_zero] at I10
                  clear b10 C9 FLH sl
                  go_wp2_with fail
                  go_roundw
                  case rel => exact ⟨i + 1, hb ++ p, false, by go_num, by omega, rfl, by rw [hcl]; omega, I10.out⟩
                  case measure => simp [intOf]; omega
                · subst h2
                  clear FINH
                  go_wp2_with fail
                  refine CN.out.mono ?_
                  rintro e w9 ⟨rfl, f9, cv9, b9, n9⟩
                  have I9 := hide' (NL.out w9 f9 cv9 b9 n9)
                  have C9 := hide' (CP.out w9 (slB_holds I9.out.choose_spec.2.1))
                  clear f9 b9 n9 CN NL CP
                  go_wp2_with fail
                  refine C9.out.mono ?_
                  rintro e w10 ⟨rfl, b10⟩
                  have I10 := hide' (LC.out w10 _ _ (li_below I9.out b10) 2 f1)
                  rw [fromV_two] at I10
                  clear b10 C9 LC
                  go_wp2_with fail
                  go_roundw
                  case rel => exact ⟨i + 1, _, false, by go_num, by omega, rfl, by rw [List.length_drop, hcl]; omega, I10.out⟩
                  case measure => simp [intOf]; omega
              · simp only [Prod.mk.injEq] at h3
                obtain ⟨rfl, rfl, rfl⟩ := h3
                obtain ⟨fv, sl, FL⟩ := FINH.out 0 80 (Nat.zero_le _)
                have FLH := hide' FL
                clear FL FINH
                go_wp2_with fail
                refine CN.out.mono ?_
                rintro e w9 ⟨rfl, f9, cv9, b9, n9⟩
                have I9 := hide' (NL.out w9 f9 cv9 b9 n9)
                have C9 := hide' (CP.out w9 (slB_holds I9.out.choose_spec.2.1))
                clear f9 b9 n9 CN NL CP
                go_wp2_with fail
                refine C9.out.mono ?_
                rintro e w10 ⟨rfl, b10⟩
                have I10 := hide' (li_below I9.out b10)
                rw [List.drop_zero] at I10
                clear b10 C9 FLH sl
                go_wp2_with fail
                go_roundw
                case rel => exact ⟨i + 1, hb ++ p, true, by go_num, by omega, rfl, by rw [hcl]; omega, I10.out⟩
                case measure => simp [intOf]; omega
    · obtain rfl : i = L := by omega
      have B9 := hide' I.out.choose_spec.2.2.2.1
      go_wp2_with fail
      go_ret
      exact ⟨rfl, B9.out⟩
end inboxBoxes
end Go.Proofs.YtmikgpmnffdnnaaGreatDoor
