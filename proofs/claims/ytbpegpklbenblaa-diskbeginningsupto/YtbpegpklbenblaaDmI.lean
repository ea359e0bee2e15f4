/- A disk of the call's own; the contract of alive. -/
import Derived.Test.YtbpegpklbenblaaDmH
namespace Go.Proofs.Ytbpegpklbenblaa
open Go.RowKit
/-- a disk that was made since W0 -/
structure Liv (o : Ow) (g : Nat) (s : Dk) (W0 W : World) : Prop where
  dsk : Dsk o g s W
  own : ∀ k, o.has k → W0.heap.size ≤ k
  bel : Below W0.heap.size W0 W
theorem liv_below {o : Ow} {g : Nat} {s : Dk} {W0 W W' : World} (h : Liv o g s W0 W) (hb : Below W.heap.size W W') : Liv o g s W0 W' := ⟨dsk_below h.dsk hb, h.own, h.bel.trans (hb.mono h.bel.size)⟩
theorem liv_grow {o o' : Ow} {g : Nat} {s s' : Dk} {W0 W W' : World} (h : Liv o g s W0 W) (hd : Dsk o' g s' W') (hg : Grow o W o' W') : Liv o' g s' W0 W' :=
  ⟨hd, fun k hk => by rcases hg.new k hk with h1 | h1; exact h.own k h1; exact Nat.le_trans h.bel.size h1, h.bel.trans (hg.off.below h.bel.size h.own)⟩
theorem liv_step {o : Ow} {g : Nat} {s : Dk} {op : DOp} {W0 W W' : World} {e : Ending} (h : Liv o g s W0 W) (hs : StepPost o g s op W e W') : ∃ o', Liv o' g (s.step op).1 W0 W' ∧ Grow o W o' W' := by
  obtain ⟨_, o', hd, hg⟩ := hs
  exact ⟨o', liv_grow h hd hg, hg⟩
theorem bd_new (fs : FilL) (room : Int) (fails : List Int) (power : Int) (m : Nat) (h1 : fs.length ≤ m) (h2 : ∀ f ∈ fs, f.2.length ≤ m) : Bd m (newS fs room fails power) := by
  refine ⟨Nat.zero_le _, by show (fs.map _).length ≤ m; simpa using h1, by show (numbered fs).length ≤ m; rw [num_len]; exact h1, by show (numbered fs).length ≤ m; rw [num_len]; exact h1, Nat.zero_le _, fun i => ?_⟩
  show ((fs.map (fun f => f.2)).getD i []).length ≤ m
  rw [List.getD_eq_getElem?_getD, List.getElem?_map]
  cases e : fs[i]? with
  | none => exact Nat.zero_le _
  | some f => exact h2 f (List.mem_of_getElem? e)
def al0 : Dk := newS [] 9 [3] 4
def al1 : Dk := (al0.step ⟨1, [97], [], []⟩).1
def al2 : Dk := (al1.step ⟨2, [97], [], [120, 121]⟩).1
def al3 : Dk := (al2.step ⟨3, [97], [], []⟩).1
def al4 : Dk := (al3.step ⟨4, [], [], []⟩).1
def al5 : Dk := (al4.step ⟨3, [97], [], []⟩).1
theorem al_1 : (al0.step ⟨1, [97], [], []⟩).2 = 0 := by decide
theorem al_2 : (al1.step ⟨2, [97], [], [120, 121]⟩).2 = 0 := by decide
theorem al_3 : (al2.step ⟨3, [97], [], []⟩).2 = 94 := by decide
theorem al_4 : (al3.step ⟨4, [], [], []⟩).2 = 0 := by decide
theorem al_5 : (al4.step ⟨3, [97], [], []⟩).2 = 93 := by decide
theorem al_d : al5.down = true := by decide
theorem al_l : (al5.left 0 []).length = 1 := by decide
theorem ba0 : Bd 100 al0 := bd_new _ _ _ _ _ (by decide) (fun f h => by cases h)
theorem ba1 : Bd 200 al1 := bd_mono (bd_step ba0 _) (by decide)
theorem ba2 : Bd 300 al2 := bd_mono (bd_step ba1 _) (by decide)
theorem ba3 : Bd 400 al3 := bd_mono (bd_step ba2 _) (by decide)
theorem ba4 : Bd 500 al4 := bd_mono (bd_step ba3 _) (by decide)
theorem ba5 : Bd 600 al5 := bd_mono (bd_step ba4 _) (by decide)
theorem holdsB_lit2 (w : World) : HoldsB (w.alloc (.cells #[.int .u8 120, .int .u8 121] 5 (2, 3))) (.slice (some ⟨w.heap.size, 0, none⟩) 2 2) [120, 121] := by
  refine ⟨_, 2, rfl, fun e => (by cases e), Nat.le_refl _, fun _ => ⟨w.heap.size, 0, rfl, by simp, fun j hj => ?_⟩⟩
  match j, hj with
  | 0, _ => simp [World.cell?_alloc_mark, B]
  | 1, _ => simp [World.cell?_alloc_mark, B]
theorem holdsI_lit1 (w : World) (z : Int) : OwnI w (.slice (some ⟨w.heap.size, 0, none⟩) 1 1) [z] (w.alloc (.cells #[.int .i64 z] 3)) :=
  ⟨World.ownsRow_lit w #[.int .i64 z] 1 (Nat.le_refl _) (by decide) rfl, (Below.refl _ _).alloc (Nat.le_refl _) _⟩
theorem mark_xy (W : World) : Sem.run Try.prog (convert 40 40 (.slice (some ⟨W.heap.size, 0, none⟩) 2 2)) (W.alloc (.cells #[.int .u8 120, .int .u8 121] 5)) = .ok (.slice (some ⟨W.heap.size, 0, none⟩) 2 2) (W.alloc (.cells #[.int .u8 120, .int .u8 121] 5 (2, 3))) :=
  Lib.run_convert_bytes_const W 40 5 #[.int .u8 120, .int .u8 121] 2 2 Try.underlying40 Try.underlying5
set_option maxRecDepth 20000 in
set_option maxHeartbeats 8000000 in
theorem aliveC (w : World) : Calls Try.prog 9 #[] w fun e w' => e = .returned (.bool true) ∧ Below w.heap.size w w' := by
  have hI := holdsI_lit1 w 3
  have CN := hide' (newC (.slice none 0 0) [] 9 _ [3] 4 _ ⟨none, 0, rfl, fun _ => rfl, Nat.le_refl _, fun h => absurd rfl h⟩ (holdsI_own hI) (fun f h => by cases h) (by decide) (by decide) (fun z h => by simp at h; subst h; decide))
  have B0 := hide' hI.2
  clear hI
  go_enter Try.func9, Try.ntmps9
  go_wp2_with fail
  refine CN.out.mono ?_
  intro e w1 np
  obtain ⟨nb, ⟨ne, _⟩ | ⟨_, g, o, rfl, hD, hO⟩⟩ := np
  · exact absurd rfl ne
  have L0 : Hid (Liv o g al0 w w1) := ⟨hD, fun k hk => Nat.le_trans B0.out.size (hO k hk), B0.out.trans (nb.mono B0.out.size)⟩
  have C1 := hide' (createC hD ⟨#[97]⟩ [] [] (by decide) (bd_mono ba0 (by decide)))
  clear CN hD hO nb B0
  go_wp2_with fail
  refine C1.out.mono ?_
  intro e w2 sp
  obtain ⟨o1, L1⟩ := liv_step L0.out sp
  have HL1 : Hid (Liv o1 g al1 w w2) := L1.1
  obtain ⟨rfl, _⟩ := sp
  rename_i r1
  clear r1 L1 L0 C1
  have e1 : (al0.step ⟨1, [97], [], []⟩).2 = 0 := al_1
  have e1' : ((newS [] 9 [3] 4).step ⟨1, [97], [], []⟩).2 = 0 := al_1
  have mk := @mark_xy
  have bX := below_alloc' w2 (.cells #[.int .u8 120, .int .u8 121] 5 (2, 3))
  have hX := holdsB_lit2 w2
  have L1x := liv_below HL1.out bX
  have C2 := hide' (appendC L1x.dsk ⟨#[97]⟩ [] _ [120, 121] (by decide) (bd_mono ba1 (by decide)) hX (by decide) (fun ad n c e => by
    simp only [Value.slice.injEq, Option.some.injEq] at e
    rw [← e.1]
    exact none_of_lt (dsk_lt HL1.out.dsk) (Nat.le_refl _)))
  have HL1x := hide' L1x
  clear bX hX L1x e1
  go_wp2_with fail
  refine C2.out.mono ?_
  intro e w3 sp
  obtain ⟨o2, L2⟩ := liv_step HL1x.out sp
  have HL2 : Hid (Liv o2 g al2 w w3) := L2.1
  obtain ⟨rfl, _⟩ := sp
  rename_i r1
  clear r1 L2 HL1 HL1x C2 mk e1'
  have e2 : (al1.step ⟨2, [97], [], [120, 121]⟩).2 = 0 := al_2
  have C3 := hide' (syncC HL2.out.dsk ⟨#[97]⟩ [] [] (by decide) (bd_mono ba2 (by decide)))
  go_wp2_with fail
  refine C3.out.mono ?_
  intro e w4 sp
  obtain ⟨o3, L3⟩ := liv_step HL2.out sp
  have HL3 : Hid (Liv o3 g al3 w w4) := L3.1
  obtain ⟨rfl, _⟩ := sp
  rename_i r1
  clear r1 L3 HL2 C3 e2
  have e3 : (al2.step ⟨3, [97], [], []⟩).2 = 94 := al_3
  have C4 := hide' (syncNamesC HL3.out.dsk [] [] [] (bd_mono ba3 (by decide)))
  go_wp2_with fail
  refine C4.out.mono ?_
  intro e w5 sp
  obtain ⟨o4, L4⟩ := liv_step HL3.out sp
  have HL4 : Hid (Liv o4 g al4 w w5) := L4.1
  obtain ⟨rfl, _⟩ := sp
  rename_i r1
  clear r1 L4 HL3 C4 e3
  have e4 : (al3.step ⟨4, [], [], []⟩).2 = 0 := al_4
  have C5 := hide' (syncC HL4.out.dsk ⟨#[97]⟩ [] [] (by decide) (bd_mono ba4 (by decide)))
  go_wp2_with fail
  refine C5.out.mono ?_
  intro e w6 sp
  obtain ⟨o5, L5⟩ := liv_step HL4.out sp
  have HL5 : Hid (Liv o5 g al5 w w6) := L5.1
  obtain ⟨rfl, _⟩ := sp
  rename_i r1
  clear r1 L5 HL4 C5 e4
  have e5 : (al4.step ⟨3, [97], [], []⟩).2 = 93 := al_5
  have C6 := hide' (downC HL5.out.dsk)
  rw [al_d] at C6
  go_wp2_with fail
  refine C6.out.mono ?_
  rintro e w7 ⟨rfl, nq, rfl⟩
  have HL6 := hide' (liv_below HL5.out (below_drewN w6 nq))
  have C7 := hide' (leftC HL6.out.dsk 0 (.slice none 0 0) [] ⟨none, 0, rfl, fun _ => rfl, Nat.le_refl _, fun h => absurd rfl h⟩ (by decide) (fun z h => by cases h) (bd_mono ba5 (by decide)))
  clear C6 e5 HL5
  go_wp2_with fail
  refine C7.out.mono ?_
  rintro e w8 ⟨lv, rfl, hF, hb⟩
  obtain ⟨la, lc, hlv, _⟩ := hF
  rename_i r1
  clear r1
  rw [al_l] at hlv
  subst hlv
  have HB := hide' (HL6.out.bel.trans (hb.mono HL6.out.bel.size))
  clear hb C7 HL6
  go_wp2_with fail
  go_ret
  exact ⟨rfl, HB.out⟩
end Go.Proofs.Ytbpegpklbenblaa
