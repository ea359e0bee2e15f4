/- The contract of strings.IndexAny at the two blanks: whether a text begins with one. -/
import Derived.Test.YtbbaajlabpjnlaaDoorFdJ
import Derived.Shelf.Strings.IndexAnyAll
import Derived.Deep.LoopGhost
import Derived.Shelf.Small.Utf8
namespace Go.Proofs.YtbbaajlabpjnlaaDoor
open Go.RowKit
def setIter (w : World) (g : Nat) (s : ByteArray) (pos : Nat) : World := { w with heap := w.heap.setIfInBounds g (.stringIter s pos) }
theorem run_next_at (w : World) (g : Nat) (s : ByteArray) (pos : Nat) (ty : TypeId) (hg : w.heap[g]? = some (.stringIter s pos)) (h : pos < s.size) :
    (Instr.next (.pointer (some ⟨g, 0, none⟩)) true ty).run Tryd.prog w = .ok (.tuple #[.bool true, .int .i64 pos, .int .i32 (Utf8.decode s pos).1]) (setIter w g s (pos + (Utf8.decode s pos).2)) := by
  simp [Instr.next, getObj, setObj, Sem.run, hg, Result.andThen, h, goInt, setIter]
theorem run_next_over (w : World) (g : Nat) (s : ByteArray) (pos : Nat) (ty : TypeId) (hg : w.heap[g]? = some (.stringIter s pos)) (h : ¬ pos < s.size) :
    (Instr.next (.pointer (some ⟨g, 0, none⟩)) true ty).run Tryd.prog w = .ok (.tuple #[.bool false]) w := by
  simp [Instr.next, getObj, Sem.run, hg, h]
theorem iter_at {w : World} {g : Nat} {s : ByteArray} {pos : Nat} (hg : w.heap[g]? = some (.stringIter s pos)) (p : Nat) : (setIter w g s p).heap[g]? = some (.stringIter s p) := by
  have : g < w.heap.size := (Array.getElem?_eq_some_iff.1 hg).1
  simp [setIter, this]
theorem iter_keeps {W w : World} {g : Nat} {s : ByteArray} {p : Nat} (hb : Below W.heap.size W w) (hg : W.heap.size ≤ g) : Below W.heap.size W (setIter w g s p) :=
  hb.trans ⟨rfl, rfl, rfl, by simp [setIter], fun k hk => by
    simp only [setIter]
    rw [Array.getElem?_setIfInBounds_ne (by omega)]⟩
theorem iter_stays {w w' : World} {g : Nat} {s : ByteArray} {pos : Nat} (hg : w.heap[g]? = some (.stringIter s pos)) (hb : Below w.heap.size w w') : w'.heap[g]? = some (.stringIter s pos) := by
  have : g < w.heap.size := (Array.getElem?_eq_some_iff.1 hg).1
  rw [hb.block g this]; exact hg
theorem dec_at (s : ByteArray) (i : Nat) (hi : i < s.size) (h128 : 128 ≤ (s[i]).toNat) : ∃ R K : Nat, Utf8.decode s i = (R, K) ∧ 1 ≤ K ∧ i + K ≤ s.size ∧ 128 ≤ R ∧ R ≤ 1114111 ∧ (R = 65533 ∨ Utf8.valid R = true) := by
  have hl : (s.data.toList.drop i).length = s.size - i := by simp
  have hg : ∀ j, (⟨(s.data.toList.drop i).toArray⟩ : ByteArray).get! j = s.get! (i + j) := by
    intro j
    show ((s.data.toList.drop i).toArray)[j]! = s.data[i + j]!
    by_cases h : i + j < s.size
    · rw [getElem!_pos _ j (by simp; omega), getElem!_pos s.data (i + j) h]
      simp
    · rw [getElem!_neg _ j (by simp; omega), getElem!_neg s.data (i + j) h]
  have h0 : 0 < (s.data.toList.drop i).length := by omega
  have e0 : (s.data.toList.drop i)[0]'h0 = s[i] := by simp; rfl
  obtain ⟨R, K, hd, k1, k2, _, r1, r2, _, hk⟩ := dec_spec (s.data.toList.drop i) h0 (by rw [e0]; exact h128)
  have he : Utf8.decode s i = Lib.decodeGo ⟨(s.data.toList.drop i).toArray⟩ := by
    unfold Lib.decodeGo
    have hz := size_l (s.data.toList.drop i)
    rw [hl] at hz
    rw [if_neg (by omega), Lib.decode_at, Lib.decode_at, hg 0, hg (0 + 1), hg (0 + 2), hg (0 + 3), hz]
    simp
  exact ⟨R, K, he.trans hd, k1, by omega, r1, r2, hk.imp id (fun h => h.1)⟩
theorem nextA (w : World) (ty : TypeId) : (Instr.next (.pointer (some ⟨w.heap.size, 0, none⟩)) true ty).run Tryd.prog (w.iter ⟨#[32, 9]⟩ 0) = .ok (.tuple #[.bool true, .int .i64 0, .int .i32 32]) (w.iter ⟨#[32, 9]⟩ 1) := run_next_ascii w ⟨#[32, 9]⟩ 0 ty (by decide) (by decide)
theorem nextB (w : World) (ty : TypeId) : (Instr.next (.pointer (some ⟨w.heap.size, 0, none⟩)) true ty).run Tryd.prog (w.iter ⟨#[32, 9]⟩ 1) = .ok (.tuple #[.bool true, .int .i64 1, .int .i32 9]) (w.iter ⟨#[32, 9]⟩ 2) := run_next_ascii w ⟨#[32, 9]⟩ 1 ty (by decide) (by decide)
theorem nextC (w : World) (ty : TypeId) : (Instr.next (.pointer (some ⟨w.heap.size, 0, none⟩)) true ty).run Tryd.prog (w.iter ⟨#[32, 9]⟩ 2) = .ok (.tuple #[.bool false]) (w.iter ⟨#[32, 9]⟩ 2) := run_next_end w ⟨#[32, 9]⟩ 2 ty (by decide)
theorem validR (R : Int) (w : World) (h1 : 128 ≤ R) (hv : Utf8.valid R = true) :
    Calls Tryd.prog 81 #[.int .i32 R] w fun e w' => e = .returned (.bool true) ∧ w' = w := by
  refine (Any.utf8_ValidRune { Tryd.lays153 with } R w).mono ?_
  rintro e w' ⟨rfl, hw⟩
  refine ⟨?_, hw⟩
  have : Lib.validRune R = true := by
    unfold Utf8.valid at hv
    unfold Lib.validRune
    simp at hv ⊢
    omega
  rw [this]
theorem form2 (E : ByteArray) (h : E.size = 2) (h3 : ∀ h : E.size - 1 < E.size, 128 ≤ (E[E.size - 1]'h).toNat) : ∃ x y : UInt8, E = ⟨#[x, y]⟩ ∧ 128 ≤ y.toNat := by
  obtain ⟨d⟩ := E
  obtain ⟨l⟩ := d
  match l, h with
  | [x, y], _ => exact ⟨x, y, rfl, h3 (by show 1 < 2; omega)⟩
theorem form3 (E : ByteArray) (h : E.size = 3) : ∃ x y z : UInt8, E = ⟨#[x, y, z]⟩ := by
  obtain ⟨d⟩ := E
  obtain ⟨l⟩ := d
  match l, h with
  | [x, y, z], _ => exact ⟨x, y, z, rfl⟩
theorem form4 (E : ByteArray) (h : E.size = 4) : ∃ x y z u : UInt8, E = ⟨#[x, y, z, u]⟩ := by
  obtain ⟨d⟩ := E
  obtain ⟨l⟩ := d
  match l, h with
  | [x, y, z, u], _ => exact ⟨x, y, z, u, rfl⟩
theorem ibNone (c : Int) (w : World) : Calls Tryd.prog 62 #[.string ⟨#[]⟩, .int .u8 c] w fun e w' => e = .returned (.int .i64 (-1)) ∧ w' = w := by
  refine (Any.strings_IndexByte Tryd.lays137 ⟨#[]⟩ c w).mono ?_
  rintro e w' ⟨rfl, hw⟩
  exact ⟨rfl, hw⟩
theorem wrap2 : IntKind.i64.wrap 2 = 2 := by decide
theorem rest2 (W : World) : Sem.run Tryd.prog (Instr.slice 9 (.string ⟨#[32, 9]⟩) (some (.int .i64 2)) none none) W = .ok (.string ⟨#[]⟩) W := by kernel_rfl
set_option maxRecDepth 20000 in
set_option maxHeartbeats 400000 in
theorem idxRune (R : Int) (w : World) (h1 : 128 ≤ R) (hk : R = 65533 ∨ Utf8.valid R = true) :
    Calls Tryd.prog 71 #[.string ⟨#[32, 9]⟩, .int .i32 R] w fun e w' => e = .returned (.int .i64 (-1)) ∧ Below w.heap.size w w' := by
  by_cases hRe : R = 65533
  · subst hRe
    have hn0 := nextA w
    have hn1 := nextB w
    have hn2 := nextC w
    clear h1 hk
    go_enter Tryd.func71, Tryd.ntmps71
    go_wp2_with fail
    go_rounds 3
    go_ret
    exact ⟨rfl, iter_below w _ _⟩
  · have hv := hk.resolve_left hRe
    have cV := hide' (validR R w h1 hv)
    obtain ⟨f1, f2, f3⟩ := encode_facts R hv h1
    have r1 : (0 : Int) ≤ R := by omega
    have r3 : (R == 65533) = false := by simpa using hRe
    have hE : ∃ E, Utf8.encode R = E := ⟨_, rfl⟩
    obtain ⟨E, hE⟩ := hE
    rw [hE] at f1 f2
    simp only [hE] at f3
    clear hk hv hRe
    rcases (by omega : E.size = 2 ∨ E.size = 3 ∨ E.size = 4) with hs | hs | hs
    · obtain ⟨x, y, rfl, hy⟩ := form2 E hs f3
      have hyb := byte_lt y
      have yn : ((9 : Int) != (y.toNat : Int)) = true := by simp; omega
      have yn2 : ((((⟨#[32, 9]⟩ : ByteArray)[1]'(show 1 < 2 by omega)).toNat : Int) != (((⟨#[x, y]⟩ : ByteArray)[1]'(show 1 < 2 by omega)).toNat : Int)) = true := yn
      clear f1 f2 f3 hs
      go_enter Tryd.func71, Tryd.ntmps71
      go_wp2_with (go_at_call 81; refine cV.out.mono ?_; rintro e w' ⟨rfl, hw⟩; rw [hw]; clear hw)
      go_step3
      go_wp2_with fail
      refine wp_loop_rounds 1 ?_
      rw [rounds_succ]
      go_wp2_with fail
      go_step3
      go_wp2_with fail
      go_quiet (fail)
      go_wp2_with fail
      have hw2 := wrap2
      have hr2 := rest2
      have B9 := hide' (below_drewN w nq)
      generalize w.drewN nq = w9 at B9 ⊢
      go_quiet ((go_at_call 62; refine Calls.quiet_of_same (v := .int .i64 (-1)) ?_; exact ibNone _ _))
      go_wp2_with fail
      dsimp only [Exit.noGoto, Exit.inBlock, Exit.then]
      go_ret
      exact ⟨rfl, below_drawn B9.out _⟩
    · obtain ⟨x, y, z, rfl⟩ := form3 E hs
      clear f1 f2 f3 hs
      go_enter Tryd.func71, Tryd.ntmps71
      go_wp2_with (go_at_call 81; refine cV.out.mono ?_; rintro e w' ⟨rfl, hw⟩; rw [hw]; clear hw)
      go_step3
      go_wp2_with fail
      go_rounds 1
      try rw [Exit.noGoto_ret]
      go_ret
      exact ⟨rfl, Below.refl _ _⟩
    · obtain ⟨x, y, z, u, rfl⟩ := form4 E hs
      clear f1 f2 f3 hs
      go_enter Tryd.func71, Tryd.ntmps71
      go_wp2_with (go_at_call 81; refine cV.out.mono ?_; rintro e w' ⟨rfl, hw⟩; rw [hw]; clear hw)
      go_step3
      go_wp2_with fail
      go_rounds 1
      try rw [Exit.noGoto_ret]
      go_ret
      exact ⟨rfl, Below.refl _ _⟩
theorem idx_first (l : List UInt8) : (Lib.indexAny l [32, 9] == 0) = blankFirst l := by
  cases l with
  | nil => rfl
  | cons c r =>
    have hb := blank_is c
    have e : blankFirst (c :: r) = blankI (c.toNat : Int) := rfl
    rw [e]
    unfold Lib.indexAny
    rw [hb]
    have hge := Lib.indexAny_ge [32, 9] r
    cases h : blankI (c.toNat : Int) with
    | true => rfl
    | false =>
      simp only [Bool.false_eq_true, if_false]
      split
      · rfl
      · rename_i h2
        have h2 : ¬ Lib.indexAny r [32, 9] = -1 := by simpa using h2
        have h3 : ¬ Lib.indexAny r [32, 9] + 1 = 0 := by omega
        simpa using h3
theorem two_ascii : ∀ (j : Nat) b, (⟨#[32, 9]⟩ : ByteArray).data.toList[j]? = some b → b.toNat < 128 := by
  intro j b h
  match j, h with
  | 0, h => simp at h; subst h; decide
  | 1, h => simp at h; subst h; decide
theorem sset_info : (Tryd.prog.info? 86).map (fun i => (i.zero, i.size)) = some (some (.agg (Array.replicate 256 (.bool false))), 256) := by kernel_rfl
theorem idxC9 (s : ByteArray) (W : World) (h8 : 8 < s.size) (hs : s.size < 4294967281) : IdxC s W := by
  refine (Any.strings_IndexAny_long Tryd.lays153 (zero_of_info sset_info).1 (zero_of_info sset_info).2 s ⟨#[32, 9]⟩ W (by show 2 ≤ 2; omega) h8 hs (by show 2 < 4294967281; omega) two_ascii).mono ?_
  rintro e w' ⟨rfl, rfl⟩
  exact ⟨_, rfl, idx_first s.data.toList, ((Below.refl _ _).alloc (Nat.le_refl _) _).alloc (by simp) _⟩
theorem blank_at (s : ByteArray) (h : 0 < s.size) : blankFirst s.data.toList = blankI ((s[0]).toNat : Int) := by
  have : s.data.toList = s[0] :: s.data.toList.drop 1 := by
    have := List.drop_eq_getElem_cons (l := s.data.toList) (i := 0) (by simpa using h)
    rw [List.drop_zero] at this
    exact this
  rw [this]; rfl
theorem idxRuneA (c : UInt8) (w : World) (h : c.toNat < 128) : ∃ r : Int, Calls Tryd.prog 71 #[.string ⟨#[32, 9]⟩, .int .i32 (c.toNat : Int)] w (fun e w' => e = .returned (.int .i64 r) ∧ w' = w) ∧ (blankI (c.toNat : Int) = true → 0 ≤ r) ∧ (blankI (c.toNat : Int) = false → r < 0) := by
  have hc := Any.strings_IndexRune_ascii { Tryd.lays153 with } ⟨#[32, 9]⟩ (c.toNat : Int) w (by omega) (by omega)
  have hb : ((c.toNat : Int)).toNat.toUInt8 = c := by simp
  rw [hb] at hc
  refine ⟨_, hc, ?_, ?_⟩
  · intro he
    rw [← blank_is] at he
    have he : c = 32 ∨ c = 9 := by simpa using he
    rcases he with rfl | rfl <;> decide
  · intro he
    rw [← blank_is] at he
    have he : ¬ c = 32 ∧ ¬ c = 9 := by simpa using he
    have h1 : ¬ 32 = c := fun e => he.1 e.symm
    have h2 : ¬ 9 = c := fun e => he.2 e.symm
    have : Lib.indexByte [32, 9] c = -1 := by simp [Lib.indexByte, h1, h2]
    show Lib.indexByte [32, 9] c < 0
    rw [this]; decide
set_option maxHeartbeats 400000 in
theorem shouldS (n : Int) (w : World) :
    Calls Tryd.prog 72 #[.int .i64 n] w fun e w' => e = .returned (.bool (decide (8 < n))) ∧ w' = w := by
  go_enter Tryd.func72, Tryd.ntmps72
  go_wp2
  go_ret
  exact ⟨rfl, rfl⟩
set_option maxRecDepth 20000 in
set_option maxHeartbeats 1000000 in
theorem idxC8 (s : ByteArray) (W : World) (h8 : s.size ≤ 8) : IdxC s W := by
  unfold IdxC
  have h8' : decide ((8 : Int) < (s.size : Int)) = false := decide_eq_false (by omega)
  have BF := hide' (blank_at s)
  have BZ : Hid (s.size = 0 → blankFirst s.data.toList = false) := fun h => by
    have e : s.data.toList = [] := List.eq_nil_of_length_eq_zero (by simpa using h)
    rw [e]; rfl
  generalize blankFirst s.data.toList = bf at BF BZ ⊢
  go_enter Tryd.func54, Tryd.ntmps54
  go_wp2_with (go_at_call 72; refine (shouldS _ _).mono ?_; rintro e w' ⟨rfl, hw⟩; rw [hw]; clear hw)
  clear h8'
  go_loopg [9] s.size (fun g _ wr => ∃ pos : Nat, pos + g = s.size ∧ Hid (wr.heap[W.heap.size]? = some (.stringIter s pos)) ∧ Hid (Below W.heap.size W wr) ∧ Hid (0 < pos → bf = false))
  case atStart => exact ⟨0, by omega, World.iter_heap W s 0, iter_below W s 0, fun h => absurd h (by omega)⟩
  case round =>
    obtain ⟨pos, hp, HI, HB, HF⟩ := hrel
    by_cases hlt : pos < s.size
    · have hbt := byte_lt s[pos]
      by_cases ha : (s[pos]).toNat < 128
      · have hdec := decode_ascii s pos hlt ha
        have hnx := fun ty => run_next_at wr W.heap.size s pos ty HI.out hlt
        rw [hdec] at hnx
        have HI2 := hide' (iter_at HI.out (pos + 1))
        have HB2 : Hid (Below W.heap.size W (setIter wr W.heap.size s (pos + 1))) := iter_keeps HB.out (Nat.le_refl _)
        obtain ⟨r, cR, hr1, hr2⟩ := idxRuneA s[pos] (setIter wr W.heap.size s (pos + 1)) ha
        have CR := hide' cR
        simp only at hnx
        cases he : blankI ((s[pos]).toNat : Int) with
        | true =>
          have hr0 := hr1 he
          have BE : Hid (((pos : Int) == 0) = bf) := by
            unfold Hid
            by_cases h0 : pos = 0
            · subst h0; rw [BF.out hlt, he]; rfl
            · rw [HF.out (by omega)]; simp; omega
          clear hr1 hr2 he cR hdec ha
          generalize (s[pos]).toNat = cn at hnx CR hbt
          generalize setIter wr W.heap.size s (pos + 1) = w2 at hnx HI2 HB2 CR
          go_wp2_with (go_at_call 71; refine CR.out.mono ?_; rintro e w' ⟨rfl, hw⟩; rw [hw]; clear hw)
          go_ret
          exact ⟨_, rfl, BE, HB2.out⟩
        | false =>
          have hr0 := hr2 he
          have HF2 : Hid (0 < pos + 1 → bf = false) := fun _ => by
            by_cases h0 : pos = 0
            · subst h0; rw [BF.out hlt, he]
            · exact HF.out (by omega)
          clear hr1 hr2 he cR hdec ha
          generalize (s[pos]).toNat = cn at hnx CR hbt
          generalize setIter wr W.heap.size s (pos + 1) = w2 at hnx HI2 HB2 CR
          go_wp2_with (go_at_call 71; refine CR.out.mono ?_; rintro e w' ⟨rfl, hw⟩; rw [hw]; clear hw)
          go_roundg (gk - 1)
          case measure => omega
          case rel => exact ⟨pos + 1, by omega, HI2, HB2, HF2⟩
      · obtain ⟨R, K, hdec, hK1, hKn, hR1, hR2, hk⟩ := dec_at s pos hlt (by omega)
        have hnx := fun ty => run_next_at wr W.heap.size s pos ty HI.out hlt
        rw [hdec] at hnx
        have HI2 := hide' (iter_at HI.out (pos + K))
        have HB2 : Hid (Below W.heap.size W (setIter wr W.heap.size s (pos + K))) := iter_keeps HB.out (Nat.le_refl _)
        have CR := hide' (fun w => idxRune (R : Int) w (by omega) (hk.imp (fun e => by rw [e]; rfl) id))
        simp only at hnx
        have HF2 : Hid (0 < pos + K → bf = false) := fun _ => by
          by_cases h0 : pos = 0
          · subst h0
            rw [BF.out hlt]
            unfold blankI
            simp
            omega
          · exact HF.out (by omega)
        clear hk hdec ha hR1 hR2
        generalize (R : Int) = ri at hnx CR
        generalize setIter wr W.heap.size s (pos + K) = w2 at hnx HI2 HB2
        go_wp2_with fail
        refine (CR.out _).mono ?_
        rintro e w3 ⟨rfl, b3⟩
        have HI3 := hide' (iter_stays HI2.out b3)
        have HB3 := hide' (bt' HB2.out b3)
        clear b3 hnx HI2 HB2
        go_wp2_with fail
        go_roundg (gk - K)
        case measure => omega
        case rel => exact ⟨pos + K, by omega, HI3, HB3, HF2⟩
    · have hnx := fun ty => run_next_over wr W.heap.size s pos ty HI.out hlt
      have BE : Hid (((-1 : Int) == 0) = bf) := by
        unfold Hid
        by_cases h0 : s.size = 0
        · rw [BZ.out h0]; rfl
        · rw [HF.out (by omega)]; rfl
      go_wp2_with fail
      go_ret
      exact ⟨_, rfl, BE, HB.out⟩
theorem idxC (s : ByteArray) (W : World) (hs : s.size < 4294967281) : IdxC s W := by
  by_cases h8 : 8 < s.size
  · exact idxC9 s W h8 hs
  · exact idxC8 s W (by omega)
end Go.Proofs.YtbbaajlabpjnlaaDoor
