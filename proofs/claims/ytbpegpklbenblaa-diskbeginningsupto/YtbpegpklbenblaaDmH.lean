/- The contract of the laws' do: a step. -/
import Derived.Test.YtbpegpklbenblaaBdB
import Derived.Test.YtbpegpklbenblaaDmG
namespace Go.Proofs.Ytbpegpklbenblaa
open Go.RowKit
theorem stepPost_base {o : Ow} {g : Nat} {s : Dk} {op : DOp} {w W W' : World} {e : Ending} (h : StepPost o g s op W e W') (hb : Below w.heap.size w W) : StepPost o g s op w e W' := by
  obtain ⟨h1, o', h2, h3⟩ := h
  exact ⟨h1, o', h2, (grow_below hb).trans h3⟩
set_option maxRecDepth 20000 in
set_option maxHeartbeats 8000000 in
theorem doOpC {o : Ow} {g : Nat} {s : Dk} {W : World} (h : Dsk o g s W) (a : Int) (ha : 1 ≤ a ∧ a ≤ 6) (n t : ByteArray) (da : Option Addr) (dl dc : Nat) (d : List UInt8) (hs : n.size ≤ 140737488351232) (ht : t.size ≤ 140737488351232) (hB : Bd 90000000 s) (hd : HoldsB W (.slice da dl dc) d) (hdl : d.length ≤ 1000000000) :
    Calls Try.prog 15 #[.pointer (some ⟨g, 0, none⟩), .agg #[.int .i64 a, .string n, .string t, .slice da dl dc]] W fun e W' => StepPost o g s ⟨a, n.data.toList, t.data.toList, d⟩ W e W' := by
  have hB9 : Bd 900000000 s := bd_mono hB (by omega)
  have bA := below_alloc' W (.cells #[.int .i64 a, .string n, .string t, .slice da dl dc] 42)
  have D0 := dsk_below h bA
  have BA := hide' bA
  have z0 : (W.alloc (.cells #[.int .i64 a, .string n, .string t, .slice da dl dc] 42)).heap.size = W.heap.size + 1 := by simp
  have F0 : Blk W.heap.size (W.alloc (.cells #[.int .i64 a, .string n, .string t, .slice da dl dc] 42)) [.int .i64 a, .string n, .string t, .slice da dl dc] := by simpa using cells_lit W #[.int .i64 a, .string n, .string t, .slice da dl dc] 42
  have hcase : a = 1 ∨ a = 2 ∨ a = 3 ∨ a = 4 ∨ a = 5 ∨ a = 6 := by omega
  rcases hcase with rfl | rfl | rfl | rfl | rfl | rfl
  · have CC := hide' (createC D0 n t.data.toList d hs hB9)
    clear h hd F0 hB hB9 D0 bA z0 ha
    go_enter Try.func15, Try.ntmps15
    go_wp2_with fail
    refine CC.out.mono ?_
    intro e w1 sp
    have SP := hide' (stepPost_base sp BA.out)
    obtain ⟨rfl, _⟩ := sp
    rename_i r1
    clear r1
    go_wp2_with fail
    go_ret
    exact SP.out
  · have HD := hide' (holdsB_mono hd bA)
    have LT := hide' (dsk_lt h)
    have FH := hide' F0
    obtain ⟨⟨c0, c1, c2, c3⟩, _⟩ := cells_4 F0
    have CB : Hid (∀ Wx, Below (W.heap.size + 1) (W.alloc (.cells #[.int .i64 2, .string n, .string t, .slice da dl dc] 42)) Wx → Calls Try.prog 33 #[.slice da dl dc] Wx fun e w' => ∃ ua ul uc, e = .returned (.slice ua ul uc) ∧ Hid (Below (W.heap.size + 1) (W.alloc (.cells #[.int .i64 2, .string n, .string t, .slice da dl dc] 42)) w' ∧ Own Wx (.slice ua ul uc) d w') ∧ w'.cell? ⟨W.heap.size, 1, none⟩ = some (.string n) ∧ w'.cell? ⟨W.heap.size, 3, none⟩ = some (.slice da dl dc)) := fun Wx hb => by
      refine (copyB _ d Wx (holdsB_mono HD.out (by rw [z0]; exact hb)) (by omega)).mono ?_
      rintro e w' ⟨u, rfl, ho⟩
      obtain ⟨ua, uc, hu, _⟩ := holdsB_own ho
      subst hu
      have hb2 := hb.trans (ho.2.mono (by have := hb.size; omega))
      have := cells_base FH.out hb2 (by omega)
      exact ⟨ua, _, uc, rfl, ⟨hb2, ho⟩, (this.1 1 (by simp)).1, (this.1 3 (by simp)).1⟩
    have CA : Hid (∀ Wx ua ul uc w1, Below (W.heap.size + 1) (W.alloc (.cells #[.int .i64 2, .string n, .string t, .slice da dl dc] 42)) Wx → Own w1 (.slice ua ul uc) d Wx → W.heap.size ≤ w1.heap.size → Calls Try.prog 32 #[.pointer (some ⟨g, 0, none⟩), .string n, .slice ua ul uc] Wx fun e w' => ∃ z, e = .returned (.int .i64 z) ∧ Hid (StepPost o g s ⟨2, n.data.toList, t.data.toList, d⟩ W (.returned (.int .i64 z)) w') ∧ w'.cell? ⟨W.heap.size, 1, none⟩ = some (.string n) ∧ w'.cell? ⟨W.heap.size, 3, none⟩ = some (.slice da dl dc)) := fun Wx ua ul uc w1 hb ho hw1 => by
      have hbw : Below W.heap.size W Wx := BA.out.trans (hb.mono (by omega))
      refine (appendC (dsk_below h hbw) n t.data.toList (.slice ua ul uc) d hs hB9 (holdsB_own ho) hdl (fun ad n c e => ?_)).mono ?_
      · rcases ho.1.2 with ⟨e2, _⟩ | ⟨x, cap, cur, e2, hx, _⟩
        · rw [e2] at e; cases e
        · rw [e2] at e
          simp only [Value.slice.injEq, Option.some.injEq] at e
          rw [← e.1]
          exact none_of_lt LT.out (show W.heap.size ≤ x by omega)
      · intro e w' sp
        have sp2 := stepPost_base sp hbw
        obtain ⟨rfl, o', hd2, hg⟩ := sp
        have hn : o W.heap.size = none := none_of_lt LT.out (Nat.le_refl _)
        have hlt : W.heap.size < Wx.heap.size := by have := hb.size; omega
        have hblk := hg.off.block W.heap.size hlt (fun e => e hn)
        have := cells_base FH.out hb (by omega)
        exact ⟨_, rfl, sp2, by rw [World.cell?_of_block (w := Wx) (a := ⟨W.heap.size, 1, none⟩) hblk]; exact (this.1 1 (by simp)).1, by rw [World.cell?_of_block (w := Wx) (a := ⟨W.heap.size, 3, none⟩) hblk]; exact (this.1 3 (by simp)).1⟩
    have S0 : Hid (Below (W.heap.size + 1) (W.alloc (.cells #[.int .i64 2, .string n, .string t, .slice da dl dc] 42)) (W.alloc (.cells #[.int .i64 2, .string n, .string t, .slice da dl dc] 42))) := by unfold Hid; exact Below.refl _ _
    have hsz : W.heap.size ≤ (W.alloc (.cells #[.int .i64 2, .string n, .string t, .slice da dl dc] 42)).heap.size := by omega
    clear h hd F0 FH hB hB9 D0 bA z0 HD LT ha c0 c2
    go_enter Try.func15, Try.ntmps15
    go_wp2_with fail
    go_region_held3 (fun w' => w'.cell? ⟨W.heap.size, 1, none⟩ = some (.string n) ∧ w'.cell? ⟨W.heap.size, 3, none⟩ = some (.slice da dl dc)) (go_keep)
      (first
        | (go_at_call 33; refine (CB.out _ ?_).mono ?_; (first | exact S0.out.drew | exact S0.out); rintro e w1 ⟨ua, ul, uc, rfl, B1, j1, j3⟩)
        | (go_at_call 32; refine (CA.out _ _ _ _ _ B1.out.1 B1.out.2 hsz).mono ?_; rintro e w2 ⟨z, rfl, SP, k1, k3⟩))
    all_goals
      go_wp2_with fail
      go_ret
      exact SP.out
  · have CC := hide' (syncC D0 n t.data.toList d hs hB9)
    clear h hd F0 hB hB9 D0 bA z0 ha
    go_enter Try.func15, Try.ntmps15
    go_wp2_with fail
    refine CC.out.mono ?_
    intro e w1 sp
    have SP := hide' (stepPost_base sp BA.out)
    obtain ⟨rfl, _⟩ := sp
    rename_i r1
    clear r1
    go_wp2_with fail
    go_ret
    exact SP.out
  · have CC := hide' (syncNamesC D0 n.data.toList t.data.toList d hB)
    clear h hd F0 hB hB9 D0 bA z0 ha
    go_enter Try.func15, Try.ntmps15
    go_wp2_with fail
    refine CC.out.mono ?_
    intro e w1 sp
    have SP := hide' (stepPost_base sp BA.out)
    obtain ⟨rfl, _⟩ := sp
    rename_i r1
    clear r1
    go_wp2_with fail
    go_ret
    exact SP.out
  · have CC := hide' (renameC D0 n t d hs ht hB9)
    clear h hd F0 hB hB9 D0 bA z0 ha
    go_enter Try.func15, Try.ntmps15
    go_wp2_with fail
    refine CC.out.mono ?_
    intro e w1 sp
    have SP := hide' (stepPost_base sp BA.out)
    obtain ⟨rfl, _⟩ := sp
    rename_i r1
    clear r1
    go_wp2_with fail
    go_ret
    exact SP.out
  · have CC := hide' (removeC D0 n t.data.toList d hs hB9)
    clear h hd F0 hB hB9 D0 bA z0 ha
    go_enter Try.func15, Try.ntmps15
    go_wp2_with fail
    refine CC.out.mono ?_
    intro e w1 sp
    have SP := hide' (stepPost_base sp BA.out)
    obtain ⟨rfl, _⟩ := sp
    rename_i r1
    clear r1
    go_wp2_with fail
    go_ret
    exact SP.out
end Go.Proofs.Ytbpegpklbenblaa
