/- The contract of ask: what the reading function answers of a box's bytes (a box of requests). -/
import Derived.Test.YtmikgpmnffdnnaaGreatDoorByM
import Derived.Test.YtmikgpmnffdnnaaGreatDoorInR
import Derived.Test.YtmikgpmnffdnnaaGreatDoorInN
namespace Go.Proofs.YtmikgpmnffdnnaaGreatDoor
open Go.RowKit
set_option maxRecDepth 100000 in
set_option maxHeartbeats 8000000 in
theorem askM (g base : Nat) (held : List UInt8) (er : Int) (W : World) (P : BoxP g base (.func (.func 11) #[] #[]) held er W) (E : Env W) (R : Er W) (hl : held.length < 4294967281) :
    Calls Tryz.prog 45 #[.pointer (some ⟨g, 0, none⟩)] W fun e W' => AnsQ W (msgQ held) e W' := by
  obtain ⟨ca, cc, bk, ro⟩ := box_slice P
  obtain ⟨_, _, _, hgb, hbs⟩ := P
  have hne1 : ¬ W.heap.size = g := by omega
  have hne2 : ¬ g = W.heap.size := by omega
  have b0 := below_alloc' W (.cells #[.string ⟨#[]⟩, .string ⟨#[]⟩, .int .i64 0, .slice none 0 0, .int .i64 0, .string ⟨#[]⟩, .int .i64 0, .slice none 0 0, .slice none 0 0, .slice none 0 0] 31)
  have Z0 := hide' (cells_lit W #[.string ⟨#[]⟩, .string ⟨#[]⟩, .int .i64 0, .slice none 0 0, .int .i64 0, .string ⟨#[]⟩, .int .i64 0, .slice none 0 0, .slice none 0 0, .slice none 0 0] 31)
  have B0 := hide' b0
  have sz0 := hide' (show (W.alloc (.cells #[.string ⟨#[]⟩, .string ⟨#[]⟩, .int .i64 0, .slice none 0 0, .int .i64 0, .string ⟨#[]⟩, .int .i64 0, .slice none 0 0, .slice none 0 0, .slice none 0 0] 31)).heap.size = W.heap.size + 1 by simp)
  have BK0 := hide' (cells_below bk b0)
  have hH := hide' (holdsB_mono (row_holds ro) b0)
  obtain ⟨⟨c0, c1, c2⟩, _⟩ := cells_three (cells_below bk b0)
  have C1 := hide' (fun W2 (h : Below (W.alloc (.cells #[.string ⟨#[]⟩, .string ⟨#[]⟩, .int .i64 0, .slice none 0 0, .int .i64 0, .string ⟨#[]⟩, .int .i64 0, .slice none 0 0, .slice none 0 0, .slice none 0 0] 31)).heap.size (W.alloc (.cells #[.string ⟨#[]⟩, .string ⟨#[]⟩, .int .i64 0, .slice none 0 0, .int .i64 0, .string ⟨#[]⟩, .int .i64 0, .slice none 0 0, .slice none 0 0, .slice none 0 0] 31)) W2) => (bcloneC _ held W2 (holdsB_mono hH.out h) (by omega)).mono (R' := fun e w' => ∃ ua uc, e = .returned (.slice ua held.length uc) ∧ Hid (HoldsB w' (.slice ua held.length uc) held ∧ Below (W.alloc (.cells #[.string ⟨#[]⟩, .string ⟨#[]⟩, .int .i64 0, .slice none 0 0, .int .i64 0, .string ⟨#[]⟩, .int .i64 0, .slice none 0 0, .slice none 0 0, .slice none 0 0] 31)).heap.size (W.alloc (.cells #[.string ⟨#[]⟩, .string ⟨#[]⟩, .int .i64 0, .slice none 0 0, .int .i64 0, .string ⟨#[]⟩, .int .i64 0, .slice none 0 0, .slice none 0 0, .slice none 0 0] 31)) w') ∧ w'.cell? ⟨g, 0, none⟩ = some (.func (.func 11) #[] #[]) ∧ w'.cell? ⟨g, 1, none⟩ = some (.slice ca held.length cc)) (by
    rintro e w' ⟨u, rfl, ho⟩
    obtain ⟨⟨k0, k1, _⟩, _⟩ := cells_three (cells_below BK0.out (bt' h ho.2))
    obtain ⟨ua, uc, hu, _⟩ := holdsB_own ho
    subst hu
    exact ⟨ua, uc, rfl, ⟨holdsB_own ho, bt' h ho.2⟩, k0, k1⟩))
  have C2 := hide' (fun W2 (u : Value) (h : HoldsB W2 u held ∧ Below (W.alloc (.cells #[.string ⟨#[]⟩, .string ⟨#[]⟩, .int .i64 0, .slice none 0 0, .int .i64 0, .string ⟨#[]⟩, .int .i64 0, .slice none 0 0, .slice none 0 0, .slice none 0 0] 31)).heap.size (W.alloc (.cells #[.string ⟨#[]⟩, .string ⟨#[]⟩, .int .i64 0, .slice none 0 0, .int .i64 0, .string ⟨#[]⟩, .int .i64 0, .slice none 0 0, .slice none 0 0, .slice none 0 0] 31)) W2) => (msgC u held W2 h.1 (env_below E (bt' b0 h.2)) (er_below R (bt' b0 h.2)) hl).mono (R' := fun e w' => Hid (AnsQ W2 (msgQ held) e w' ∧ Below (W.alloc (.cells #[.string ⟨#[]⟩, .string ⟨#[]⟩, .int .i64 0, .slice none 0 0, .int .i64 0, .string ⟨#[]⟩, .int .i64 0, .slice none 0 0, .slice none 0 0, .slice none 0 0] 31)).heap.size (W.alloc (.cells #[.string ⟨#[]⟩, .string ⟨#[]⟩, .int .i64 0, .slice none 0 0, .int .i64 0, .string ⟨#[]⟩, .int .i64 0, .slice none 0 0, .slice none 0 0, .slice none 0 0] 31)) W2)) (by
    intro e w' h2
    exact ⟨h2, h.2⟩))
  generalize msgQ held = X at C2 ⊢
  obtain ⟨⟨m, t, k, fs⟩, bd, tl, n, ee⟩ := X
  have hmf : ∀ (fn : Fn) (first cap : Array Value) (w : World), (Instr.makeFunc fn first cap).run Tryz.prog w = .ok (.func fn first cap) w := fun _ _ _ _ => rfl
  clear bk ro b0 hH E R
  go_enter_defers Tryz.func45, Tryz.ntmps45
  go_wp2_with fail
  go_region_held3 (fun w' => w'.cell? ⟨g, 0, none⟩ = some (.func (.func 11) #[] #[]) ∧ w'.cell? ⟨g, 1, none⟩ = some (.slice ca held.length cc)) (go_keep)
    (first
      | (go_at_call 47; refine (C1.out _ ?_).mono ?_; (first | exact (Below.refl _ _).drew | exact Below.refl _ _); rintro e w2 ⟨ua, uc, rfl, O2, k0, k1⟩)
      | (go_at_call 11; refine (C2.out _ _ O2.out).mono ?_; intro e w3 h; obtain ⟨la, lc, ba, bc, ta, tc, rfl, G3, b3, oL, oB, oF⟩ := ansQ_open h.out.1; simp only at G3 oL oB oF ⊢; have Z3 := hide' (cells_below Z0.out (bt' h.out.2 b3)); obtain ⟨⟨j0, j1, _⟩, _⟩ := cells_three (cells_below BK0.out (bt' h.out.2 b3)); have B3 := hide' (bt' (bt' B0.out h.out.2) b3); have HL := hide' oL; have HB := hide' oB; have HF := hide' oF; have H2 := hide' h.out.2; clear h G3 b3 oL oB oF; obtain ⟨⟨zc0, zc1, zc2, zc3, zc4, zc5, zc6, zc7, zc8, zc9⟩, ⟨zf0, zf1, zf2, zf3, zf4, zf5, zf6, zf7, zf8, zf9⟩⟩ := cells_ten Z3.out))
  go_wp2_with fail
  have q := cells_put Z3.out [.string ⟨m.toArray⟩, .string ⟨t.toArray⟩, .int .i64 k, .slice la fs.length lc, .int .i64 0, .string ⟨#[]⟩, .int .i64 0, .slice none 0 0, .slice ba bd.length bc, .slice ta tl.length tc] rfl
  have qb := put_below (Nat.le_refl W.heap.size) [.string ⟨m.toArray⟩, .string ⟨t.toArray⟩, .int .i64 k, .slice la fs.length lc, .int .i64 0, .string ⟨#[]⟩, .int .i64 0, .slice none 0 0, .slice ba bd.length bc, .slice ta tl.length tc] 0 _ B3.out
  have hb2 : W.heap.size < w2.heap.size := by have h := H2.out.size; rw [sz0.out] at h; omega
  have qL := row_putFrom hb2 [.string ⟨m.toArray⟩, .string ⟨t.toArray⟩, .int .i64 k, .slice la fs.length lc, .int .i64 0, .string ⟨#[]⟩, .int .i64 0, .slice none 0 0, .slice ba bd.length bc, .slice ta tl.length tc] 0 _ HL.out.1
  have qB := row_putFrom hb2 [.string ⟨m.toArray⟩, .string ⟨t.toArray⟩, .int .i64 k, .slice la fs.length lc, .int .i64 0, .string ⟨#[]⟩, .int .i64 0, .slice none 0 0, .slice ba bd.length bc, .slice ta tl.length tc] 0 _ HB.out.1
  have qF := row_putFrom hb2 [.string ⟨m.toArray⟩, .string ⟨t.toArray⟩, .int .i64 k, .slice la fs.length lc, .int .i64 0, .string ⟨#[]⟩, .int .i64 0, .slice none 0 0, .slice ba bd.length bc, .slice ta tl.length tc] 0 _ HF.out.1
  rw [put_ten] at q qb qL qB qF
  obtain ⟨⟨yc0, yc1, yc2, yc3, yc4, yc5, yc6, yc7, yc8, yc9⟩, _⟩ := cells_ten q
  refine leaves_cons (f := 75) (args := #[]) (by simp) (by simp [go_sem]) ?_
  refine (idleM _).mono ?_
  rintro e u' w'' ⟨rfl, rfl, rfl⟩
  refine ⟨tellV (mqV ⟨m, t, k, fs⟩ (.slice la fs.length lc) (.slice ba bd.length bc) (.slice ta tl.length tc)) n ee, by simp [results, Tryz.results45, go_sem, tellV, mqV, yc0, yc1, yc2, yc3, yc4, yc5, yc6, yc7, yc8, yc9], ?_⟩
  exact ⟨_, _, _, rfl, ⟨row_base qL (Nat.le_of_lt hb2), qb⟩, ⟨row_base qB (Nat.le_of_lt hb2), qb⟩, ⟨row_base qF (Nat.le_of_lt hb2), qb⟩⟩
end Go.Proofs.YtmikgpmnffdnnaaGreatDoor
