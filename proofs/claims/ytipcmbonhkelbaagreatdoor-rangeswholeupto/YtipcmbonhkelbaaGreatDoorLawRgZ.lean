/- A walk's world with a result's box that was laid ahead and isn't written yet. -/
import Derived.Test.YtipcmbonhkelbaaGreatDoorLawRgS
namespace Go.Proofs.YtipcmbonhkelbaaGreatDoor
open Go.RowKit
theorem below_setZ {W W' : World} (b : Below W.heap.size W W') (g i : Nat) (v : Value) : Below (W.setCell ⟨g, i, none⟩ v).heap.size (W.setCell ⟨g, i, none⟩ v) (W'.setCell ⟨g, i, none⟩ v) := by
  have hs : ∀ X : World, (X.setCell ⟨g, i, none⟩ v).heap.size = X.heap.size := fun X => by simp [World.setCell]
  refine ⟨b.os, b.tape, b.output, ?_, ?_⟩
  · rw [hs, hs]; exact b.size
  · intro k hk
    rw [hs] at hk
    by_cases e : k = g
    · subst e
      have h := b.block k hk
      simp only [World.setCell, Array.getElem?_modify]
      simp [h]
    · rw [heap_setCell_other _ _ _ _ (by show k ≠ g; exact e), heap_setCell_other _ _ _ _ (by show k ≠ g; exact e)]
      exact b.block k hk
theorem below_putZ {W W' : World} (b : Below W.heap.size W W') (g : Nat) (v0 v1 v2 v3 : Value) : Below (put4 g W v0 v1 v2 v3).heap.size (put4 g W v0 v1 v2 v3) (put4 g W' v0 v1 v2 v3) :=
  below_setZ (below_setZ (below_setZ (below_setZ b g 0 v0) g 1 v1) g 2 v2) g 3 v3
structure RgZ (w : World) (gz : Nat) (W : World) (ps : List (Nat × List Value)) (fl : List (Value × FL)) (bl : List (Value × List UInt8)) : Prop where
  st : RgSt w W ps fl bl
  box : Quad gz W (.int .i64 0) (.string ⟨#[]⟩) (.int .i64 0) (.slice none 0 0)
  aft : ∀ v0 v1 v2 v3, RgSt w (put4 gz W v0 v1 v2 v3) ps fl bl
  ne : ∀ p ∈ ps, p.1 ≠ gz
section
variable {w W W' : World} {gz : Nat} {ps : List (Nat × List Value)} {fl : List (Value × FL)} {bl : List (Value × List UInt8)}
theorem rgz_new (S : RgSt w W ps fl bl) : RgZ w W.heap.size (W.alloc (.cells #[.int .i64 0, .string ⟨#[]⟩, .int .i64 0, .slice none 0 0] 31)) ps fl bl :=
  ⟨gst_below S (below_alloc' W _), quad_lit W _ _ _ _ _, fun v0 v1 v2 v3 => gst_below S (put4_below (below_alloc' W _) (Nat.le_refl _) v0 v1 v2 v3), fun p hp => Nat.ne_of_lt (S.blk p hp).2⟩
theorem rgz_call (Z : RgZ w gz W ps fl bl) (b : Below W.heap.size W W') : RgZ w gz W' ps fl bl :=
  ⟨gst_below Z.st b, quad_below Z.box b, fun v0 v1 v2 v3 => gst_below (Z.aft v0 v1 v2 v3) (below_putZ b gz v0 v1 v2 v3), Z.ne⟩
theorem rgz_drew (Z : RgZ w gz W ps fl bl) : RgZ w gz W.drew ps fl bl := rgz_call Z (Below.refl _ _).drew
theorem rgz_lt (Z : RgZ w gz W ps fl bl) : gz < W.heap.size := Z.box.2.2.2.2.2.2.2.2
theorem rgz_fld (Z : RgZ w gz W ps fl bl) {base : Nat} {u : Value} {fs : FL} (r : W.ownsRow base 46 2 u fs.length (cellsF fs)) (h : gz < base) : RgZ w gz W ps ((u, fs) :: fl) bl :=
  ⟨gst_fld Z.st (holdsF_row r), Z.box, fun v0 v1 v2 v3 => gst_fld (Z.aft v0 v1 v2 v3) (holdsF_row (row_put r h)), Z.ne⟩
theorem rgz_byt (Z : RgZ w gz W ps fl bl) {base : Nat} {u : Value} {bs : List UInt8} (r : W.ownsRow base 5 1 u bs.length (bs.map B)) (h : gz < base) : RgZ w gz W ps fl ((u, bs) :: bl) :=
  ⟨gst_byt Z.st (holdsB_row r), Z.box, fun v0 v1 v2 v3 => gst_byt (Z.aft v0 v1 v2 v3) (holdsB_row (row_put r h)), Z.ne⟩
theorem rgz_end (Z : RgZ w gz W ps fl bl) (v0 v1 v2 v3 : Value) : RgSt w ((((W.setCell ⟨gz, 0, none⟩ v0).setCell ⟨gz, 1, none⟩ v1).setCell ⟨gz, 2, none⟩ v2).setCell ⟨gz, 3, none⟩ v3) ((gz, [v0, v1, v2, v3]) :: ps) fl bl := by
  have s := Z.aft v0 v1 v2 v3
  have qb := quad_blkR (quad_put Z.box v0 v1 v2 v3)
  unfold put4 at s qb
  exact ⟨s.bel, fun p hp => by rcases List.mem_cons.1 hp with rfl | hp; exact qb; exact s.blk p hp, s.fld, s.byt⟩
theorem rgz_copyF (Z : RgZ w gz W ps fl bl) {u : Value} {xs : FL} (hm : (u, xs) ∈ fl) (hl : xs.length ≤ 2000000) :
    Calls Tryz.prog 13 #[u] W fun e w' => ∃ a c, e = .returned (.slice a xs.length c) ∧ Hid (RgZ w gz w' ps ((.slice a xs.length c, xs) :: fl) bl) := by
  refine (copyF u xs W (Z.st.fld _ hm) (by omega)).mono ?_
  rintro e w' ⟨u', rfl, ho⟩
  obtain ⟨a, c, _, _, eq, -⟩ := holdsF_parts (holdsF_own ho)
  rw [eq] at ho ⊢
  exact ⟨a, c, rfl, rgz_fld (rgz_call Z ho.2) ho.1 (rgz_lt Z)⟩
theorem rgz_copyR (Z : RgZ w gz W ps fl bl) {u : Value} {xs : FL} (hm : (u, xs) ∈ fl) (hl : xs.length ≤ 2000000) (s k : Int) (zr : List UInt8) :
    Calls Tryz.prog 14 #[.agg #[.int .i64 s, .string ⟨zr.toArray⟩, .int .i64 k, u]] W fun e w' => ∃ a c, e = .returned (.agg #[.int .i64 s, .string ⟨zr.toArray⟩, .int .i64 k, .slice a xs.length c]) ∧ Hid (RgZ w gz w' ps ((.slice a xs.length c, xs) :: fl) bl) := by
  refine (copyRs s k zr xs u W (Z.st.fld _ hm) hl).mono ?_
  rintro e w' ⟨u', rfl, ho⟩
  obtain ⟨a, c, _, _, eq, -⟩ := holdsF_parts (holdsF_own ho)
  rw [eq] at ho ⊢
  exact ⟨a, c, rfl, rgz_fld (rgz_call Z ho.2) ho.1 (rgz_lt Z)⟩
theorem rgz_copyB (Z : RgZ w gz W ps fl bl) {v : Value} {bs : List UInt8} (hm : (v, bs) ∈ bl) (hl : bs.length ≤ 140737488355328) :
    Calls Tryz.prog 22 #[v] W fun e w' => ∃ a c, e = .returned (.slice a bs.length c) ∧ Hid (RgZ w gz w' ps fl ((.slice a bs.length c, bs) :: bl)) := by
  refine (copyB v bs W (Z.st.byt _ hm) hl).mono ?_
  rintro e w' ⟨u', rfl, ho⟩
  obtain ⟨a, c, eq, -⟩ := holdsB_own ho
  rw [eq] at ho ⊢
  exact ⟨a, c, rfl, rgz_byt (rgz_call Z ho.2) ho.1 (rgz_lt Z)⟩
theorem rgz_apply {D : List UInt8 → Int} (AO : ApplyOwn D w) (Z : RgZ w gz W ps fl bl) {a u v : Value} {ask fs : FL} {body : List UInt8} (ha : (a, ask) ∈ fl) (hu : (u, fs) ∈ fl) (hv : (v, body) ∈ bl) (s k : Int) (zr : List UInt8) (hb : bulkF ask + bulkF fs + body.length ≤ 1100000) (hz : zr.length ≤ 140737488351232) (r : RgR) (hr : appR D ask s zr k fs body = r) :
    Calls Tryz.prog 16 #[a, .agg #[.int .i64 s, .string ⟨zr.toArray⟩, .int .i64 k, u], v] W fun e w' => ∃ p q x y, e = .returned (.tuple #[.agg #[.int .i64 r.1, .string ⟨r.2.1.toArray⟩, .int .i64 r.2.2.1, .slice p r.2.2.2.1.length q], .slice x r.2.2.2.2.length y]) ∧ Hid (RgZ w gz w' ps ((.slice p r.2.2.2.1.length q, r.2.2.2.1) :: fl) ((.slice x r.2.2.2.2.length y, r.2.2.2.2) :: bl)) := by
  refine (AO s k zr a u v ask fs body r W Z.st.bel (Z.st.fld _ ha) (Z.st.fld _ hu) (Z.st.byt _ hv) hb hz hr).mono ?_
  rintro e w' ⟨u', b', rfl, h1, h2⟩
  obtain ⟨p, q, _, _, e1, -⟩ := holdsF_parts (holdsF_own h1)
  obtain ⟨x, y, e2, -⟩ := holdsB_own h2
  rw [e1] at h1 ⊢
  rw [e2] at h2 ⊢
  exact ⟨p, q, x, y, rfl, rgz_byt (rgz_fld (rgz_call Z h1.2) h1.1 (rgz_lt Z)) h2.1 (rgz_lt Z)⟩
end
end Go.Proofs.YtipcmbonhkelbaaGreatDoor
