/- What the walks of the laws of ranges share. -/
import Derived.Test.YtipcmbonhkelbabGreatDoorXs
import Derived.Test.YtipcmbonhkelbabGreatDoorXb
import Derived.Test.YtipcmbonhkelbabGreatDoorXj
import Derived.Test.YtipcmbonhkelbabGreatDoorXt
namespace Go.Proofs.YtipcmbonhkelbabGreatDoor
open Go.RowKit
/-- what a walk keeps: blocks, lists of fields, lists of bytes -/
structure RgSt (w W : World) (ps : List (Nat × List Value)) (fl : List (Value × FL)) (bl : List (Value × List UInt8)) : Prop where
  bel : Below w.heap.size w W
  blk : ∀ p ∈ ps, Blk p.1 W p.2
  fld : ∀ p ∈ fl, HoldsF W p.1 p.2
  byt : ∀ p ∈ bl, HoldsB W p.1 p.2
section
variable {w W W' : World} {ps : List (Nat × List Value)} {fl : List (Value × FL)} {bl : List (Value × List UInt8)}
theorem gst_below (h : RgSt w W ps fl bl) (b : Below W.heap.size W W') : RgSt w W' ps fl bl :=
  ⟨bt' h.bel b, fun p hp => cells_below (h.blk p hp) b, fun p hp => holdsF_mono (h.fld p hp) b, fun p hp => holdsB_mono (h.byt p hp) b⟩
theorem gst_drew (h : RgSt w W ps fl bl) : RgSt w W.drew ps fl bl := gst_below h (Below.refl _ _).drew
theorem gst_fld (h : RgSt w W ps fl bl) {v : Value} {fs : FL} (hv : HoldsF W v fs) : RgSt w W ps ((v, fs) :: fl) bl :=
  ⟨h.bel, h.blk, fun p hp => by rcases List.mem_cons.1 hp with rfl | hp; exact hv; exact h.fld p hp, h.byt⟩
theorem gst_byt (h : RgSt w W ps fl bl) {v : Value} {bs : List UInt8} (hv : HoldsB W v bs) : RgSt w W ps fl ((v, bs) :: bl) :=
  ⟨h.bel, h.blk, h.fld, fun p hp => by rcases List.mem_cons.1 hp with rfl | hp; exact hv; exact h.byt p hp⟩
theorem gst_alloc (h : RgSt w W ps fl bl) (cs : Array Value) (t : TypeId) : RgSt w (W.alloc (.cells cs t)) ((W.heap.size, cs.toList) :: ps) fl bl := by
  have b := gst_below h (below_alloc' W (.cells cs t))
  exact ⟨b.bel, fun p hp => by rcases List.mem_cons.1 hp with rfl | hp; exact cells_lit W cs t; exact b.blk p hp, b.fld, b.byt⟩
end
theorem appR_len (D : List UInt8 → Int) (ask fs : FL) (s k : Int) (zr body : List UInt8) (hb : bulkF ask + bulkF fs + body.length ≤ 1100000) (hz : zr.length ≤ 140737488351232) : (appR D ask s zr k fs body).2.2.2.1.length ≤ fs.length + 1 ∧ (appR D ask s zr k fs body).2.2.2.2.length ≤ 1000000000 ∧ (appR D ask s zr k fs body).2.1.length ≤ 140737488351232 := by
  have h8 := rngP_len (getJ ask raN) body.length
  have hin := rngP_in (getJ ask raN) body.length
  unfold appR
  split
  · exact ⟨by dsimp only; omega, by dsimp only; omega, hz⟩
  · split
    · have h1 := put_len (withoutOf fs [clH, ctN]) crU (starL ++ Lib.itoa body.length)
      have h2 := without_len fs [clH, ctN]
      refine ⟨?_, Nat.zero_le _, show unsR.length ≤ _ by decide⟩
      dsimp only
      omega
    · split
      · have h1 := put_len (withoutOf fs [clH]) crU
        rename_i p _
        have h1 := put_len (withoutOf fs [clH]) crU (placeL p.1 p.2 body.length)
        have h2 := without_len fs [clH]
        refine ⟨?_, ?_, show parR.length ≤ _ by decide⟩
        · dsimp only; omega
        · unfold spanB
          dsimp only
          rw [List.length_take, List.length_drop]
          omega
      · have h2 := without_len fs [clH, crH, ctN]
        refine ⟨?_, ?_, show parR.length ≤ _ by decide⟩
        · dsimp only
          rw [List.length_append]
          simp only [List.length_cons, List.length_nil]
          omega
        · dsimp only
          rw [manyB_is, List.length_append]
          have h3 := h3L_len body (by omega)
          have h4 := flat_len8 (partB fs body) 30000000 (rngP (getJ ask raN) body.length).2 (fun p hp => partB_len2 fs body p (by omega) (by omega) (hin p hp))
          have h5 : (rngP (getJ ask raN) body.length).2.length * 30000000 ≤ 8 * 30000000 := Nat.mul_le_mul_right _ h8
          omega
section
variable {w W : World} {ps : List (Nat × List Value)} {fl : List (Value × FL)} {bl : List (Value × List UInt8)}
theorem gst_copyF (S : RgSt w W ps fl bl) {u : Value} {xs : FL} (hm : (u, xs) ∈ fl) (hl : xs.length ≤ 2000000) :
    Calls Tryz.prog 14 #[u] W fun e w' => ∃ a c, e = .returned (.slice a xs.length c) ∧ Hid (RgSt w w' ps ((.slice a xs.length c, xs) :: fl) bl) := by
  refine (copyF u xs W (S.fld _ hm) (by omega)).mono ?_
  rintro e w' ⟨u', rfl, ho⟩
  have hx := holdsF_own ho
  obtain ⟨a, c, _, _, eq, -⟩ := holdsF_parts hx
  rw [eq] at hx ⊢
  exact ⟨a, c, rfl, gst_fld (gst_below S ho.2) hx⟩
theorem gst_copyR (S : RgSt w W ps fl bl) {u : Value} {xs : FL} (hm : (u, xs) ∈ fl) (hl : xs.length ≤ 2000000) (s k : Int) (zr : List UInt8) :
    Calls Tryz.prog 6 #[.agg #[.int .i64 s, .string ⟨zr.toArray⟩, .int .i64 k, u]] W fun e w' => ∃ a c, e = .returned (.agg #[.int .i64 s, .string ⟨zr.toArray⟩, .int .i64 k, .slice a xs.length c]) ∧ Hid (RgSt w w' ps ((.slice a xs.length c, xs) :: fl) bl) := by
  refine (copyRs s k zr xs u W (S.fld _ hm) hl).mono ?_
  rintro e w' ⟨u', rfl, ho⟩
  have hx := holdsF_own ho
  obtain ⟨a, c, _, _, eq, -⟩ := holdsF_parts hx
  rw [eq] at hx ⊢
  exact ⟨a, c, rfl, gst_fld (gst_below S ho.2) hx⟩
theorem gst_copyB (S : RgSt w W ps fl bl) {v : Value} {bs : List UInt8} (hm : (v, bs) ∈ bl) (hl : bs.length ≤ 140737488355328) :
    Calls Tryz.prog 5 #[v] W fun e w' => ∃ a c, e = .returned (.slice a bs.length c) ∧ Hid (RgSt w w' ps fl ((.slice a bs.length c, bs) :: bl)) := by
  refine (copyB v bs W (S.byt _ hm) hl).mono ?_
  rintro e w' ⟨u', rfl, ho⟩
  have hx := holdsB_own ho
  obtain ⟨a, c, eq, -⟩ := id hx
  rw [eq] at hx ⊢
  exact ⟨a, c, rfl, gst_byt (gst_below S ho.2) hx⟩
theorem gst_apply {D : List UInt8 → Int} (AI : ApplyIs D w) (S : RgSt w W ps fl bl) {a u v : Value} {ask fs : FL} {body : List UInt8} (ha : (a, ask) ∈ fl) (hu : (u, fs) ∈ fl) (hv : (v, body) ∈ bl) (s k : Int) (zr : List UInt8) (hb : bulkF ask + bulkF fs + body.length ≤ 1100000) (hz : zr.length ≤ 140737488351232) (r : RgR) (hr : appR D ask s zr k fs body = r) :
    Calls Tryz.prog 7 #[a, .agg #[.int .i64 s, .string ⟨zr.toArray⟩, .int .i64 k, u], v] W fun e w' => ∃ p q x y, e = .returned (.tuple #[.agg #[.int .i64 r.1, .string ⟨r.2.1.toArray⟩, .int .i64 r.2.2.1, .slice p r.2.2.2.1.length q], .slice x r.2.2.2.2.length y]) ∧ Hid (RgSt w w' ps ((.slice p r.2.2.2.1.length q, r.2.2.2.1) :: fl) ((.slice x r.2.2.2.2.length y, r.2.2.2.2) :: bl)) := by
  refine (AI s k zr a u v ask fs body r W S.bel (S.fld _ ha) (S.fld _ hu) (S.byt _ hv) hb hz hr).mono ?_
  rintro e w' ⟨u', b', rfl, h1, h2, b⟩
  obtain ⟨p, q, _, _, e1, -⟩ := holdsF_parts h1
  obtain ⟨x, y, e2, -⟩ := id h2
  rw [e1] at h1 ⊢
  rw [e2] at h2 ⊢
  exact ⟨p, q, x, y, rfl, gst_byt (gst_fld (gst_below S b) h1) h2⟩
theorem gst_sameF (S : RgSt w W ps fl bl) {u v : Value} {xs : FL} (hu : (u, xs) ∈ fl) (hv : (v, xs) ∈ fl) (hl : xs.length ≤ 2000000) :
    Calls Tryz.prog 31 #[u, v] W fun e w' => e = .returned (.bool true) ∧ Hid (RgSt w w' ps fl bl) := by
  refine (sameFv u v xs W (S.fld _ hu) (S.fld _ hv) (by omega)).mono ?_
  rintro e w' ⟨rfl, b⟩
  exact ⟨rfl, gst_below S b⟩
theorem gst_sameR (S : RgSt w W ps fl bl) {u v : Value} {xs : FL} (hu : (u, xs) ∈ fl) (hv : (v, xs) ∈ fl) (hl : xs.length ≤ 2000000) (s k : Int) (zr : List UInt8) :
    Calls Tryz.prog 9 #[.agg #[.int .i64 s, .string ⟨zr.toArray⟩, .int .i64 k, u], .agg #[.int .i64 s, .string ⟨zr.toArray⟩, .int .i64 k, v]] W fun e w' => e = .returned (.bool true) ∧ Hid (RgSt w w' ps fl bl) := by
  refine (sameRs s k zr xs u v W (S.fld _ hu) (S.fld _ hv) hl).mono ?_
  rintro e w' ⟨rfl, b⟩
  exact ⟨rfl, gst_below S b⟩
theorem gst_sameB (S : RgSt w W ps fl bl) {u v : Value} {xs : List UInt8} (hu : (u, xs) ∈ bl) (hv : (v, xs) ∈ bl) (hl : xs.length ≤ 1000000000000000) :
    Calls Tryz.prog 10 #[u, v] W fun e w' => e = .returned (.bool true) ∧ Hid (RgSt w w' ps fl bl) := by
  refine (sameBe u v xs W (S.byt _ hu) (S.byt _ hv) hl).mono ?_
  rintro e w' ⟨rfl, b⟩
  exact ⟨rfl, gst_below S b⟩
theorem gst_get (S : RgSt w W ps fl bl) {u : Value} {xs : FL} (hu : (u, xs) ∈ fl) (hb : bulkF xs ≤ 9000000) (n m : List UInt8) (hn : n.length ≤ 1048576) (e : lows n = lows m) :
    Calls Tryz.prog 15 #[u, .string ⟨n.toArray⟩] W fun e w' => e = .returned (.tuple #[.string ⟨(getJ xs m).toArray⟩, .bool (hasA xs m)]) ∧ Hid (RgSt w w' ps fl bl) := by
  have h := getTokB u xs n W (S.fld _ hu) hb hn
  rw [vals_low2 xs e, getJ_eq] at h
  refine h.mono ?_
  rintro e w' ⟨rfl, b⟩
  exact ⟨rfl, gst_below S b⟩
end
theorem quad_blkR {b : Nat} {W : World} {v0 v1 v2 v3 : Value} (h : Quad b W v0 v1 v2 v3) : Blk b W [v0, v1, v2, v3] := by
  obtain ⟨h0, h1, h2, h3, f0, f1, f2, f3, hz⟩ := h
  refine ⟨fun i hi => ?_, hz⟩
  match i, hi with
  | 0, _ => exact ⟨h0, f0⟩
  | 1, _ => exact ⟨h1, f1⟩
  | 2, _ => exact ⟨h2, f2⟩
  | 3, _ => exact ⟨h3, f3⟩
/-- a result's box that was laid ahead of the call -/
theorem gst_box {w W w8 : World} {ps : List (Nat × List Value)} {fl : List (Value × FL)} {bl : List (Value × List UInt8)} {z0 z1 z2 z3 : Value} (S : RgSt w W ps fl bl) (hB : Below W.heap.size W w8) (q : Quad W.heap.size w8 z0 z1 z2 z3) {u : Value} {fs : FL} (rF : w8.ownsRow (W.heap.size + 1) 42 2 u fs.length (cellsF fs)) {b : Value} {bs : List UInt8} (rB : w8.ownsRow (W.heap.size + 1) 5 1 b bs.length (bs.map B)) (v0 v1 v2 v3 : Value) :
    RgSt w ((((w8.setCell ⟨W.heap.size, 0, none⟩ v0).setCell ⟨W.heap.size, 1, none⟩ v1).setCell ⟨W.heap.size, 2, none⟩ v2).setCell ⟨W.heap.size, 3, none⟩ v3) ((W.heap.size, [v0, v1, v2, v3]) :: ps) ((u, fs) :: fl) ((b, bs) :: bl) := by
  have s := gst_below S (put4_below hB (Nat.le_refl _) v0 v1 v2 v3)
  have qb := quad_blkR (quad_put q v0 v1 v2 v3)
  have hF := holdsF_row (row_put (b := W.heap.size) (v0 := v0) (v1 := v1) (v2 := v2) (v3 := v3) rF (Nat.lt_succ_self _))
  have hY := holdsB_row (row_put (b := W.heap.size) (v0 := v0) (v1 := v1) (v2 := v2) (v3 := v3) rB (Nat.lt_succ_self _))
  unfold put4 at s qb hF hY
  exact gst_byt (gst_fld ⟨s.bel, fun p hp => by rcases List.mem_cons.1 hp with rfl | hp; exact qb; exact s.blk p hp, s.fld, s.byt⟩ hF) hY
theorem gst_applyX {w W W' : World} {ps : List (Nat × List Value)} {fl : List (Value × FL)} {bl : List (Value × List UInt8)} {D : List UInt8 → Int} (AO : ApplyOwn D w) (S : RgSt w W ps fl bl) {a u v : Value} {ask fs : FL} {body : List UInt8} (ha : (a, ask) ∈ fl) (hu : (u, fs) ∈ fl) (hv : (v, body) ∈ bl) (s k : Int) (zr : List UInt8) (hb : bulkF ask + bulkF fs + body.length ≤ 1100000) (hz : zr.length ≤ 140737488351232) (r : RgR) (hr : appR D ask s zr k fs body = r)
    (hW : W' = W.alloc (.cells #[.int .i64 0, .string ⟨#[]⟩, .int .i64 0, .slice none 0 0] 24) ∨ W' = (W.alloc (.cells #[.int .i64 0, .string ⟨#[]⟩, .int .i64 0, .slice none 0 0] 24)).drew) :
    Calls Tryz.prog 7 #[a, .agg #[.int .i64 s, .string ⟨zr.toArray⟩, .int .i64 k, u], v] W' fun e w' => ∃ p q x y, e = .returned (.tuple #[.agg #[.int .i64 r.1, .string ⟨r.2.1.toArray⟩, .int .i64 r.2.2.1, .slice p r.2.2.2.1.length q], .slice x r.2.2.2.2.length y]) ∧ Hid (Below W.heap.size W w') ∧ Hid (w'.ownsRow (W.heap.size + 1) 42 2 (.slice p r.2.2.2.1.length q) r.2.2.2.1.length (cellsF r.2.2.2.1)) ∧ Hid (w'.ownsRow (W.heap.size + 1) 5 1 (.slice x r.2.2.2.2.length y) r.2.2.2.2.length (r.2.2.2.2.map B)) ∧ Hid (Quad W.heap.size w' (.int .i64 0) (.string ⟨#[]⟩) (.int .i64 0) (.slice none 0 0)) := by
  have bb : Below W.heap.size W W' ∧ Quad W.heap.size W' (.int .i64 0) (.string ⟨#[]⟩) (.int .i64 0) (.slice none 0 0) ∧ W'.heap.size = W.heap.size + 1 := by
    have q := quad_lit W (.int .i64 0) (.string ⟨#[]⟩) (.int .i64 0) (.slice none 0 0) 24
    rcases hW with rfl | rfl
    · exact ⟨below_alloc' W _, q, by simp⟩
    · exact ⟨(below_alloc' W _).drew, quad_below q (Below.refl _ _).drew, by simp⟩
  obtain ⟨b1, q1, z1⟩ := bb
  have S' := gst_below S b1
  refine (AO s k zr a u v ask fs body r W' S'.bel (S'.fld _ ha) (S'.fld _ hu) (S'.byt _ hv) hb hz hr).mono ?_
  rintro e w' ⟨u', b', rfl, h1, h2⟩
  have r1 := h1.1
  have r2 := h2.1
  rw [z1] at r1 r2
  obtain ⟨p, q, _, _, e1, -⟩ := holdsF_parts (holdsF_own h1)
  obtain ⟨x, y, e2, -⟩ := holdsB_own h2
  rw [e1] at r1 ⊢
  rw [e2] at r2 ⊢
  exact ⟨p, q, x, y, rfl, bt' b1 h1.2, r1, r2, quad_below q1 h1.2⟩
theorem bulkF_filter (p : List UInt8 × List UInt8 → Bool) : ∀ fs : FL, bulkF (fs.filter p) ≤ bulkF fs
  | [] => Nat.le_refl _
  | f :: r => by
    have ih := bulkF_filter p r
    rw [List.filter_cons]
    split
    · simp only [bulkF]; omega
    · simp only [bulkF]; omega
theorem bulkF_putR (fs : FL) (n x : List UInt8) : bulkF (putOf fs n x) ≤ bulkF fs + (n.length + x.length + 3) := by
  unfold putOf
  rw [bulkF_app]
  have h := bulkF_filter (fun f => decide (lows f.1 ∉ ([n] : List (List UInt8)).map lows)) fs
  have e : bulkF [(n, x)] = n.length + x.length + 3 := by simp [bulkF]
  rw [e]
  show bulkF (withoutOf fs [n]) + _ ≤ _
  unfold withoutOf
  omega
end Go.Proofs.YtipcmbonhkelbabGreatDoor
