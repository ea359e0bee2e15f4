/- What stands behind the statement that builds the document's entry. -/
import Derived.Test.YtenegcoapejbmaaGreatDoorObK
import Derived.Test.YtenegcoapejbmaaGreatDoorBj
namespace Go.Proofs.YtenegcoapejbmaaGreatDoor
open Go.RowKit
def Z9 : List Value := [.string ⟨#[]⟩, .string ⟨#[]⟩, .int .i64 0, .string ⟨#[]⟩, .int .i64 0, .slice none 0 0, .slice none 0 0, .int .i64 0, .int .i64 0]
structure AftI (W0 : World) (q : Nat) (en : En) (lv bv : Value) (pe : Nat) (wx : World) : Prop where
  blk : Blk pe wx [.string ⟨en.key.toArray⟩, .string ⟨en.vary.toArray⟩, .int .i64 en.r.s, .string ⟨en.r.r.toArray⟩, .int .i64 en.r.k, lv, bv, .int .i64 en.a, .int .i64 en.g]
  rf : OwnF W0 lv en.r.fs wx
  rb : Own W0 bv en.body wx
  res : Blk q wx Z9
theorem aft_new {W0 w4 w7 : World} {q : Nat} {en : En} {lv u : Value} (F4 : OwnF W0 lv en.r.fs w4) (Q4 : Blk q w4 Z9) (BW : Below W0.heap.size W0 w4) (hu : Own w4 u en.body w7) :
    AftI W0 q en lv u w7.heap.size (w7.alloc (.cells #[.string ⟨en.key.toArray⟩, .string ⟨en.vary.toArray⟩, .int .i64 en.r.s, .string ⟨en.r.r.toArray⟩, .int .i64 en.r.k, lv, u, .int .i64 en.a, .int .i64 en.g] 29)) :=
  ⟨cells_lit w7 #[.string ⟨en.key.toArray⟩, .string ⟨en.vary.toArray⟩, .int .i64 en.r.s, .string ⟨en.r.r.toArray⟩, .int .i64 en.r.k, lv, u, .int .i64 en.a, .int .i64 en.g] 29, ownF_mono (ownF_mono F4 hu.2) (below_alloc' _ _), own_mono (own_base hu BW) (below_alloc' _ _), cells_below (cells_below Q4 hu.2) (below_alloc' _ _)⟩
theorem far_put (b : Nat) : ∀ (vs : List Value) (o : Nat) (W : World), Far (fun k => k = b) W (putFrom b o W vs) := by
  intro vs
  induction vs with
  | nil => intro o W; exact far_refl _ _
  | cons v r ih =>
    intro o W
    refine far_trans (S := fun k => k = b) (T := fun k => k = b) ?_ (ih (o + 1) _) (fun _ _ e => e)
    exact ⟨rfl, rfl, rfl, by simp, fun k hk hn => Below.heap_setCell W ⟨b, o, none⟩ v k (fun e => hn e)⟩
theorem row_farX {w w' : World} {base k n : Nat} {t : TypeId} {v : Value} {cs : List Value} {S : Nat → Prop} (h : w.ownsRow base t k v n cs) (hf : Far S w w') (hn : ∀ k, v.ownBlock = some k → ¬ S k) : w'.ownsRow base t k v n cs := by
  have hlt := h.lt
  obtain ⟨hl, h1 | ⟨g, cap, cur, rfl, hb, hg, hr⟩⟩ := h
  · exact ⟨hl, .inl h1⟩
  · exact ⟨hl, .inr ⟨g, cap, cur, rfl, hb, by rw [hf.2.2.2.2 g (hlt g rfl).2 (hn g rfl)]; exact hg, hr⟩⟩
theorem aft_put {W0 w4 w7 : World} {q : Nat} {en : En} {lv u : Value} (F4 : OwnF W0 lv en.r.fs w4) (Q4 : Blk q w4 Z9) (BW : Below W0.heap.size W0 w4) (hu : Own (w4.drew.alloc (.cells #[.string ⟨#[]⟩, .string ⟨#[]⟩, .int .i64 0, .string ⟨#[]⟩, .int .i64 0, .slice none 0 0, .slice none 0 0, .int .i64 0, .int .i64 0] 29)) u en.body w7) :
    AftI W0 q en lv u w4.heap.size (((((((((w7.setCell ⟨w4.heap.size, 0, none⟩ (.string ⟨en.key.toArray⟩)).setCell ⟨w4.heap.size, 1, none⟩ (.string ⟨en.vary.toArray⟩)).setCell ⟨w4.heap.size, 2, none⟩ (.int .i64 en.r.s)).setCell ⟨w4.heap.size, 3, none⟩ (.string ⟨en.r.r.toArray⟩)).setCell ⟨w4.heap.size, 4, none⟩ (.int .i64 en.r.k)).setCell ⟨w4.heap.size, 5, none⟩ (lv)).setCell ⟨w4.heap.size, 6, none⟩ (u)).setCell ⟨w4.heap.size, 7, none⟩ (.int .i64 en.a)).setCell ⟨w4.heap.size, 8, none⟩ (.int .i64 en.g)) := by
  have hb : Below w4.heap.size w4 (w4.drew.alloc (.cells #[.string ⟨#[]⟩, .string ⟨#[]⟩, .int .i64 0, .string ⟨#[]⟩, .int .i64 0, .slice none 0 0, .slice none 0 0, .int .i64 0, .int .i64 0] 29)) := (Below.refl _ _).drew.alloc (Nat.le_refl _) _
  have hsz : (w4.drew.alloc (.cells #[.string ⟨#[]⟩, .string ⟨#[]⟩, .int .i64 0, .string ⟨#[]⟩, .int .i64 0, .slice none 0 0, .slice none 0 0, .int .i64 0, .int .i64 0] 29)).heap.size = w4.heap.size + 1 := by simp
  have hz := BW.size
  have k0 : Blk w4.heap.size w7 Z9 := cells_below (cells_lit w4.drew #[.string ⟨#[]⟩, .string ⟨#[]⟩, .int .i64 0, .string ⟨#[]⟩, .int .i64 0, .slice none 0 0, .slice none 0 0, .int .i64 0, .int .i64 0] 29) hu.2
  have h1 := cells_put k0 [.string ⟨en.key.toArray⟩, .string ⟨en.vary.toArray⟩, .int .i64 en.r.s, .string ⟨en.r.r.toArray⟩, .int .i64 en.r.k, lv, u, .int .i64 en.a, .int .i64 en.g] rfl
  have hq := Q4.2
  have h2 := blk_putO (b := q) (c := w4.heap.size) (fun h => by omega) [.string ⟨en.key.toArray⟩, .string ⟨en.vary.toArray⟩, .int .i64 en.r.s, .string ⟨en.r.r.toArray⟩, .int .i64 en.r.k, lv, u, .int .i64 en.a, .int .i64 en.g] 0 _ (cells_below (cells_below Q4 hb) hu.2)
  have h3 := put_below (w := W0) (b := w4.heap.size) hz [.string ⟨en.key.toArray⟩, .string ⟨en.vary.toArray⟩, .int .i64 en.r.s, .string ⟨en.r.r.toArray⟩, .int .i64 en.r.k, lv, u, .int .i64 en.a, .int .i64 en.g] 0 _ (bt' BW (bt' hb hu.2))
  have F7 := ownF_mono (ownF_mono F4 hb) hu.2
  have l4 := F4.1.lt
  have h4 := row_farX F7.1 (far_put w4.heap.size [.string ⟨en.key.toArray⟩, .string ⟨en.vary.toArray⟩, .int .i64 en.r.s, .string ⟨en.r.r.toArray⟩, .int .i64 en.r.k, lv, u, .int .i64 en.a, .int .i64 en.g] 0 w7) (fun k e f => by have := (l4 k e).2; omega)
  have h5 := row_base (row_putFrom (b := w4.heap.size) (by rw [hsz]; omega) [.string ⟨en.key.toArray⟩, .string ⟨en.vary.toArray⟩, .int .i64 en.r.s, .string ⟨en.r.r.toArray⟩, .int .i64 en.r.k, lv, u, .int .i64 en.a, .int .i64 en.g] 0 _ hu.1) (show W0.heap.size ≤ _ by rw [hsz]; omega)
  rw [put_nine] at h1 h2 h3 h4 h5
  exact ⟨h1, ⟨h4, h3⟩, ⟨h5, h3⟩, h2⟩
theorem aft_putD {W0 w4 w7 : World} {q : Nat} {en : En} {lv u : Value} (F4 : OwnF W0 lv en.r.fs w4) (Q4 : Blk q w4 Z9) (BW : Below W0.heap.size W0 w4) (hu : Own ((w4.alloc (.cells #[.string ⟨#[]⟩, .string ⟨#[]⟩, .int .i64 0, .string ⟨#[]⟩, .int .i64 0, .slice none 0 0, .slice none 0 0, .int .i64 0, .int .i64 0] 29)).drew) u en.body w7) :
    AftI W0 q en lv u w4.heap.size (((((((((w7.setCell ⟨w4.heap.size, 0, none⟩ (.string ⟨en.key.toArray⟩)).setCell ⟨w4.heap.size, 1, none⟩ (.string ⟨en.vary.toArray⟩)).setCell ⟨w4.heap.size, 2, none⟩ (.int .i64 en.r.s)).setCell ⟨w4.heap.size, 3, none⟩ (.string ⟨en.r.r.toArray⟩)).setCell ⟨w4.heap.size, 4, none⟩ (.int .i64 en.r.k)).setCell ⟨w4.heap.size, 5, none⟩ (lv)).setCell ⟨w4.heap.size, 6, none⟩ (u)).setCell ⟨w4.heap.size, 7, none⟩ (.int .i64 en.a)).setCell ⟨w4.heap.size, 8, none⟩ (.int .i64 en.g)) := by
  have e : (w4.alloc (.cells #[.string ⟨#[]⟩, .string ⟨#[]⟩, .int .i64 0, .string ⟨#[]⟩, .int .i64 0, .slice none 0 0, .slice none 0 0, .int .i64 0, .int .i64 0] 29)).drew = w4.drew.alloc (.cells #[.string ⟨#[]⟩, .string ⟨#[]⟩, .int .i64 0, .string ⟨#[]⟩, .int .i64 0, .slice none 0 0, .slice none 0 0, .int .i64 0, .int .i64 0] 29) := rfl
  rw [e] at hu
  exact aft_put F4 Q4 BW hu
theorem bel9 {w4 W : World} (h : Below w4.heap.size w4 W) (v0 v1 v2 v3 v4 v5 v6 v7 v8 : Value) : Below w4.heap.size w4 (((((((((W.setCell ⟨w4.heap.size, 0, none⟩ v0).setCell ⟨w4.heap.size, 1, none⟩ v1).setCell ⟨w4.heap.size, 2, none⟩ v2).setCell ⟨w4.heap.size, 3, none⟩ v3).setCell ⟨w4.heap.size, 4, none⟩ v4).setCell ⟨w4.heap.size, 5, none⟩ v5).setCell ⟨w4.heap.size, 6, none⟩ v6).setCell ⟨w4.heap.size, 7, none⟩ v7).setCell ⟨w4.heap.size, 8, none⟩ v8) := (((((((((h.setCell (Nat.le_refl _) v0).setCell (Nat.le_refl _) v1).setCell (Nat.le_refl _) v2).setCell (Nat.le_refl _) v3).setCell (Nat.le_refl _) v4).setCell (Nat.le_refl _) v5).setCell (Nat.le_refl _) v6).setCell (Nat.le_refl _) v7).setCell (Nat.le_refl _) v8)
end Go.Proofs.YtenegcoapejbmaaGreatDoor
