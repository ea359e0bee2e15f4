/- The walk of RangesMemory. -/
import Derived.Test.YtipcmbonhkelbabGreatDoorLawRgS
import Derived.Test.YtipcmbonhkelbabGreatDoorFdMk
import Derived.Test.YtipcmbonhkelbabGreatDoorFdA3
import Derived.Deep.Cut
namespace Go.Proofs.YtipcmbonhkelbabGreatDoor
open Go.RowKit
/-- what the walk keeps: blocks, rows of fields and rows of bytes of its own, all told apart -/
structure RgK (w W : World) (ps : List (Nat × List Value)) (of : List (Value × FL)) (ob : List (Value × List UInt8)) : Prop where
  bel : Below w.heap.size w W
  blk : ∀ p ∈ ps, Blk p.1 W p.2
  rf : ∀ p ∈ of, W.ownsRow w.heap.size 42 2 p.1 p.2.length (cellsF p.2)
  rb : ∀ p ∈ ob, W.ownsRow w.heap.size 5 1 p.1 p.2.length (p.2.map B)
  df : of.Pairwise (fun a b => ∀ k, a.1.ownBlock = some k → ¬ b.1.ownBlock = some k)
  db : ob.Pairwise (fun a b => ∀ k, a.1.ownBlock = some k → ¬ b.1.ownBlock = some k)
  nf : ∀ p ∈ ps, ∀ q ∈ of, ¬ q.1.ownBlock = some p.1
  nb : ∀ p ∈ ps, ∀ q ∈ ob, ¬ q.1.ownBlock = some p.1
theorem row_belowK {base k n : Nat} {t : TypeId} {v : Value} {cs : List Value} {w w' : World} (h : w.ownsRow base t k v n cs) (hb : Below w.heap.size w w') : w'.ownsRow base t k v n cs := by
  have hlt := World.ownsRow.lt h
  obtain ⟨hl, h1 | ⟨g, cap, cur, rfl, hg, hh, hr⟩⟩ := h
  · exact ⟨hl, .inl h1⟩
  · exact ⟨hl, .inr ⟨g, cap, cur, rfl, hg, by rw [hb.block g (hlt g rfl).2]; exact hh, hr⟩⟩
theorem row_farK {base k n : Nat} {t : TypeId} {v : Value} {cs : List Value} {w w' : World} {S : Nat → Prop} (h : w.ownsRow base t k v n cs) (hf : Far S w w') (hn : ∀ k, v.ownBlock = some k → ¬ S k) : w'.ownsRow base t k v n cs := by
  have hlt := World.ownsRow.lt h
  obtain ⟨hl, h1 | ⟨g, cap, cur, rfl, hb, hg, hr⟩⟩ := h
  · exact ⟨hl, .inl h1⟩
  · exact ⟨hl, .inr ⟨g, cap, cur, rfl, hb, by rw [hf.2.2.2.2 g (hlt g rfl).2 (hn g rfl)]; exact hg, hr⟩⟩
theorem row_typesK {w : World} {b1 b2 k1 k2 n1 n2 : Nat} {t1 t2 : TypeId} {v1 v2 : Value} {c1 c2 : List Value} (h1 : w.ownsRow b1 t1 k1 v1 n1 c1) (h2 : w.ownsRow b2 t2 k2 v2 n2 c2) (ht : t1 ≠ t2) : ∀ k, v1.ownBlock = some k → ¬ v2.ownBlock = some k := by
  intro k e1 e2
  obtain ⟨_, ⟨q, _⟩ | ⟨g, cap, cur, q, _, hg, _⟩⟩ := h1
  · rw [q] at e1; simp [Value.ownBlock] at e1
  · obtain ⟨_, ⟨q2, _⟩ | ⟨g2, cap2, cur2, q2, _, hg2, _⟩⟩ := h2
    · rw [q2] at e2; simp [Value.ownBlock] at e2
    · rw [q] at e1; rw [q2] at e2
      simp only [Value.ownBlock, Option.some.injEq] at e1 e2
      subst e1 e2
      rw [hg] at hg2
      simp only [Option.some.injEq, Obj.cells.injEq] at hg2
      exact ht hg2.2.1
theorem row_zeroK {base k n : Nat} {t : TypeId} {v : Value} {cs : List Value} {w : World} (h : w.ownsRow base t k v n cs) : w.ownsRow 0 t k v n cs := by
  obtain ⟨hl, h1 | ⟨g, cap, cur, e, _, hr⟩⟩ := h
  · exact ⟨hl, .inl h1⟩
  · exact ⟨hl, .inr ⟨g, cap, cur, e, Nat.zero_le _, hr⟩⟩
theorem row_liftK {base base' k n : Nat} {t : TypeId} {v : Value} {cs : List Value} {w : World} (h : w.ownsRow base t k v n cs) (hb : base' ≤ base) : w.ownsRow base' t k v n cs := by
  obtain ⟨hl, h1 | ⟨g, cap, cur, e, hg, hr⟩⟩ := h
  · exact ⟨hl, .inl h1⟩
  · exact ⟨hl, .inr ⟨g, cap, cur, e, by omega, hr⟩⟩
theorem blk_farK {b : Nat} {W W' : World} {vs : List Value} {S : Nat → Prop} (h : Blk b W vs) (hf : Far S W W') (hn : ¬ S b) : Blk b W' vs := by
  have e := hf.2.2.2.2 b h.2 hn
  refine ⟨fun j hj => ⟨?_, ?_⟩, Nat.lt_of_lt_of_le h.2 hf.2.2.2.1⟩
  · rw [World.cell?_of_block (a := ⟨b, j, none⟩) e]; exact (h.1 j hj).1
  · rw [World.frozen?_of_block (a := ⟨b, j, none⟩) e]; exact (h.1 j hj).2
section
variable {w W W' : World} {ps : List (Nat × List Value)} {of : List (Value × FL)} {ob : List (Value × List UInt8)}
theorem rk_below (h : RgK w W ps of ob) (b : Below W.heap.size W W') : RgK w W' ps of ob :=
  ⟨bt' h.bel b, fun p hp => cells_below (h.blk p hp) b, fun p hp => row_belowK (h.rf p hp) b, fun p hp => row_belowK (h.rb p hp) b, h.df, h.db, h.nf, h.nb⟩
theorem rk_alloc (h : RgK w W ps of ob) (cs : Array Value) (t : TypeId) : RgK w (W.alloc (.cells cs t)) ((W.heap.size, cs.toList) :: ps) of ob := by
  have b := rk_below h (below_alloc' W (.cells cs t))
  refine ⟨b.bel, fun p hp => ?_, b.rf, b.rb, h.df, h.db, fun p hp q hq => ?_, fun p hp q hq => ?_⟩
  · rcases List.mem_cons.1 hp with rfl | hp
    · exact cells_lit W cs t
    · exact b.blk p hp
  · rcases List.mem_cons.1 hp with rfl | hp
    · intro e
      have := (World.ownsRow.lt (h.rf q hq) _ e).2
      exact absurd this (Nat.lt_irrefl _)
    · exact h.nf p hp q hq
  · rcases List.mem_cons.1 hp with rfl | hp
    · intro e
      have := (World.ownsRow.lt (h.rb q hq) _ e).2
      exact absurd this (Nat.lt_irrefl _)
    · exact h.nb p hp q hq
theorem rk_fldX (h : RgK w W ps of ob) (b : Below W.heap.size W W') {v : Value} {fs : FL} (r : W'.ownsRow W.heap.size 42 2 v fs.length (cellsF fs)) : RgK w W' ps ((v, fs) :: of) ob := by
  have k := rk_below h b
  have hz := h.bel.size
  refine ⟨k.bel, k.blk, fun p hp => ?_, k.rb, ?_, h.db, fun p hp q hq => ?_, h.nb⟩
  · rcases List.mem_cons.1 hp with rfl | hp
    · exact row_liftK r hz
    · exact k.rf p hp
  · refine List.pairwise_cons.2 ⟨fun q hq k e e2 => ?_, h.df⟩
    have h1 := (World.ownsRow.lt r k e).1
    have h2 := (World.ownsRow.lt (h.rf q hq) k e2).2
    omega
  · rcases List.mem_cons.1 hq with rfl | hq
    · intro e
      have h1 := (World.ownsRow.lt r _ e).1
      have h2 := (h.blk p hp).2
      omega
    · exact h.nf p hp q hq
theorem rk_bytX (h : RgK w W ps of ob) (b : Below W.heap.size W W') {v : Value} {bs : List UInt8} (r : W'.ownsRow W.heap.size 5 1 v bs.length (bs.map B)) : RgK w W' ps of ((v, bs) :: ob) := by
  have k := rk_below h b
  have hz := h.bel.size
  refine ⟨k.bel, k.blk, k.rf, fun p hp => ?_, h.df, ?_, h.nf, fun p hp q hq => ?_⟩
  · rcases List.mem_cons.1 hp with rfl | hp
    · exact row_liftK r hz
    · exact k.rb p hp
  · refine List.pairwise_cons.2 ⟨fun q hq k e e2 => ?_, h.db⟩
    have h1 := (World.ownsRow.lt r k e).1
    have h2 := (World.ownsRow.lt (h.rb q hq) k e2).2
    omega
  · rcases List.mem_cons.1 hq with rfl | hq
    · intro e
      have h1 := (World.ownsRow.lt r _ e).1
      have h2 := (h.blk p hp).2
      omega
    · exact h.nb p hp q hq
/-- a row of fields and a row of bytes of one call -/
theorem rk_two (h : RgK w W ps of ob) {v u : Value} {fs : FL} {bs : List UInt8} (o1 : OwnF W v fs W') (o2 : Own W u bs W') : RgK w W' ps ((v, fs) :: of) ((u, bs) :: ob) := by
  have k1 := rk_fldX h o1.2 o1.1
  have k2 := rk_bytX h o2.2 o2.1
  exact ⟨k1.bel, k1.blk, k1.rf, k2.rb, k1.df, k2.db, k1.nf, k2.nb⟩
/-- behind a call that writes into rows of bytes -/
theorem rk_farB (h : RgK w W ps of ob) {S : Nat → Prop} (hf : Far S W W') (hS : ∀ k, S k → ∃ p ∈ ob, p.1.ownBlock = some k) : RgK w W' ps of [] := by
  have hb : Below w.heap.size W W' := below_far hf _ h.bel.size (fun k hk => by
    obtain ⟨p, hp, e⟩ := hS k hk
    exact (World.ownsRow.lt (h.rb p hp) k e).1)
  refine ⟨h.bel.trans hb, fun p hp => blk_farK (h.blk p hp) hf (fun hk => ?_), fun p hp => row_farK (h.rf p hp) hf (fun k e hk => ?_), fun p hp => (by cases hp), h.df, List.Pairwise.nil, h.nf, fun p _ q hq => (by cases hq)⟩
  · obtain ⟨q, hq, e⟩ := hS _ hk
    exact h.nb p hp q hq e
  · obtain ⟨q, hq, e2⟩ := hS _ hk
    exact row_typesK (h.rf p hp) (h.rb q hq) (by decide) k e e2
/-- behind a call that writes into the third row of fields -/
theorem rk_farF {a b s : Value × FL} (h : RgK w W ps (a :: b :: s :: of) []) {S : Nat → Prop} (hf : Far S W W') (hS : ∀ k, S k → s.1.ownBlock = some k) : RgK w W' ps (a :: b :: of) [] := by
  have hm : ∀ p ∈ a :: b :: of, p ∈ a :: b :: s :: of := fun p hp => by
    rcases List.mem_cons.1 hp with rfl | hp
    · simp
    · rcases List.mem_cons.1 hp with rfl | hp
      · simp
      · simp [hp]
  obtain ⟨d1, d2⟩ := List.pairwise_cons.1 h.df
  obtain ⟨d3, d4⟩ := List.pairwise_cons.1 d2
  obtain ⟨d5, d6⟩ := List.pairwise_cons.1 d4
  have hd : ∀ p ∈ a :: b :: of, ∀ k, p.1.ownBlock = some k → ¬ s.1.ownBlock = some k := fun p hp k e e2 => by
    rcases List.mem_cons.1 hp with rfl | hp
    · exact d1 s (by simp) k e e2
    · rcases List.mem_cons.1 hp with rfl | hp
      · exact d3 s (by simp) k e e2
      · exact d5 p hp k e2 e
  have hb : Below w.heap.size W W' := below_far hf _ h.bel.size (fun k hk => (World.ownsRow.lt (h.rf s (by simp)) k (hS k hk)).1)
  refine ⟨h.bel.trans hb, fun p hp => blk_farK (h.blk p hp) hf (fun hk => h.nf p hp s (by simp) (hS _ hk)), fun p hp => row_farK (h.rf p (hm p hp)) hf (fun k e hk => hd p hp k e (hS k hk)), fun p hp => (by cases hp), ?_, List.Pairwise.nil, fun p hp q hq => h.nf p hp q (hm q hq), fun p _ q hq => (by cases hq)⟩
  refine List.pairwise_cons.2 ⟨fun q hq => ?_, List.pairwise_cons.2 ⟨fun q hq => d3 q (by simp [hq]), d6⟩⟩
  rcases List.mem_cons.1 hq with rfl | hq
  · exact d1 _ (by simp)
  · exact d1 q (by simp [hq])
theorem rk_copyB (h : RgK w W ps of ob) {v : Value} {bs : List UInt8} (hv : HoldsB W v bs) (hl : bs.length ≤ 140737488355328) :
    Calls Tryz.prog 5 #[v] W fun e w' => ∃ a c, e = .returned (.slice a bs.length c) ∧ Hid (RgK w w' ps of ((.slice a bs.length c, bs) :: ob)) := by
  refine (copyB v bs W hv hl).mono ?_
  rintro e w' ⟨u', rfl, ho⟩
  obtain ⟨a, c, eq, -⟩ := holdsB_own ho
  rw [eq] at ho ⊢
  exact ⟨a, c, rfl, rk_bytX h ho.2 ho.1⟩
theorem rk_copyR (h : RgK w W ps of ob) {u : Value} {xs : FL} (hu : HoldsF W u xs) (hl : xs.length ≤ 2000000) (s k : Int) (zr : List UInt8) :
    Calls Tryz.prog 6 #[.agg #[.int .i64 s, .string ⟨zr.toArray⟩, .int .i64 k, u]] W fun e w' => ∃ a c, e = .returned (.agg #[.int .i64 s, .string ⟨zr.toArray⟩, .int .i64 k, .slice a xs.length c]) ∧ Hid (RgK w w' ps ((.slice a xs.length c, xs) :: of) ob) := by
  refine (copyRs s k zr xs u W hu hl).mono ?_
  rintro e w' ⟨u', rfl, ho⟩
  obtain ⟨a, c, _, _, eq, -⟩ := holdsF_parts (holdsF_own ho)
  rw [eq] at ho ⊢
  exact ⟨a, c, rfl, rk_fldX h ho.2 ho.1⟩
theorem rk_apply {D : List UInt8 → Int} (AO : ApplyOwn D w) (h : RgK w W ps of ob) {a u v : Value} {ask fs : FL} {body : List UInt8} (ha : HoldsF W a ask) (hu : (u, fs) ∈ of) (hv : (v, body) ∈ ob) (s k : Int) (zr : List UInt8) (hb : bulkF ask + bulkF fs + body.length ≤ 1100000) (hz : zr.length ≤ 140737488351232) (r : RgR) (hr : appR D ask s zr k fs body = r) :
    Calls Tryz.prog 7 #[a, .agg #[.int .i64 s, .string ⟨zr.toArray⟩, .int .i64 k, u], v] W fun e w' => ∃ p q x y, e = .returned (.tuple #[.agg #[.int .i64 r.1, .string ⟨r.2.1.toArray⟩, .int .i64 r.2.2.1, .slice p r.2.2.2.1.length q], .slice x r.2.2.2.2.length y]) ∧ Hid (RgK w w' ps ((.slice p r.2.2.2.1.length q, r.2.2.2.1) :: of) ((.slice x r.2.2.2.2.length y, r.2.2.2.2) :: ob)) := by
  refine (AO s k zr a u v ask fs body r W h.bel ha (holdsF_row (h.rf _ hu)) (holdsB_row (h.rb _ hv)) hb hz hr).mono ?_
  rintro e w' ⟨u', b', rfl, h1, h2⟩
  obtain ⟨p, q, _, _, e1, -⟩ := holdsF_parts (holdsF_own h1)
  obtain ⟨x, y, e2, -⟩ := holdsB_own h2
  rw [e1] at h1 ⊢
  rw [e2] at h2 ⊢
  exact ⟨p, q, x, y, rfl, rk_two h h1 h2⟩
theorem rk_ref {D : List UInt8 → Int} (h : RgK w W ps of ob) {a u v : Value} {ask fs : FL} {body : List UInt8} (ha : HoldsF W a ask) (hu : HoldsF W u fs) (hv : HoldsB W v body) (s k : Int) (zr : List UInt8) (hb : bulkF ask + bulkF fs + body.length ≤ 1048576) (hD : DtQ (getJ fs lmN) (D (getJ fs lmN))) (r : RgR) (hr : appR D ask s zr k fs body = r) :
    Calls Tryz.prog 8 #[a, .agg #[.int .i64 s, .string ⟨zr.toArray⟩, .int .i64 k, u], v] W fun e w' => ∃ p q x y, e = .returned (.tuple #[.agg #[.int .i64 r.1, .string ⟨r.2.1.toArray⟩, .int .i64 r.2.2.1, .slice p r.2.2.2.1.length q], .slice x r.2.2.2.2.length y]) ∧ Hid (RgK w w' ps ((.slice p r.2.2.2.1.length q, r.2.2.2.1) :: of) ob) ∧ Hid (HoldsB w' (.slice x r.2.2.2.2.length y) r.2.2.2.2) := by
  refine (applyRO s k zr a u v ask fs body D W ha hu hv hb hD r hr).mono ?_
  rintro e w' ⟨u', b', rfl, h1, h2, -⟩
  obtain ⟨p, q, _, _, e1, -⟩ := holdsF_parts (holdsF_own h1)
  obtain ⟨x, y, e2, -⟩ := id h2
  rw [e1] at h1 ⊢
  rw [e2] at h2 ⊢
  exact ⟨p, q, x, y, rfl, rk_fldX h h1.2 h1.1, h2⟩
theorem rk_sameR (h : RgK w W ps of ob) {u v : Value} {xs : FL} (hu : HoldsF W u xs) (hv : HoldsF W v xs) (hl : xs.length ≤ 2000000) (s k : Int) (zr : List UInt8) :
    Calls Tryz.prog 9 #[.agg #[.int .i64 s, .string ⟨zr.toArray⟩, .int .i64 k, u], .agg #[.int .i64 s, .string ⟨zr.toArray⟩, .int .i64 k, v]] W fun e w' => e = .returned (.bool true) ∧ Hid (RgK w w' ps of ob) ∧ Below W.heap.size W w' := by
  refine (sameRs s k zr xs u v W hu hv hl).mono ?_
  rintro e w' ⟨rfl, b⟩
  exact ⟨rfl, rk_below h b, b⟩
theorem rk_sameB (h : RgK w W ps of ob) {u v : Value} {xs : List UInt8} (hu : HoldsB W u xs) (hv : HoldsB W v xs) (hl : xs.length ≤ 1000000000000000) :
    Calls Tryz.prog 10 #[u, v] W fun e w' => e = .returned (.bool true) ∧ Hid (RgK w w' ps of ob) ∧ Below W.heap.size W w' := by
  refine (sameBe u v xs W hu hv hl).mono ?_
  rintro e w' ⟨rfl, b⟩
  exact ⟨rfl, rk_below h b, b⟩
theorem dj_three {a b c : Value} (h1 : ∀ k, a.ownBlock = some k → ¬ b.ownBlock = some k) (h2 : ∀ k, a.ownBlock = some k → ¬ c.ownBlock = some k) (h3 : ∀ k, b.ownBlock = some k → ¬ c.ownBlock = some k) : Dj3 (pvA3 [a, b, c]) := by
  intro i j k hi hj e1 e2
  rcases (show i = 0 ∨ i = 1 ∨ i = 2 by omega) with rfl | rfl | rfl <;> rcases (show j = 0 ∨ j = 1 ∨ j = 2 by omega) with rfl | rfl | rfl <;> first | rfl | exact absurd e2 (h1 k e1) | exact absurd e1 (h1 k e2) | exact absurd e2 (h2 k e1) | exact absurd e1 (h2 k e2) | exact absurd e2 (h3 k e1) | exact absurd e1 (h3 k e2)
theorem rk_apart {a b c : Value × List UInt8} (h : RgK w W ps of [a, b, c]) (ha : a.2.length ≤ 100000000) (hb : b.2.length ≤ 100000000) (hc : c.2.length ≤ 100000000) :
    Calls Tryz.prog 11 #[.slice (some ⟨W.heap.size, 0, none⟩) 3 3] (W.alloc (.cells #[a.1, b.1, c.1] 25)) fun e w' => e = .returned (.bool true) ∧ Hid (RgK w w' ps of []) := by
  obtain ⟨d1, d2⟩ := List.pairwise_cons.1 h.db
  obtain ⟨d3, -⟩ := List.pairwise_cons.1 d2
  refine (apart3 W a.1 b.1 c.1 a.2.length b.2.length c.2.length ⟨_, row_zeroK (h.rb a (by simp))⟩ ⟨_, row_zeroK (h.rb b (by simp))⟩ ⟨_, row_zeroK (h.rb c (by simp))⟩ (dj_three (d1 b (by simp)) (d1 c (by simp)) (d3 c (by simp))) (fun i hi => by
    rcases (show i = 0 ∨ i = 1 ∨ i = 2 by omega) with rfl | rfl | rfl
    · exact ha
    · exact hb
    · exact hc)).mono ?_
  rintro e w' ⟨rfl, hf⟩
  refine ⟨rfl, rk_farB h hf (fun k hk => ?_)⟩
  obtain ⟨i, hi, e⟩ := hk
  rcases (show i = 0 ∨ i = 1 ∨ i = 2 by omega) with rfl | rfl | rfl
  · exact ⟨a, by simp, e⟩
  · exact ⟨b, by simp, e⟩
  · exact ⟨c, by simp, e⟩
theorem rk_marked {a b : Value × FL} {u : Value} {xs : FL} (h : RgK w W ps (a :: b :: (u, xs) :: of) []) (hl : xs.length ≤ 4000000) :
    Calls Tryz.prog 12 #[u] W fun e w' => e = .returned (.bool true) ∧ Hid (RgK w w' ps (a :: b :: of) []) := by
  refine (markedC u xs.length w.heap.size W ⟨_, h.rf (u, xs) (by simp)⟩ h.bel.size hl).mono ?_
  rintro e w' ⟨rfl, hf⟩
  exact ⟨rfl, rk_farF h hf (fun k hk => hk)⟩
end
theorem pw_swap {a b c : Value × List UInt8} (h : [b, a, c].Pairwise (fun a b => ∀ k, a.1.ownBlock = some k → ¬ b.1.ownBlock = some k)) : [a, b, c].Pairwise (fun a b => ∀ k, a.1.ownBlock = some k → ¬ b.1.ownBlock = some k) := by
  obtain ⟨d1, d2⟩ := List.pairwise_cons.1 h
  obtain ⟨d3, d4⟩ := List.pairwise_cons.1 d2
  refine List.pairwise_cons.2 ⟨fun q hq => ?_, List.pairwise_cons.2 ⟨fun q hq => d1 q (by simp at hq; simp [hq]), d4⟩⟩
  rcases List.mem_cons.1 hq with rfl | hq
  · exact fun k e e2 => d1 a (by simp) k e2 e
  · exact d3 q hq
theorem mem_swap3 {α : Type} {a b c p : α} (h : p ∈ [a, b, c]) : p ∈ [b, a, c] := by
  rcases List.mem_cons.1 h with rfl | h
  · simp
  · rcases List.mem_cons.1 h with rfl | h
    · simp
    · obtain rfl := List.mem_singleton.1 h
      simp
theorem rk_swap {w W : World} {ps : List (Nat × List Value)} {of : List (Value × FL)} {a b c : Value × List UInt8} (h : RgK w W ps of [b, a, c]) : RgK w W ps of [a, b, c] :=
  ⟨h.bel, h.blk, h.rf, fun p hp => h.rb p (mem_swap3 hp), h.df, pw_swap h.db, h.nf, fun p hp q hq => h.nb p hp q (mem_swap3 hq)⟩
theorem appR_body (D : List UInt8 → Int) (ask fs : FL) (s k : Int) (zr body : List UInt8) (hb : bulkF ask + bulkF fs + body.length ≤ 1048576) : (appR D ask s zr k fs body).2.2.2.2.length ≤ 100000000 := by
  have h8 := rngP_len (getJ ask raN) body.length
  have hin := rngP_in (getJ ask raN) body.length
  unfold appR
  split
  · dsimp only; omega
  · split
    · exact Nat.zero_le _
    · split
      · unfold spanB
        dsimp only
        rw [List.length_take, List.length_drop]
        omega
      · dsimp only
        rw [manyB_is, List.length_append]
        have h3 := h3L_len body (by omega)
        have h4 := flat_len8 (partB fs body) 5000000 (rngP (getJ ask raN) body.length).2 (fun p hp => part_len fs body p (by omega) (hin p hp).1 (hin p hp).2.1 (hin p hp).2.2)
        have h5 : (rngP (getJ ask raN) body.length).2.length * 5000000 ≤ 8 * 5000000 := Nat.mul_le_mul_right _ h8
        omega
set_option maxHeartbeats 8000000 in
set_option maxRecDepth 20000 in
theorem memoryRgW (av : Value) (ask : FL) (s k : Int) (zr : List UInt8) (lv : Value) (fs : FL) (v : Value) (body : List UInt8) (w : World) (ha : HoldsF w av ask) (hv : HoldsF w lv fs) (hB : HoldsB w v body) (hb : bulkF ask + bulkF fs + body.length ≤ 1048576) (hz : zr.length ≤ 1048576) (E : EvD w) (T : Tab w) :
    Calls Tryz.prog 3 #[av, .agg #[.int .i64 s, .string ⟨zr.toArray⟩, .int .i64 k, lv], v] w fun e w' => e = .returned (.bool true) ∧ Below w.heap.size w w' := by
  have fl := bulkF_len fs
  have al := bulkF_len ask
  obtain ⟨l1, l2, l3⟩ := appR_len dtF ask fs s k zr body (by omega) (by omega)
  have lb := appR_body dtF ask fs s k zr body (by omega)
  have c0 := hide' (fun W (h : Below w.heap.size w W) => aliveRg dtF W (parseIs W (evD_below E h)) (applyIs W (evD_below E h) (tab_below T h)))
  have AO := hide' (applyOwn w E T)
  have DQ := hide' ((dtF_spec (getJ fs lmN) (by have := getJ_len fs lmN; omega)).2)
  obtain ⟨r, hr⟩ : ∃ r, r = appR dtF ask s zr k fs body := ⟨_, rfl⟩
  rw [← hr] at l1 l2 l3 lb
  have HR := hide' hr.symm
  clear hr
  obtain ⟨rs, rz, rk, rf, rb⟩ := r
  dsimp only at l1 l2 l3 lb
  obtain ⟨la, lc, _, _, el, -⟩ := holdsF_parts hv
  obtain ⟨aa, ac, _, _, ea, -⟩ := holdsF_parts ha
  obtain ⟨ba, bc, eb, _⟩ := id hB
  subst el ea eb
  have HV := hide' hv
  have HA := hide' ha
  have HB := hide' hB
  have K0 := rk_alloc (w := w) (W := w) (ps := []) (of := []) (ob := []) ⟨Below.refl _ _, fun p hp => (by cases hp), fun p hp => (by cases hp), fun p hp => (by cases hp), List.Pairwise.nil, List.Pairwise.nil, fun p hp => (by cases hp), fun p hp => (by cases hp)⟩ #[.int .i64 s, .string ⟨zr.toArray⟩, .int .i64 k, .slice la fs.length lc] 24
  obtain ⟨g0, hg0⟩ : ∃ g0, g0 = w.heap.size := ⟨_, rfl⟩
  obtain ⟨W1, hW1⟩ : ∃ W1, W1 = w.alloc (.cells #[.int .i64 s, .string ⟨zr.toArray⟩, .int .i64 k, .slice la fs.length lc] 24) := ⟨_, rfl⟩
  have K1 := hide' (show RgK w W1 [(g0, [.int .i64 s, .string ⟨zr.toArray⟩, .int .i64 k, .slice la fs.length lc])] [] [] from by rw [hW1, hg0]; exact K0)
  have HW := hide' hW1
  have HG := hide' hg0
  clear K0 hW1 hg0 ha hv hB E T
  go_enter Tryz.func3, Tryz.ntmps3
  go_upto_region 1 with fail
  rw [← HW.out, ← HG.out]
  go_wp2_with fail
  refine (c0.out _ K1.out.bel).mono ?_
  rintro e w2 ⟨rfl, b2⟩
  have K2 := hide' (rk_below K1.out b2)
  clear b2 K1 HW HG c0
  go_wp2_with fail
  refine (rk_copyB K2.out (holdsB_mono HB.out K2.out.bel) (by omega)).mono ?_
  rintro e w3 ⟨oa, oc, rfl, K3⟩
  clear K2
  obtain ⟨i0, i1, i2, i3, iz⟩ := blk4 (K3.out.blk _ List.mem_cons_self)
  go_wp2_with fail
  refine (rk_copyR K3.out (holdsF_mono HV.out K3.out.bel) (by omega) s k zr).mono ?_
  rintro e w4 ⟨fa, fc, rfl, K4⟩
  clear K3 i0 i1 i2 i3 iz
  have KA := rk_alloc K4.out #[.int .i64 s, .string ⟨zr.toArray⟩, .int .i64 k, .slice fa fs.length fc] 24
  obtain ⟨g4, hg⟩ : ∃ g, g = w4.heap.size := ⟨_, rfl⟩
  obtain ⟨X4, hX⟩ : ∃ X, X = w4.alloc (.cells #[.int .i64 s, .string ⟨zr.toArray⟩, .int .i64 k, .slice fa fs.length fc] 24) := ⟨_, rfl⟩
  rw [← hX, ← hg] at KA
  have M4 := hide' KA
  have HW := hide' hX
  have HG := hide' hg
  clear KA K4 hX hg
  go_upto_region 5 with fail
  rw [← HW.out, ← HG.out]
  clear HW HG
  obtain ⟨i0, i1, i2, i3, iz⟩ := blk4 (M4.out.blk _ List.mem_cons_self)
  go_wp2_with fail
  refine (rk_apply AO.out M4.out (a := .slice aa ask.length ac) (u := .slice fa fs.length fc) (v := .slice oa body.length oc) (holdsF_mono HA.out M4.out.bel) (by simp) (by simp) s k zr (by omega) (by omega) _ HR.out).mono ?_
  rintro e w5 ⟨p, q, x, y, rfl, K5⟩
  clear M4 i0 i1 i2 i3 iz
  dsimp only at K5 ⊢
  have KA := rk_alloc K5.out #[.int .i64 rs, .string ⟨rz.toArray⟩, .int .i64 rk, .slice p rf.length q] 24
  obtain ⟨g5, hg⟩ : ∃ g, g = w5.heap.size := ⟨_, rfl⟩
  obtain ⟨X5, hX⟩ : ∃ X, X = w5.alloc (.cells #[.int .i64 rs, .string ⟨rz.toArray⟩, .int .i64 rk, .slice p rf.length q] 24) := ⟨_, rfl⟩
  rw [← hX, ← hg] at KA
  have M5 := hide' KA
  have HW := hide' hX
  have HG := hide' hg
  clear KA K5 hX hg
  go_upto_region 6 with fail
  rw [← HW.out, ← HG.out]
  clear HW HG
  obtain ⟨i0, i1, i2, i3, iz⟩ := blk4 (M5.out.blk _ (List.mem_cons_of_mem _ List.mem_cons_self))
  go_wp2_with fail
  refine (rk_apply AO.out M5.out (a := .slice aa ask.length ac) (u := .slice fa fs.length fc) (v := .slice oa body.length oc) (holdsF_mono HA.out M5.out.bel) (by simp) (by simp) s k zr (by omega) (by omega) _ HR.out).mono ?_
  rintro e w6 ⟨p2, q2, x2, y2, rfl, K6⟩
  clear M5 i0 i1 i2 i3 iz AO
  dsimp only at K6 ⊢
  have KA := rk_alloc K6.out #[.int .i64 rs, .string ⟨rz.toArray⟩, .int .i64 rk, .slice p2 rf.length q2] 24
  obtain ⟨g6, hg⟩ : ∃ g, g = w6.heap.size := ⟨_, rfl⟩
  obtain ⟨X6, hX⟩ : ∃ X, X = w6.alloc (.cells #[.int .i64 rs, .string ⟨rz.toArray⟩, .int .i64 rk, .slice p2 rf.length q2] 24) := ⟨_, rfl⟩
  rw [← hX, ← hg] at KA
  have M6 := hide' KA
  have HW := hide' hX
  have HG := hide' hg
  clear KA K6 hX hg
  go_upto_region 7 with fail
  rw [← HW.out, ← HG.out]
  clear HW HG
  obtain ⟨i0, i1, i2, i3, iz⟩ := blk4 (M6.out.blk _ (List.mem_cons_of_mem _ (List.mem_cons_of_mem _ (List.mem_cons_of_mem _ List.mem_cons_self))))
  go_wp2_with fail
  refine (rk_ref M6.out (a := .slice aa ask.length ac) (u := .slice la fs.length lc) (v := .slice ba body.length bc) (holdsF_mono HA.out M6.out.bel) (holdsF_mono HV.out M6.out.bel) (holdsB_mono HB.out M6.out.bel) s k zr hb DQ.out _ HR.out).mono ?_
  rintro e w7 ⟨p3, q3, x3, y3, rfl, K7, HD⟩
  clear M6 i0 i1 i2 i3 iz DQ HR
  dsimp only at K7 HD ⊢
  have HD7 := hide' (holdsB_mono HD.out (below_alloc' w7 (.cells #[.int .i64 rs, .string ⟨rz.toArray⟩, .int .i64 rk, .slice p3 rf.length q3] 24)))
  clear HD
  have KA := rk_alloc K7.out #[.int .i64 rs, .string ⟨rz.toArray⟩, .int .i64 rk, .slice p3 rf.length q3] 24
  obtain ⟨g7, hg⟩ : ∃ g, g = w7.heap.size := ⟨_, rfl⟩
  obtain ⟨X7, hX⟩ : ∃ X, X = w7.alloc (.cells #[.int .i64 rs, .string ⟨rz.toArray⟩, .int .i64 rk, .slice p3 rf.length q3] 24) := ⟨_, rfl⟩
  rw [← hX, ← hg] at KA
  rw [← hX] at HD7
  have M7 := hide' KA
  have HW := hide' hX
  have HG := hide' hg
  clear KA K7 hX hg
  go_upto_region 8 with fail
  rw [← HW.out, ← HG.out]
  clear HW HG
  obtain ⟨i0, i1, i2, i3, iz⟩ := blk4 (M7.out.blk _ (List.mem_cons_of_mem _ (List.mem_cons_of_mem _ List.mem_cons_self)))
  obtain ⟨j0, j1, j2, j3, jz⟩ := blk4 (M7.out.blk _ List.mem_cons_self)
  go_wp2_with fail
  refine (rk_sameR M7.out (xs := rf) (holdsF_row (M7.out.rf (.slice p rf.length q, rf) (by simp))) (holdsF_row (M7.out.rf (.slice p3 rf.length q3, rf) (by simp))) (by omega) rs rk rz).mono ?_
  rintro e w8 ⟨rfl, Nw8, b⟩
  have HD8 := hide' (holdsB_mono HD7.out b)
  clear HD7
  clear M7 b i0 i1 i2 i3 iz j0 j1 j2 j3 jz
  obtain ⟨i0, i1, i2, i3, iz⟩ := blk4 (Nw8.out.blk _ (List.mem_cons_of_mem _ List.mem_cons_self))
  obtain ⟨j0, j1, j2, j3, jz⟩ := blk4 (Nw8.out.blk _ List.mem_cons_self)
  go_wp2_with fail
  refine (rk_sameR Nw8.out (xs := rf) (holdsF_row (Nw8.out.rf (.slice p2 rf.length q2, rf) (by simp))) (holdsF_row (Nw8.out.rf (.slice p3 rf.length q3, rf) (by simp))) (by omega) rs rk rz).mono ?_
  rintro e w9 ⟨rfl, Nw9, b⟩
  have HD9 := hide' (holdsB_mono HD8.out b)
  clear HD8
  clear Nw8 b i0 i1 i2 i3 iz j0 j1 j2 j3 jz
  go_wp2_with fail
  refine (rk_sameB Nw9.out (u := .slice x rb.length y) (v := .slice x3 rb.length y3) (xs := rb) (holdsB_row (Nw9.out.rb (.slice x rb.length y, rb) (by simp))) HD9.out (by omega)).mono ?_
  rintro e w10 ⟨rfl, Nw10, b⟩
  have HD10 := hide' (holdsB_mono HD9.out b)
  clear Nw9 b HD9
  go_wp2_with fail
  refine (rk_sameB Nw10.out (u := .slice x2 rb.length y2) (v := .slice x3 rb.length y3) (xs := rb) (holdsB_row (Nw10.out.rb (.slice x2 rb.length y2, rb) (by simp))) HD10.out (by omega)).mono ?_
  rintro e w11 ⟨rfl, Nw11, b⟩
  clear Nw10 b HD10
  have KB := hide' (rk_swap Nw11.out)
  clear Nw11
  go_wp2_with fail
  refine (rk_apart KB.out lb lb (by show body.length ≤ _; omega)).mono ?_
  rintro e w12 ⟨rfl, N12⟩
  clear KB
  obtain ⟨i0, i1, i2, i3, iz⟩ := blk4 (N12.out.blk _ (List.mem_cons_of_mem _ (List.mem_cons_of_mem _ List.mem_cons_self)))
  go_wp2_with fail
  refine (rk_marked N12.out (by omega)).mono ?_
  rintro e w13 ⟨rfl, N13⟩
  clear N12 i0 i1 i2 i3 iz
  obtain ⟨i0, i1, i2, i3, iz⟩ := blk4 (N13.out.blk _ (List.mem_cons_of_mem _ List.mem_cons_self))
  obtain ⟨j0, j1, j2, j3, jz⟩ := blk4 (N13.out.blk _ List.mem_cons_self)
  go_wp2_with fail
  refine (rk_sameR N13.out (xs := rf) (holdsF_row (N13.out.rf (.slice p2 rf.length q2, rf) (by simp))) (holdsF_row (N13.out.rf (.slice p3 rf.length q3, rf) (by simp))) (by omega) rs rk rz).mono ?_
  rintro e w14 ⟨rfl, Nw14, b⟩
  clear N13 b i0 i1 i2 i3 iz j0 j1 j2 j3 jz
  obtain ⟨i0, i1, i2, i3, iz⟩ := blk4 (Nw14.out.blk _ (List.mem_cons_of_mem _ (List.mem_cons_of_mem _ (List.mem_cons_of_mem _ List.mem_cons_self))))
  obtain ⟨j0, j1, j2, j3, jz⟩ := blk4 (Nw14.out.blk _ (List.mem_cons_of_mem _ (List.mem_cons_of_mem _ (List.mem_cons_of_mem _ (List.mem_cons_of_mem _ List.mem_cons_self)))))
  go_wp2_with fail
  refine (rk_sameR Nw14.out (xs := fs) (holdsF_row (Nw14.out.rf (.slice fa fs.length fc, fs) (by simp))) (holdsF_mono HV.out Nw14.out.bel) (by omega) s k zr).mono ?_
  rintro e w15 ⟨rfl, Nw15, b⟩
  clear Nw14 b i0 i1 i2 i3 iz j0 j1 j2 j3 jz
  go_wp2_with fail
  go_ret
  exact ⟨rfl, Nw15.out.bel⟩
end Go.Proofs.YtipcmbonhkelbabGreatDoor
