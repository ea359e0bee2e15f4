/- Worlds that tell less: what is read in one is read in those that tell more; the blocks of one owner hidden; who owns which block. -/
import Derived.Test.YtikkmnclcbanfaaCelB
import Derived.Maps.OwnSet
namespace Go.Proofs.Ytikkmnclcbanfaa
open Go.RowKit
/-- what M tells, W tells -/
structure Sub (M W : World) : Prop where
  size : M.heap.size ≤ W.heap.size
  cell : ∀ a v, M.cell? a = some v → W.cell? a = some v
theorem Sub.refl (W : World) : Sub W W := ⟨Nat.le_refl _, fun _ _ h => h⟩
theorem Sub.trans {A B C : World} (h : Sub A B) (k : Sub B C) : Sub A C := ⟨Nat.le_trans h.size k.size, fun a v e => k.cell a v (h.cell a v e)⟩
theorem cell_lt {W : World} {a : Addr} {v : Value} (h : W.cell? a = some v) : a.block < W.heap.size := by
  rcases Nat.lt_or_ge a.block W.heap.size with h1 | h1
  · exact h1
  · unfold World.cell? at h
    rw [Array.getElem?_eq_none h1] at h
    cases h
theorem sub_blocks {M W : World} (hs : M.heap.size ≤ W.heap.size) (h : ∀ k, k < M.heap.size → W.heap[k]? = M.heap[k]?) : Sub M W :=
  ⟨hs, fun a v e => by rw [World.cell?_of_block (w := M) (h _ (cell_lt e))]; exact e⟩
theorem sub_below {M W : World} (h : Below M.heap.size M W) : Sub M W := sub_blocks h.size h.block
open Classical in
/-- the world with the blocks of S hidden -/
noncomputable def mask (S : Nat → Prop) (W : World) : World := { W with heap := W.heap.mapIdx (fun i o => if S i then .cells #[] 0 else o) }
theorem mask_size (S : Nat → Prop) (W : World) : (mask S W).heap.size = W.heap.size := by unfold mask; simp
theorem mask_block {S : Nat → Prop} (W : World) {k : Nat} (h : ¬ S k) : (mask S W).heap[k]? = W.heap[k]? := by
  unfold mask
  simp only [Array.getElem?_mapIdx, h, if_false]
  cases W.heap[k]? <;> rfl
theorem mask_hid {S : Nat → Prop} (W : World) {a : Addr} (h : S a.block) : (mask S W).cell? a = none := by
  unfold World.cell? mask
  simp only [Array.getElem?_mapIdx, h, if_true]
  cases W.heap[a.block]? with
  | none => rfl
  | some o => simp
theorem mask_cell {S : Nat → Prop} (W : World) {a : Addr} (h : ¬ S a.block) : (mask S W).cell? a = W.cell? a := World.cell?_of_block (mask_block W h)
theorem mask_not {S : Nat → Prop} {W : World} {a : Addr} {v : Value} (h : (mask S W).cell? a = some v) : ¬ S a.block := fun hs => by rw [mask_hid W hs] at h; cases h
theorem mask_sub (S : Nat → Prop) (W : World) : Sub (mask S W) W := ⟨by rw [mask_size]; exact Nat.le_refl _, fun a v h => by rw [← mask_cell W (mask_not h)]; exact h⟩
/-- blocks that are as they were, but for those of S -/
structure Off (S : Nat → Prop) (W W' : World) : Prop where
  os : W'.os = W.os
  tape : W'.tape = W.tape
  output : W'.output = W.output
  size : W.heap.size ≤ W'.heap.size
  block : ∀ k, k < W.heap.size → ¬ S k → W'.heap[k]? = W.heap[k]?
theorem Off.refl (S : Nat → Prop) (W : World) : Off S W W := ⟨rfl, rfl, rfl, Nat.le_refl _, fun _ _ _ => rfl⟩
theorem off_of {S : Nat → Prop} {W W' : World} (h : Below W.heap.size W W') : Off S W W' := ⟨h.os, h.tape, h.output, h.size, fun k hk _ => h.block k hk⟩
theorem off_grown {S : Nat → Prop} {W W' : World} {row : Option Nat} (h : W.grownBy W' row) (hr : ∀ k, row = some k → S k) : Off S W W' :=
  ⟨h.os, h.tape, h.output, h.size, fun k hk hn => h.block k hk (fun e => hn (hr k e.symm))⟩
theorem off_poke {S : Nat → Prop} {W : World} (a : Addr) (h : S a.block) (u : Value) : Off S W (W.setCell a u) :=
  ⟨rfl, rfl, rfl, by simp [World.setCell], fun k _ hn => Below.heap_setCell _ _ _ _ (fun e => hn (by rw [e]; exact h))⟩
theorem off_alloc {S : Nat → Prop} {W : World} (o : Obj) : Off S W (W.alloc o) := off_of ((Below.refl _ _).alloc (Nat.le_refl _) _)
theorem Off.trans {S S' : Nat → Prop} {A B C : World} (h : Off S A B) (k : Off S' B C) (hS : ∀ i, S' i → S i ∨ A.heap.size ≤ i) : Off S A C :=
  ⟨k.os.trans h.os, k.tape.trans h.tape, k.output.trans h.output, Nat.le_trans h.size k.size, fun i hi hn => by
    rw [k.block i (Nat.lt_of_lt_of_le hi h.size) (fun e => by rcases hS i e with h1 | h1; exact hn h1; omega)]
    exact h.block i hi hn⟩
theorem Off.mono {S T : Nat → Prop} {A B : World} (h : Off S A B) (hS : ∀ i, S i → T i) : Off T A B := ⟨h.os, h.tape, h.output, h.size, fun k hk hn => h.block k hk (fun e => hn (hS k e))⟩
theorem Off.below {S : Nat → Prop} {W W' : World} (h : Off S W W') {C : Nat} (hC : C ≤ W.heap.size) (hS : ∀ k, S k → C ≤ k) : Below C W W' :=
  ⟨h.os, h.tape, h.output, h.size, fun k hk => h.block k (by omega) (fun e => by have := hS k e; omega)⟩
theorem off_mask {S S' : Nat → Prop} {W W' : World} (h : Off S W W') (hS : ∀ k, S' k → S k ∨ W.heap.size ≤ k) : Sub (mask S W) (mask S' W') := by
  refine ⟨by rw [mask_size, mask_size]; exact h.size, fun a v e => ?_⟩
  have h1 := mask_not e
  rw [mask_cell W h1] at e
  have h2 := cell_lt e
  have h3 : ¬ S' a.block := fun e3 => by rcases hS _ e3 with h4 | h4; exact h1 h4; omega
  rw [mask_cell W' h3, World.cell?_of_block (w := W) (h.block _ h2 h1)]
  exact e
/-- what is new in W' is told by every mask that hides old blocks alone -/
theorem new_mask {S : Nat → Prop} {W' : World} {n : Nat} (hS : ∀ k, S k → k < n) : Sub (mask (fun k => k < n) W') (mask S W') :=
  ⟨by rw [mask_size, mask_size]; exact Nat.le_refl _, fun a v e => by
    have h1 := mask_not e
    rw [mask_cell W' h1] at e
    rw [mask_cell W' (fun h => h1 (hS _ h))]
    exact e⟩
theorem mask_mono {S T : Nat → Prop} {W : World} (h : ∀ k, S k → T k) : Sub (mask T W) (mask S W) :=
  ⟨by rw [mask_size, mask_size]; exact Nat.le_refl _, fun a v e => by
    have h1 := mask_not e
    rw [mask_cell W h1] at e
    rw [mask_cell W (fun k => h1 (h _ k))]
    exact e⟩
theorem new_old {A B : World} {n m : Nat} (hb : ∀ k, k < A.heap.size → ¬ k < n → B.heap[k]? = A.heap[k]?) (hs : A.heap.size ≤ B.heap.size) (hm : m ≤ n) : Sub (mask (fun k => k < n) A) (mask (fun k => k < m) B) :=
  ⟨by rw [mask_size, mask_size]; exact hs, fun a v e => by
    have h1 := mask_not e
    rw [mask_cell A h1] at e
    rw [mask_cell B (fun k => h1 (by omega)), World.cell?_of_block (w := A) (hb _ (cell_lt e) h1)]
    exact e⟩
/-! who owns a block -/
inductive Role where
  | disk | fails | seen | safe | pend | cap
  | file (i : Nat)
  | row (i : Nat)
deriving DecidableEq
abbrev Ow := Nat → Option Role
def Ow.has (o : Ow) (k : Nat) : Prop := o k ≠ none
def Ow.set (o : Ow) (b : Nat) (r : Role) : Ow := fun k => if k = b then some r else o k
theorem set_same (o : Ow) (b : Nat) (r : Role) : o.set b r b = some r := by unfold Ow.set; rw [if_pos rfl]
theorem set_other (o : Ow) {b k : Nat} (r : Role) (h : k ≠ b) : o.set b r k = o k := by unfold Ow.set; rw [if_neg h]
theorem ow_ne {o : Ow} {a b : Nat} {r t : Role} (ha : o a = some r) (hb : o b = some t) (h : r ≠ t) : a ≠ b := fun e => h (by rw [e, hb] at ha; exact (Option.some.inj ha).symm)
theorem has_of {o : Ow} {k : Nat} {r : Role} (h : o k = some r) : o.has k := fun e => by rw [h] at e; cases e
/-- the blocks of the roles R are as they were -/
structure Same (o : Ow) (R : Role → Prop) (W W' : World) : Prop where
  size : W.heap.size ≤ W'.heap.size
  block : ∀ k r, o k = some r → R r → W'.heap[k]? = W.heap[k]?
theorem same_off {o : Ow} {R : Role → Prop} {S : Nat → Prop} {W W' : World} (h : Off S W W') (hlt : ∀ k, o.has k → k < W.heap.size) (hS : ∀ k r, S k → o k = some r → ¬ R r) : Same o R W W' :=
  ⟨h.size, fun k r e hr => h.block k (hlt k (has_of e)) (fun hs => hS k r hs e hr)⟩
theorem same_below {o : Ow} {R : Role → Prop} {W W' : World} (h : Below W.heap.size W W') (hlt : ∀ k, o.has k → k < W.heap.size) : Same o R W W' := ⟨h.size, fun k _ e _ => h.block k (hlt k (has_of e))⟩
theorem same_grown {o : Ow} {W W' : World} {b : Nat} {r0 : Role} (h : W.grownBy W' (some b)) (hlt : ∀ k, o.has k → k < W.heap.size) (hb : o b = some r0) : Same o (fun r => r ≠ r0) W W' :=
  ⟨h.size, fun k r e hr => h.block k (hlt k (has_of e)) (fun e2 => by cases e2; rw [hb] at e; exact hr (Option.some.inj e).symm)⟩
theorem same_new {o : Ow} {R : Role → Prop} {W W' : World} {b : Nat} (h : W.grownBy W' (some b)) (hlt : ∀ k, o.has k → k < W.heap.size) (hb : W.heap.size ≤ b ∨ o b = none) : Same o R W W' :=
  ⟨h.size, fun k _ e _ => h.block k (hlt k (has_of e)) (fun e2 => by
    have e3 : k = b := Option.some.inj e2
    subst e3
    rcases hb with hb | hb
    · have := hlt k (has_of e); omega
    · rw [hb] at e; cases e)⟩
theorem same_poke {o : Ow} {W : World} {b j : Nat} {r0 : Role} (hb : o b = some r0) (u : Value) : Same o (fun r => r ≠ r0) W (W.setCell ⟨b, j, none⟩ u) :=
  ⟨by simp [World.setCell], fun k r e hr => Below.heap_setCell _ _ _ _ (fun e2 => by subst e2; rw [hb] at e; exact hr (Option.some.inj e).symm)⟩
theorem Same.mono {o : Ow} {R R' : Role → Prop} {W W' : World} (h : Same o R W W') (hR : ∀ r, R' r → R r) : Same o R' W W' := ⟨h.size, fun k r e hr => h.block k r e (hR r hr)⟩
theorem Same.trans {o : Ow} {R : Role → Prop} {A B C : World} (h : Same o R A B) (k : Same o R B C) : Same o R A C := ⟨Nat.le_trans h.size k.size, fun i r e hr => (k.block i r e hr).trans (h.block i r e hr)⟩
theorem blk_same {o : Ow} {R : Role → Prop} {W W' : World} {b : Nat} {r : Role} {vs : List Value} (h : Blk b W vs) (hs : Same o R W W') (hb : o b = some r) (hr : R r) : Blk b W' vs :=
  ⟨fun j hj => ⟨by rw [World.cell?_of_block (w := W) (a := ⟨b, j, none⟩) (hs.block b r hb hr)]; exact (h.1 j hj).1, by rw [World.frozen?_of_block (w := W) (a := ⟨b, j, none⟩) (hs.block b r hb hr)]; exact (h.1 j hj).2⟩, Nat.lt_of_lt_of_le h.2 hs.size⟩
theorem map_same {H : Type} {o : Ow} {R : Role → Prop} {W W' : World} {b n : Nat} {r : Role} {P : Program} {k : TypeId} {E : Value → Option (DataW H × List MemPlace)} {D : DataW H} (h : W.ownsMap P k E b n D) (hs : Same o R W W') (hb : o b = some r) (hr : R r) : W'.ownsMap P k E b n D := by
  obtain ⟨es, clock, hh, F, hn, hD⟩ := h
  exact ⟨es, clock, by rw [hs.block b r hb hr]; exact hh, F, hn, hD⟩
theorem row_same {o : Ow} {R : Role → Prop} {W W' : World} {base k n : Nat} {r : Role} {t : TypeId} {v : Value} {cs : List Value} (h : W.ownsRow base t k v n cs) (hs : Same o R W W') (hb : ∀ b, v.ownBlock = some b → o b = some r) (hr : R r) : W'.ownsRow base t k v n cs := by
  obtain ⟨hl, h1 | ⟨x, cap, cur, hv, hx, hh, hrr⟩⟩ := h
  · exact ⟨hl, .inl h1⟩
  · refine ⟨hl, .inr ⟨x, cap, cur, hv, hx, ?_, hrr⟩⟩
    rw [hs.block x r (hb x (by rw [hv]; rfl)) hr]
    exact hh
end Go.Proofs.Ytikkmnclcbanfaa
