/- The contract of object.readEntry. -/
import Derived.Test.YtnlehfondhegbaaDoorObI
import Derived.Test.YtnlehfondhegbaaDoorHdR
import Derived.Test.YtnlehfondhegbaaDoorBcl
import Derived.Deep.RegionHeld3
import Derived.Deep.RegionHeldLaw
namespace Go.Proofs.YtnlehfondhegbaaDoor
open Go.RowKit
theorem cells_4 {b : Nat} {W : World} {v0 v1 v2 v3 : Value} (h : Blk b W [v0, v1, v2, v3]) : (W.cell? ⟨b, 0, none⟩ = some v0 ∧ W.cell? ⟨b, 1, none⟩ = some v1 ∧ W.cell? ⟨b, 2, none⟩ = some v2 ∧ W.cell? ⟨b, 3, none⟩ = some v3) :=
  ⟨(h.1 0 (by simp)).1, (h.1 1 (by simp)).1, (h.1 2 (by simp)).1, (h.1 3 (by simp)).1⟩
theorem blk_putO {b c : Nat} (hne : b ≠ c) {vs : List Value} : ∀ (us : List Value) (o : Nat) (W : World), Blk b W vs → Blk b (putFrom c o W us) vs := by
  intro us
  induction us with
  | nil => intro o W h; exact h
  | cons u us ih => intro o W h; exact ih (o + 1) _ (cells_other h hne u)
def ezV : Value := .agg #[.string ⟨#[]⟩, .string ⟨#[]⟩, .int .i64 0, .string ⟨#[]⟩, .int .i64 0, .slice none 0 0, .slice none 0 0, .int .i64 0, .int .i64 0]
/-- what readEntry tells -/
def ReadA (w : World) (bs : List UInt8) (e : Ending) (w' : World) : Prop :=
  Below w.heap.size w w' ∧ ((readE bs = none ∧ e = .returned (.tuple #[ezV, .bool false])) ∨
    ∃ en lv bv, readE bs = some en ∧ e = .returned (.tuple #[entV en lv bv, .bool true]) ∧ OwnF w lv en.r.fs w' ∧ Own w bv en.body w')
theorem read_no1 {bs : List UInt8} (h : bs.length < 3 ∨ secsN 5 (bs.drop 3) = none) : readE bs = none := by
  unfold readE
  rcases h with h | h
  · rw [if_pos h]
  · split
    · rfl
    · rw [h]; rfl
theorem read_is {bs : List UInt8} {ds : List (List UInt8)} {r : List UInt8} (hl : 3 ≤ bs.length) (h : secsN 5 (bs.drop 3) = some (ds, r)) : readE bs = entR ds := by
  unfold readE
  rw [if_neg (by omega), h]; rfl
theorem ent_no1 {ds : List (List UInt8)} (h : (ds.getD 4 []).length ≠ 16) : entR ds = none := by unfold entR; rw [if_neg (fun g => h g.1)]
theorem ent_no2 {ds : List (List UInt8)} (h : (respOf (ds.getD 2 [])).2.2 ≠ 0) : entR ds = none := by unfold entR; rw [if_neg (fun g => h g.2)]
theorem ent_yes {ds : List (List UInt8)} (h : (ds.getD 4 []).length = 16) (h2 : (respOf (ds.getD 2 [])).2.2 = 0) : entR ds = some ⟨ds.getD 0 [], ds.getD 1 [], (respOf (ds.getD 2 [])).1, ds.getD 3 [], num8 ((ds.getD 4 []).take 8), num8 ((ds.getD 4 []).drop 8)⟩ := by unfold entR; rw [if_pos ⟨h, h2⟩]
theorem secR_len {l d r : List UInt8} (h : secR l = some (d, r)) : d.length ≤ l.length ∧ r.length ≤ l.length := by
  unfold secR at h
  split at h
  · cases h
  · split at h
    · cases h
    · obtain ⟨rfl, rfl⟩ := Prod.mk.inj (Option.some.inj h)
      unfold midN
      rw [List.length_take, List.length_drop, List.length_drop]
      omega
theorem secsN_lens (k : Nat) {l : List UInt8} {ds : List (List UInt8)} {r : List UInt8} (h : secsN k l = some (ds, r)) : (∀ d ∈ ds, d.length ≤ l.length) ∧ r.length ≤ l.length := by
  induction k generalizing ds r with
  | zero =>
    obtain ⟨rfl, rfl⟩ := Prod.mk.inj (Option.some.inj h)
    exact ⟨fun d hd => absurd hd (List.not_mem_nil), Nat.le_refl _⟩
  | succ k ih =>
    unfold secsN at h
    cases h1 : secsN k l with
    | none => rw [h1] at h; cases h
    | some p =>
      obtain ⟨ds1, r1⟩ := p
      rw [h1] at h
      simp only [Option.bind_some] at h
      obtain ⟨i1, i2⟩ := ih h1
      cases h2 : secR r1 with
      | none => rw [h2] at h; cases h
      | some q =>
        obtain ⟨d, r2⟩ := q
        rw [h2] at h
        simp only [Option.map_some, Option.some.injEq, Prod.mk.injEq] at h
        obtain ⟨rfl, rfl⟩ := h
        have := secR_len h2
        refine ⟨fun x hx => ?_, by omega⟩
        rcases List.mem_append.1 hx with hx | hx
        · exact i1 x hx
        · obtain rfl := List.mem_singleton.1 hx; omega
theorem getD_len {ds : List (List UInt8)} {n : Nat} (h : ∀ d ∈ ds, d.length ≤ n) (i : Nat) : (ds.getD i []).length ≤ n := by
  rw [List.getD_eq_getElem?_getD]
  cases hh : ds[i]? with
  | none => exact Nat.zero_le _
  | some d => exact h d (List.mem_of_getElem? hh)
end Go.Proofs.YtnlehfondhegbaaDoor
