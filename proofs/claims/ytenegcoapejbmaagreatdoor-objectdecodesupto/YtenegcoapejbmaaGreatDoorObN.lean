/- Sizes of an entry that is right; what a law's walk over entries needs besides. -/
import Derived.Test.YtenegcoapejbmaaGreatDoorObK
import Derived.Test.YtenegcoapejbmaaGreatDoorObL
import Derived.Test.YtenegcoapejbmaaGreatDoorObM
namespace Go.Proofs.YtenegcoapejbmaaGreatDoor
open Go.RowKit
theorem obj_sizes {e : En} {l : List UInt8} (h : objOf e = (l, 0)) : e.r.fs.length ≤ 100 ∧ (printOf e.r.fs).length ≤ 8192 ∧ e.r.r.length ≤ 8192 ∧ e.key.length ≤ 4096 ∧ e.vary.length ≤ 4096 ∧ e.body.length ≤ 65536 := by
  obtain ⟨h1, h2, -⟩ := obj_ok h
  have hw := within_facts h1
  have hp : (prR e.r).2 = 0 := by rw [h2]
  unfold prR at hp
  split at hp
  · cases hp
  · split at hp
    · cases hp
    · obtain ⟨q1, q2, -⟩ := whole_parts (line := lineS e.r) (fs := e.r.fs) (w := (wholeP (lineS e.r) e.r.fs).1) (Prod.ext rfl hp)
      obtain ⟨q3, -⟩ := printP_parts e.r.fs q1
      rw [q3] at q2
      have q4 : e.r.r.length ≤ (lineS e.r).length := by unfold lineS; simp only [List.length_append, List.length_cons]; omega
      have q5 : e.r.fs.length ≤ 100 := by
        unfold printP at q1
        split at q1
        · cases q1
        · split at q1
          · cases q1
          · omega
      exact ⟨q5, by omega, by omega, hw.2.1, hw.2.2.1, hw.2.2.2.1⟩
/-- an entry's bounds, as the calls want them -/
structure Bnd (e : En) : Prop where
  fit : Fit e.r.fs
  n : e.r.fs.length ≤ 2000000
  p : (printOf e.r.fs).length ≤ 8000000
  r : e.r.r.length ≤ 10000000
  k : e.key.length ≤ 1000000000000
  v : e.vary.length ≤ 1000000000000
  b : e.body.length ≤ 1000000000000
theorem bnd_obj {e : En} {l : List UInt8} (h : objOf e = (l, 0)) : Bnd e := by
  obtain ⟨h1, h2, h3, h4, h5, h6⟩ := obj_sizes h
  exact ⟨fit_of h2 (by decide), by omega, by omega, by omega, by omega, by omega, by omega⟩
theorem bulk_count : ∀ fs : FL, fs.length ≤ bulkF fs := by
  intro fs
  induction fs with
  | nil => exact Nat.zero_le _
  | cons f fs ih => simp only [bulkF, List.length_cons]; omega
theorem bnd_of {e : En} {n : Nat} (h : e.key.length + e.vary.length + e.r.r.length + bulkF e.r.fs + e.body.length + 5 ≤ n) (hn : n ≤ 1048576) : Bnd e := by
  have h1 := print_bulk e.r.fs
  have h2 := bulk_count e.r.fs
  exact ⟨fit_of (n := 2097152) (by omega) (by decide), by omega, by omega, by omega, by omega, by omega, by omega⟩
theorem encB {e : En} (B : Bnd e) (lv bv : Value) (w : World) (hF : HoldsF w lv e.r.fs) (hB : HoldsB w bv e.body) (T : Tab w) :
    Calls Tryz.prog 10 #[entV e lv bv] w fun x w' => ∃ u, x = .returned (.tuple #[u, .int .i64 (objOf e).2]) ∧ Own w u (objOf e).1 w' :=
  encOC e lv bv w hF hB T B.fit B.n (Nat.le_trans B.p (by decide)) B.r B.k B.v B.b
theorem sameEB {e : En} (B : Bnd e) (lva lvb bva bvb : Value) (w : World) (hFa : HoldsF w lva e.r.fs) (hFb : HoldsF w lvb e.r.fs) (hBa : HoldsB w bva e.body) (hBb : HoldsB w bvb e.body) :
    Calls Tryz.prog 8 #[entV e lva bva, entV e lvb bvb] w fun x w' => x = .returned (.bool true) ∧ Below w.heap.size w w' :=
  sameEC e lva lvb bva bvb w hFa hFb hBa hBb B.n (Nat.le_trans B.b (by decide))
end Go.Proofs.YtenegcoapejbmaaGreatDoor
