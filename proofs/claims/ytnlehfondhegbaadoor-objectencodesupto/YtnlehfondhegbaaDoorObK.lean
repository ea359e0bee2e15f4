/- The contracts of bytes.Equal and object.Decode. -/
import Derived.Test.YtnlehfondhegbaaDoorObJ
import Derived.Test.YtnlehfondhegbaaDoorObF
namespace Go.Proofs.YtnlehfondhegbaaDoor
open Go.RowKit
theorem lineR_rl (l : List UInt8) : (lineR l).1.r.length ≤ l.length := by
  unfold lineR
  have h1 := past_len l
  have h2 := past_len (past l)
  split
  · exact Nat.zero_le _
  · split
    · split
      · show (past (past l)).length ≤ _; omega
      · exact Nat.zero_le _
    · exact Nat.zero_le _
theorem resp_sizes (b : List UInt8) : (respOf b).1.fs.length ≤ 100 ∧ (printOf (respOf b).1.fs).length ≤ 2 * b.length ∧ (respOf b).1.r.length ≤ b.length := by
  unfold respOf
  split
  · exact ⟨Nat.zero_le _, Nat.zero_le _, Nat.zero_le _⟩
  · generalize (endOf b 0).1 = n
    have hh : (headH b 0 n).length ≤ b.length := by unfold headH; rw [List.length_drop, List.length_take]; omega
    have hb : (blkH (headH b 0 n)).length ≤ b.length := by unfold blkH; rw [List.length_drop]; omega
    have hl : (lineH (headH b 0 n)).length ≤ b.length := by unfold lineH; rw [List.length_take]; omega
    have h1 := parse_len (blkH (headH b 0 n))
    have h2 := parse_plen (blkH (headH b 0 n))
    have h3 := lineR_rl (lineH (headH b 0 n))
    unfold respG
    split
    · exact ⟨Nat.zero_le _, Nat.zero_le _, Nat.zero_le _⟩
    · split
      · exact ⟨Nat.zero_le _, Nat.zero_le _, Nat.zero_le _⟩
      · exact ⟨h1, Nat.le_trans h2 (by omega), Nat.le_trans h3 hl⟩
theorem fit_of {fs : FL} {n : Nat} (h : (printOf fs).length ≤ n) (hn : n ≤ 1000000000) : Fit fs := by
  intro f hf
  have := print_mem fs f hf
  omega
theorem read_sizes {bs : List UInt8} {en : En} (h : readE bs = some en) (hl : bs.length ≤ 100000) : en.key.length ≤ 100000 ∧ en.vary.length ≤ 100000 ∧ en.body.length ≤ 100000 ∧ en.r.fs.length ≤ 100 ∧ (printOf en.r.fs).length ≤ 200000 ∧ en.r.r.length ≤ 100000 := by
  unfold readE at h
  split at h
  · cases h
  · cases h2 : secsN 5 (bs.drop 3) with
    | none => rw [h2] at h; cases h
    | some p =>
      obtain ⟨ds, r⟩ := p
      rw [h2] at h
      have h' : entR ds = some en := h
      obtain ⟨i1, -⟩ := secsN_lens 5 h2
      have hd : (bs.drop 3).length ≤ 100000 := by rw [List.length_drop]; omega
      have L := fun i => getD_len i1 i
      unfold entR at h'
      split at h'
      · obtain rfl := Option.some.inj h'
        have h3 := resp_sizes (ds.getD 2 [])
        have a0 := L 0
        have a1 := L 1
        have a2 := L 2
        have a3 := L 3
        exact ⟨by show (ds.getD 0 []).length ≤ 100000; omega, by show (ds.getD 1 []).length ≤ 100000; omega, by show (ds.getD 3 []).length ≤ 100000; omega, h3.1, by show (printOf (respOf (ds.getD 2 [])).1.fs).length ≤ 200000; omega, by show (respOf (ds.getD 2 [])).1.r.length ≤ 100000; omega⟩
      · cases h'
/-- an entry's block -/
def entO (en : En) (la : Option Addr) (lc : Nat) (ba : Option Addr) (bc : Nat) : Obj := .cells #[.string ⟨en.key.toArray⟩, .string ⟨en.vary.toArray⟩, .int .i64 en.r.s, .string ⟨en.r.r.toArray⟩, .int .i64 en.r.k, .slice la en.r.fs.length lc, .slice ba en.body.length bc, .int .i64 en.a, .int .i64 en.g] 27
/-- what Decode tells -/
def DecA (w : World) (D : En × Int) (e : Ending) (w' : World) : Prop :=
  ∃ lv bv, e = .returned (.tuple #[entV D.1 lv bv, .int .i64 D.2]) ∧ OwnF w lv D.1.r.fs w' ∧ Own w bv D.1.body w'
theorem decA_none {w w' : World} (hb : Below w.heap.size w w') : DecA w (En.zero, 120) (.returned (.tuple #[ezV, .int .i64 120])) w' :=
  ⟨.slice none 0 0, .slice none 0 0, rfl, ownF_nil _ _ hb, own_nil _ _ hb⟩
theorem dec_rd0 {l : List UInt8} (h : readE l = none) : decO l = (En.zero, 120) := by unfold decO; rw [h]; rfl
theorem dec_rd1 {l : List UInt8} {e : En} (h : readE l = some e) (h2 : objOf e = (l, 0)) : decO l = (e, 0) := by unfold decO; rw [h]; exact if_pos h2
theorem dec_rd2 {l : List UInt8} {e : En} (h : readE l = some e) (h2 : ¬ objOf e = (l, 0)) : decO l = (En.zero, 120) := by unfold decO; rw [h]; exact if_neg h2
end Go.Proofs.YtnlehfondhegbaaDoor
