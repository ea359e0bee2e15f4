/- A piece put in, the next message asked for: what holds between two pieces is kept. -/
import Derived.Test.YtmikgpmnffdnnaaGreatDoorPc
namespace Go.Proofs.YtmikgpmnffdnnaaGreatDoor
open Go.RowKit
theorem fed {g : Nat} {w4 : World} {N : Nat} {rv : Value} {rb held p left : List UInt8} {wr wr' : World} (h : PcI g w4 N rv rb held 0 (p ++ left) wr) (hb : BoxP g w4.heap.size (.func (.func 11) #[] #[]) (held ++ p) 0 wr') (hk : BelowBut g w4.heap.size wr wr') : PcI g w4 N rv rb (held ++ p) 0 left wr' := by
  obtain ⟨h1, h2, h3, h4, h5, h6⟩ := h
  have h7 := ps_feed h2
  refine ⟨h1, h7, hb, h4.trans hk, h5, ?_⟩
  rcases h7 with ⟨_, e⟩ | ⟨e, _⟩
  · have := congrArg List.length e
    rw [List.length_append] at this
    omega
  · exact absurd rfl e
theorem feedAny (g : Nat) (w4 : World) (N : Nat) (hN : N ≤ 1048576) (rv v : Value) (rb held p left : List UInt8) (er : Int) (wr : World) (h : PcI g w4 N rv rb held er (p ++ left) wr) (hv : HoldsB wr v p) :
    Calls Tryz.prog 22 #[.pointer (some ⟨g, 0, none⟩), v] wr fun e W' => e = .returned (.tuple #[]) ∧ ∃ held', Hid (PcI g w4 N rv rb held' er left W') := by
  by_cases he : er = 0
  · subst he
    have hp : p.length ≤ N := by
      rcases h.2.1 with ⟨_, e⟩ | ⟨e, _⟩
      · have := congrArg List.length e
        rw [List.length_append, List.length_append] at this
        have := h.2.2.2.2.1
        omega
      · exact absurd rfl e
    have hh := h.2.2.2.2.2
    refine (feedM g w4.heap.size 11 held p v wr h.2.2.1 hv (by omega)).mono ?_
    rintro e W' ⟨rfl, hb, hk⟩
    exact ⟨rfl, held ++ p, fed h hb hk⟩
  · refine (feedBadM g w4.heap.size 11 held er he v p wr h.2.2.1 hv).mono ?_
    rintro e W' ⟨rfl, rfl⟩
    obtain ⟨h1, h2, h3, h4, h5, h6⟩ := h
    exact ⟨rfl, held, h1, ps_bad h2 he, h3, h4, h5, h6⟩
theorem nextAny (g : Nat) (w4 : World) (N : Nat) (hN : N ≤ 1048576) (rv : Value) (rb held left : List UInt8) (er : Int) (wr : World) (h : PcI g w4 N rv rb held er left wr) (E : Env wr) (R : Er wr) :
    Calls Tryz.prog 23 #[.pointer (some ⟨g, 0, none⟩)] wr fun e W' =>
      (∃ er', e = .returned (.tuple #[mzV, .bool false, .int .i64 er']) ∧ Hid (PcI g w4 N rv rb held er' left W') ∧ Hid (er' = 0 → eQ held = 0 ∧ nQ held = 0) ∧ Hid (er ≠ 0 → er' = er) ∧ Hid (er = 0 → er' = eQ held)) ∨
      (er = 0 ∧ ∃ lv bv tv, e = .returned (.tuple #[mqV (msgQ held).1 lv bv tv, .bool true, .int .i64 0]) ∧ Hid (MsgQ W' lv bv tv (msgQ held)) ∧ 0 < nQ held ∧ eQ held = 0 ∧ Hid (msgQ rb = msgQ held) ∧ nQ held ≤ rb.length ∧ Hid (BelowBut g w4.heap.size w4 W') ∧ Hid (∀ rv', HoldsN g w4 rv' (rb.drop (nQ held)) → PcI g w4 N rv' (rb.drop (nQ held)) (held.drop (nQ held)) 0 left W')) := by
  have hh := h.2.2.2.2.2
  by_cases he : er = 0
  · subst he
    have hw := h.2.2.2.1.size
    refine (nextM g w4.heap.size held wr h.2.2.1 E R (by omega)).mono ?_
    rintro e W' ⟨hb, h1 | h1 | h1⟩
    · obtain ⟨h2, rfl, h3⟩ := h1
      obtain ⟨g1, g2, g3, g4, g5, g6⟩ := h
      obtain ⟨q1, q2⟩ := ps_told_bad g2 h2
      exact .inl ⟨_, rfl, ⟨g1, q1, h3, g4.trans (hb.mono hw), g5, g6⟩, fun e => absurd e h2, fun e => absurd rfl e, fun _ => rfl⟩
    · obtain ⟨h2, h3, rfl, h4⟩ := h1
      obtain ⟨g1, g2, g3, g4, g5, g6⟩ := h
      exact .inl ⟨0, rfl, ⟨g1, g2, h4, g4.trans (hb.mono hw), g5, g6⟩, fun _ => ⟨h2, h3⟩, fun e => absurd rfl e, fun _ => h2.symm⟩
    · obtain ⟨h2, h3, lv, bv, tv, rfl, h4, h5⟩ := h1
      obtain ⟨g1, g2, g3, g4, g5, g6⟩ := h
      obtain ⟨q1, q2, q3⟩ := ps_told g2 h3
      have hrl : held.length ≤ rb.length := by
        rcases g2 with ⟨_, e⟩ | ⟨e, _⟩
        · rw [e, List.length_append]; omega
        · exact absurd rfl e
      refine .inr ⟨rfl, lv, bv, tv, rfl, h4, h3, h2, q1, by omega, g4.trans (hb.mono hw), fun rv' hr => ⟨hr, q3, h5, g4.trans (hb.mono hw), by rw [List.length_drop]; omega, by rw [List.length_drop]; omega⟩⟩
  · refine (nextBadM g w4.heap.size held er he wr h.2.2.1).mono ?_
    rintro e W' ⟨rfl, hb⟩
    exact .inl ⟨er, rfl, pci_but h hb, fun e => absurd e he, fun _ => rfl, fun e => absurd e he⟩
end Go.Proofs.YtmikgpmnffdnnaaGreatDoor
