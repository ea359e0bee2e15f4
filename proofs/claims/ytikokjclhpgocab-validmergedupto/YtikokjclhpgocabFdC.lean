/- The contract of CopyTexts. -/
import Derived.Test.YtikokjclhpgocabBm
namespace Go.Proofs.Ytikokjclhpgocab
open Go.RowKit
theorem appAllS {ops : Array Oper} {rest : List Oper} {o : Oper} {a : Act} {Q : Exit → Act → World → Prop} {wr : World} (hgd : o.guard = none) (s z : Operand)
    (ho : o.op = .call { callee := .builtin .append, args := #[s, z], argTypes := #[27, 27] }) (w0 : World) (v : Value) (ps : List (List UInt8)) (hs : a.eval s = v) (hown : OwnS w0 v ps wr)
    (u : Value) (qs : List (List UInt8)) (hz : a.eval z = u) (hu : Holds wr u qs) (hn : ∀ cap, u = .slice none 0 cap → cap = 0) (hlen : (ps.length + qs.length) * 16 ≤ 140737488355328)
    (h : ∀ v' w', OwnS w0 v' (ps ++ qs) w' → wpList Try.prog ops Q rest (a.put o.dst v') w') : wpList Try.prog ops Q (o :: rest) a wr := by
  obtain ⟨i0, hi, hz0, hz1, hz2⟩ := info_parts Try.info9
  have hsz := hown.2.size
  obtain ⟨ao, cap, rfl, hc⟩ := hu
  have key : ∀ (ad : Addr), ao = some ad → (∀ j x, (qs.map S)[j]? = some x → wr.cell? (ad.add j) = some x) → wpList Try.prog ops Q (o :: rest) a wr := by
    intro ad e hnews
    subst e
    refine wpList_append_own _ hgd s z 27 ho w0.heap.size 9 i0 (.string ⟨#[]⟩) 1 16 Try.underlying27 hi hz0 hz1 hz2 rfl (by decide) v ps.length (ps.map S) hs hown.1 ad qs.length cap (qs.map S) hz (by simp) hnews ?_ (by unfold maxLen; omega) (by omega) hsz ?_
    · intro u hu; obtain ⟨x, _, rfl⟩ := List.mem_map.1 hu; rfl
    · intro v' w' h1 h2 _
      refine h v' w' ⟨by rw [List.map_append, List.length_append]; exact h1, ?_⟩
      refine Below.grown hown.2 h2 (by omega) ?_
      intro k hk
      exact (hown.1.lt k hk).1
  by_cases hq : qs = []
  · subst hq
    cases ao with
    | none =>
      obtain rfl := hn cap rfl
      refine wpList_append_own_none hgd s z 27 ho w0.heap.size 9 i0 1 Try.underlying27 hi v ps.length (ps.map S) hs hown.1 hz ?_
      exact h v wr (by rw [List.append_nil]; exact hown)
    | some ad => exact key ad rfl (fun j x hj => by simp at hj)
  · obtain ⟨b, off, rfl, hlt, hcell⟩ := hc hq
    refine key ⟨b, off, none⟩ rfl (fun j x hj => ?_)
    have e : (⟨b, off, none⟩ : Addr).add j = ⟨b, off + j, none⟩ := Go.WideShapes.add_plain _ _ _
    rw [e]
    obtain ⟨hj1, hj2⟩ := List.getElem?_eq_some_iff.1 hj
    rw [List.length_map] at hj1
    rw [hcell j hj1, ← hj2]
    simp
end Go.Proofs.Ytikokjclhpgocab
