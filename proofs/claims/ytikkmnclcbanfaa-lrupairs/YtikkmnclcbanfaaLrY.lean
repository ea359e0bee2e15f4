/- What the walks of the table's laws share. -/
import Derived.Test.YtikkmnclcbanfaaLrX
namespace Go.Proofs.Ytikkmnclcbanfaa
open Go.RowKit Go.Maps Go.WideMaps
theorem tbq_more {w W : World} {g c c' : Nat} {room : Int} {l lr : IL} {q : List Nat} {rv : Value} (h : TbQ w g room l c q rv lr W) (hc : c ≤ c') : TbQ w g room l c' q rv lr W := by
  obtain ⟨U, ⟨m, rb, ns, nl, O, N, k1, k2, k3, k4, k5, k6⟩, h2, h3, h4, h5⟩ := h
  exact ⟨U, ⟨m, rb, ns, nl, O, N, k1, k2, by omega, by omega, k5, k6⟩, h2, h3, h4, h5⟩
theorem get_first (l : IL) (k : Nm) : ∃ (v0 : Int) (fb : Bool), peekI l k = .tuple #[.int .i64 v0, .bool fb] ∧ (fb = true → ∃ t, keysT (getT l k) = k :: t) := by
  unfold peekI getT
  cases h : findT l k with
  | none => exact ⟨0, false, rfl, fun e => by cases e⟩
  | some x => exact ⟨x.v, true, rfl, fun _ => ⟨keysT (withT l k), by show x.key :: _ = _; rw [(find_some h).2]; rfl⟩⟩
theorem put_first (room : Int) (l : IL) (x : ItI) (h : putOk room x.size = true) : ∃ t, keysT (putT room l x) = x.key :: t := by
  unfold putT
  rw [h]
  exact ⟨_, rfl⟩
theorem keys_len (l : IL) : (keysT l).length = l.length := by unfold keysT; rw [List.length_map]
theorem tbq_len {w W : World} {g c : Nat} {room : Int} {l lr : IL} {q : List Nat} {rv : Value} (h : TbQ w g room l c q rv lr W) : l.length ≤ c := by
  obtain ⟨U, ⟨m, rb, ns, nl, O, N, k1, k2, k3, k4, k5, k6⟩, _⟩ := h
  exact k4
/-- what stands among the keys is found -/
theorem find_key {l : IL} {j : Nat} {k : Nm} (h : (keysT l)[j]? = some k) : ∃ v0, peekI l k = .tuple #[.int .i64 v0, .bool true] := by
  unfold peekI
  cases e : findT l k with
  | none => exact absurd (List.mem_of_getElem? h) (find_none e)
  | some x => exact ⟨x.v, rfl⟩
theorem holdsK_at {w : World} {v : Value} {ps : KL} (h : HoldsK w v ps) : ∃ a cap, v = .slice a ps.length cap ∧ ∀ j (hj : j < ps.length), ∃ b off, a = some ⟨b, off, none⟩ ∧ b < w.heap.size ∧ KAt w b (off + j * 4) ps[j] := by
  obtain ⟨ao, cap, rfl, h0, hcp, hc⟩ := h
  refine ⟨ao, cap, rfl, fun j hj => ?_⟩
  obtain ⟨b, off, rfl, hlt, hcell⟩ := hc (fun e => by rw [e] at hj; simp at hj)
  exact ⟨b, off, rfl, hlt, hcell j hj⟩
theorem holds_at {w : World} {v : Value} {ss : List Nm} (h : Holds w v ss) : ∃ a cap, v = .slice a ss.length cap ∧ ∀ j (hj : j < ss.length), ∃ b off, a = some ⟨b, off, none⟩ ∧ b < w.heap.size ∧ w.cell? ⟨b, off + j, none⟩ = some (.string ⟨ss[j].toArray⟩) := by
  obtain ⟨ao, cap, rfl, hc⟩ := h
  refine ⟨ao, cap, rfl, fun j hj => ?_⟩
  obtain ⟨b, off, rfl, hlt, hcell⟩ := hc (fun e => by rw [e] at hj; simp at hj)
  exact ⟨b, off, rfl, hlt, hcell j hj⟩
end Go.Proofs.Ytikkmnclcbanfaa
