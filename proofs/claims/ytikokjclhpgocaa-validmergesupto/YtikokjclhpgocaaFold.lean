/- The contracts of Fold and of the document's Lower. -/
import Derived.Test.YtikokjclhpgocaaOwnB
namespace Go.Proofs.Ytikokjclhpgocaa
open Go.RowKit
def low (c : UInt8) : UInt8 := if 65 ≤ (c.toNat : Int) ∧ (c.toNat : Int) ≤ 90 then c + 32 else c
def lows (l : List UInt8) : List UInt8 := l.map low
theorem low_up (c : UInt8) (h1 : 65 ≤ (c.toNat : Int)) (h2 : (c.toNat : Int) ≤ 90) : ((low c).toNat : Int) = (c.toNat : Int) + 32 := by
  unfold low; rw [if_pos ⟨h1, h2⟩, UInt8.toNat_add]
  have : (32 : UInt8).toNat = 32 := rfl
  rw [this]; omega
theorem low_same (c : UInt8) (h : ¬ (65 ≤ (c.toNat : Int) ∧ (c.toNat : Int) ≤ 90)) : low c = c := by unfold low; rw [if_neg h]
theorem lows_snoc (l : List UInt8) (c : UInt8) : lows (l ++ [c]) = lows l ++ [low c] := by simp [lows]
theorem lows_len (l : List UInt8) : (lows l).length = l.length := by simp [lows]
set_option maxHeartbeats 1000000 in
theorem lowerRef (s : ByteArray) (w : World) (hs : s.size ≤ 140737488351232) :
    Calls Try.prog 25 #[.string s] w fun e w' => e = .returned (.string ⟨(lows s.data.toList).toArray⟩) ∧ Below w.heap.size w w' := by
  go_enter Try.func25, Try.ntmps25
  go_wp2
  go_loopw [3, 4] (fun v i wr => ∃ k : Nat, k ≤ s.size ∧ i = .int .i64 k ∧ Own w v (lows (s.data.toList.take k)) wr) (fun _ i _ => s.size - (intOf i).toNat)
  case atStart => exact ⟨0, Nat.zero_le _, rfl, own_empty w⟩
  case round =>
    obtain ⟨k, hk, rfl, hown⟩ := hrel
    by_cases hlt : k < s.size
    · have hb := byte_lt s[k]
      have hl2 : (lows (s.data.toList.take k)).length ≤ k := by rw [lows_len]; exact List.length_take_le _ _
      have R : Hid (lows (s.data.toList.take (k + 1)) = lows (s.data.toList.take k) ++ [low s[k]]) := by unfold Hid; rw [take_snoc s k hlt, lows_snoc]
      by_cases hu : 65 ≤ (s[k].toNat : Int) ∧ (s[k].toNat : Int) ≤ 90
      · obtain ⟨u1, u2⟩ := hu
        have L : Hid (((low s[k]).toNat : Int) = (s[k].toNat : Int) + 32) := low_up _ u1 u2
        go_wp2_with (at_builtin; refine app1 rfl (.tmp 24) (.tmp 26) rfl w _ _ rfl hown (low s[k]) (by rw [L.out]) rfl (by omega) ?_; intro v2 w2 hown2)
        go_roundw
        case rel => exact ⟨k + 1, by omega, by go_num, by rw [R.out]; exact hown2⟩
        case measure => simp [intOf]; omega
      · have L : Hid (low s[k] = s[k]) := low_same _ hu
        rcases (by omega : (s[k].toNat : Int) < 65 ∨ 90 < (s[k].toNat : Int)) with h | h
        all_goals
          clear hu
          go_wp2_with (at_builtin; refine app1 rfl (.tmp 24) (.tmp 26) rfl w _ _ rfl hown (low s[k]) (by rw [L.out]) rfl (by omega) ?_; intro v2 w2 hown2)
          go_roundw
          case rel => exact ⟨k + 1, by omega, by go_num, by rw [R.out]; exact hown2⟩
          case measure => simp [intOf]; omega
    · have R : Hid (s.data.toList.take k = s.data.toList) := take_all s k (by omega)
      have hcv := own_conv hown
      go_wp2
      go_ret
      rw [R.out]
      exact ⟨rfl, hown.2⟩
/-- byte j behind k rounds of Fold -/
def mixed (s : ByteArray) (k j : Nat) : UInt8 := if h : j < s.size then (if j < k then low s[j] else s[j]) else 0
theorem conv_bytes (s : ByteArray) (w : World) : ∃ (cap : Nat) (w1 : World), Sem.run Try.prog (convert 9 45 (.string s)) w = .ok (.slice (some ⟨w.heap.size, 0, none⟩) s.size cap) w1 ∧
    (∀ j, j < s.size → w1.cell? ⟨w.heap.size, j, none⟩ = some (.int .u8 ((mixed s 0 j).toNat : Int))) ∧ (∀ j, j < s.size → w1.frozen? ⟨w.heap.size, j, none⟩ = false) ∧ Below w.heap.size w w1 ∧ w.heap.size < w1.heap.size := by
  refine ⟨_, _, run_bytes_of_string w 9 45 5 s Try.underlying9 Try.underlying45 Try.underlying5, ?_, ?_, ?_, ?_⟩
  · intro j hj
    have := cell_of_row (w.drew.alloc (.cells (bytesRow s (grownCap w s.size 0 5)) 5 ((bytesRow s (grownCap w s.size 0 5)).size, (bytesRow s (grownCap w s.size 0 5)).size + 1))) w.heap.size j _ 5 _ (heap_alloc_new w.drew _)
    rw [this, bytesRow_at s _ j hj]
    unfold mixed
    rw [dif_pos hj, if_neg (by omega)]
    rfl
  · intro j hj
    have hsz : s.size ≤ (bytesRow s (grownCap w s.size 0 5)).size := by unfold bytesRow; rw [Array.size_append, Array.size_map]; exact Nat.le_add_right _ _
    unfold World.frozen?
    rw [show (w.drew.alloc (.cells (bytesRow s (grownCap w s.size 0 5)) 5 ((bytesRow s (grownCap w s.size 0 5)).size, (bytesRow s (grownCap w s.size 0 5)).size + 1))).heap[w.heap.size]? = _ from heap_alloc_new w.drew _]
    simp
    omega
  · exact ((Below.refl _ _).drew).alloc (Nat.le_refl _) _
  · simp
theorem conv_back (w : World) (g cap : Nat) (l : List UInt8) (h : ∀ j (hj : j < l.length), w.cell? ⟨g, j, none⟩ = some (.int .u8 (l[j].toNat : Int))) :
    Sem.run Try.prog (convert 45 9 (.slice (some ⟨g, 0, none⟩) l.length cap)) w = .ok (.string ⟨l.toArray⟩) w := by
  rw [run_convert_bytes_back w 45 9 5 ⟨g, 0, none⟩ cap l Try.underlying45 Try.underlying5 Try.underlying9 (fun j hj => by rw [show (⟨g, 0, none⟩ : Addr).add j = ⟨g, j, none⟩ from by simp [Addr.add]; intro e; exact e.symm]; exact h j hj)]
theorem mixed_now (s : ByteArray) (k : Nat) (h : k < s.size) : mixed s k k = s[k] := by unfold mixed; rw [dif_pos h, if_neg (by omega)]
theorem mixed_same (s : ByteArray) (k j : Nat) (h : j ≠ k) : mixed s (k + 1) j = mixed s k j := by
  unfold mixed
  by_cases hj : j < s.size
  · rw [dif_pos hj, dif_pos hj]
    by_cases hk : j < k
    · rw [if_pos hk, if_pos (by omega)]
    · rw [if_neg hk, if_neg (by omega)]
  · rw [dif_neg hj, dif_neg hj]
theorem mixed_next (s : ByteArray) (k : Nat) (h : k < s.size) : mixed s (k + 1) k = low s[k] := by unfold mixed; rw [dif_pos h, if_pos (by omega)]
theorem mixed_end (s : ByteArray) (j : Nat) (h : j < s.size) (k : Nat) (hk : s.size ≤ k) : mixed s k j = low s[j] := by unfold mixed; rw [dif_pos h, if_pos (by omega)]
/-- what holds of the row behind k rounds -/
def Mix (s : ByteArray) (w0 : World) (k : Nat) (w : World) : Prop :=
  (∀ j, j < s.size → w.cell? ⟨w0.heap.size, j, none⟩ = some (.int .u8 ((mixed s k j).toNat : Int))) ∧ (∀ j, j < s.size → w.frozen? ⟨w0.heap.size, j, none⟩ = false) ∧ Below w0.heap.size w0 w ∧ w0.heap.size < w.heap.size
theorem mix_store {s : ByteArray} {w0 w : World} {k : Nat} (h : Mix s w0 k w) (hk : k < s.size) (n : Int) (hn : n = ((low s[k]).toNat : Int)) : Mix s w0 (k + 1) (w.setCell ⟨w0.heap.size, k, none⟩ (.int .u8 n)) := by
  obtain ⟨a, b, c, d⟩ := h
  refine ⟨fun j hj => ?_, fun j hj => ?_, c.setCell (Nat.le_refl _) _, by simpa [World.setCell] using d⟩
  · by_cases e : j = k
    · subst e
      rw [World.cell?_setCell_same _ _ _ (a j hj), mixed_next s j hj, hn]
    · rw [World.cell?_setCell_other _ _ _ _ (fun x => e (by simpa using x.symm)), a j hj, mixed_same s k j e]
  · rw [World.frozen?_setCell]; exact b j hj
theorem mix_keep {s : ByteArray} {w0 w : World} {k : Nat} (h : Mix s w0 k w) (hk : k < s.size) (hl : low s[k] = s[k]) : Mix s w0 (k + 1) w := by
  obtain ⟨a, b, c, d⟩ := h
  refine ⟨fun j hj => ?_, b, c, d⟩
  by_cases e : j = k
  · subst e; rw [a j hj, mixed_next s j hj, hl, mixed_now s j hj]
  · rw [a j hj, mixed_same s k j e]
set_option maxHeartbeats 1000000 in
theorem foldTok (s : ByteArray) (w : World) (hs : s.size ≤ 140737488351232) :
    Calls Try.prog 23 #[.string s] w fun e w' => e = .returned (.string ⟨(lows s.data.toList).toArray⟩) ∧ Below w.heap.size w w' := by
  obtain ⟨cap, w1, hrun, hm⟩ := conv_bytes s w
  have M : Hid (Mix s w 0 w1) := hm
  clear hm
  go_enter Try.func23, Try.ntmps23
  go_wp2
  clear hrun
  go_loopw [10] (fun i wr => ∃ k : Nat, k ≤ s.size ∧ i = .int .i64 k ∧ Hid (Mix s w k wr)) (fun i _ => s.size - (intOf i).toNat)
  case atStart => exact ⟨0, Nat.zero_le _, rfl, M⟩
  case round =>
    clear M
    obtain ⟨k, hk, rfl, M⟩ := hrel
    by_cases hlt : k < s.size
    · have hb := byte_lt s[k]
      have ck : wr.cell? ⟨w.heap.size, k, none⟩ = some (.int .u8 (s[k].toNat : Int)) := by rw [M.out.1 k hlt, mixed_now s k hlt]
      have fk : wr.frozen? ⟨w.heap.size, k, none⟩ = false := M.out.2.1 k hlt
      by_cases hu : 65 ≤ (s[k].toNat : Int) ∧ (s[k].toNat : Int) ≤ 90
      · obtain ⟨u1, u2⟩ := hu
        have L : Hid (((low s[k]).toNat : Int) = (s[k].toNat : Int) + 32) := low_up _ u1 u2
        go_wp2
        go_roundw
        case rel => exact ⟨k + 1, by omega, by go_num, mix_store M.out hlt _ (by rw [L.out]; omega)⟩
        case measure => simp [intOf]; omega
      · have L : Hid (low s[k] = s[k]) := low_same _ hu
        rcases (by omega : (s[k].toNat : Int) < 65 ∨ 90 < (s[k].toNat : Int)) with h | h
        all_goals
          clear hu
          go_wp2
          go_roundw
          case rel => exact ⟨k + 1, by omega, by go_num, mix_keep M.out hlt L.out⟩
          case measure => simp [intOf]; omega
    · have hcv := conv_back wr w.heap.size cap (lows s.data.toList) (fun j hj => by
        rw [lows_len] at hj
        have hj' : j < s.size := by simpa using hj
        rw [M.out.1 j hj', mixed_end s j hj' k (by omega)]
        simp [lows]
        rfl)
      rw [show (lows s.data.toList).length = s.size by rw [lows_len]; simp] at hcv
      go_wp2
      go_ret
      exact ⟨rfl, M.out.2.2.1⟩
end Go.Proofs.Ytikokjclhpgocaa
