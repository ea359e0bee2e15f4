/- The document's table: New, Used, At, Without, Keys. -/
import Derived.Test.YtikkmnclcbanfaaLrR
import Derived.Test.YtikkmnclcbanfaaSame
namespace Go.Proofs.Ytikkmnclcbanfaa
open Go.RowKit Go.Maps Go.WideMaps
theorem holdsI_at {w : World} {v : Value} {ps : IL} (h : HoldsI w v ps) : ∃ a cap, v = .slice a ps.length cap ∧ ∀ j (hj : j < ps.length), ∃ b off, a = some ⟨b, off, none⟩ ∧ b < w.heap.size ∧ ItAt w b (off + j * 3) ps[j] := by
  obtain ⟨ao, cap, rfl, h0, hcp, hc⟩ := h
  refine ⟨ao, cap, rfl, fun j hj => ?_⟩
  obtain ⟨b, off, rfl, hlt, hcell⟩ := hc (fun e => by rw [e] at hj; simp at hj)
  exact ⟨b, off, rfl, hlt, hcell j hj⟩
/-- the place of a key -/
def atI (l : IL) (k : Nm) : Int := if findT l k = none then -1 else ((l.findIdx (fun x => decide (x.key = k)) : Nat) : Int)
set_option maxHeartbeats 1000000 in
theorem newRefC (room : Int) (w : World) :
    Calls Try.prog 10 #[.int .i64 room] w fun e w' => e = .returned (.agg #[.int .i64 (min (max room 0) 1073741824), .slice none 0 0]) ∧ Below w.heap.size w w' := by
  by_cases h0 : room < 0
  · have q : min (max room 0) 1073741824 = 0 := by omega
    rw [q]
    go_enter Try.func10, Try.ntmps10
    go_wp2_with fail
    exact bodyPost_ret (v := .agg #[.int .i64 0, .slice none 0 0]) (by simp [results, Try.results10, go_sem]) rfl ⟨rfl, below_alloc' _ _⟩
  · by_cases h1 : 1073741824 < room
    · have q : min (max room 0) 1073741824 = 1073741824 := by omega
      rw [q]
      go_enter Try.func10, Try.ntmps10
      go_wp2_with fail
      exact bodyPost_ret (v := .agg #[.int .i64 1073741824, .slice none 0 0]) (by simp [results, Try.results10, go_sem]) rfl ⟨rfl, below_alloc' _ _⟩
    · have q : min (max room 0) 1073741824 = room := by omega
      rw [q]
      clear q
      go_enter Try.func10, Try.ntmps10
      go_wp2_with fail
      exact bodyPost_ret (v := .agg #[.int .i64 room, .slice none 0 0]) (by simp [results, Try.results10, go_sem]) rfl ⟨rfl, below_alloc' _ _⟩
theorem used_take {l : IL} {j : Nat} (h : j < l.length) : usedT (l.take (j + 1)) = usedT (l.take j) + l[j].size := by
  rw [List.take_succ_eq_append_getElem h, used_app, used_cons, used_nil]; omega
set_option maxHeartbeats 1000000 in
theorem usedRefC (room : Int) (v : Value) (l : IL) (w : World) (h : HoldsI w v l) (hp : ∀ x ∈ l, 0 ≤ x.size) (hu : usedT l ≤ 1073741824) (hn : l.length ≤ 1000000) :
    Calls Try.prog 22 #[.agg #[.int .i64 room, v]] w fun e w' => e = .returned (.int .i64 (usedT l)) ∧ Below w.heap.size w w' := by
  obtain ⟨a, cap, rfl, hat⟩ := holdsI_at h
  obtain ⟨n, hN⟩ : ∃ n, n = l.length := ⟨_, rfl⟩
  have HN := hide' hN
  have AT : Hid (∀ j (hj : j < l.length), ∃ b off, a = some ⟨b, off, none⟩ ∧ b < w.heap.size ∧ ItAt w b (off + j * 3) l[j]) := hat
  have US : Hid (∀ j, j ≤ n → 0 ≤ usedT (l.take j) ∧ usedT (l.take j) ≤ 1073741824) := fun j _ => by
    have h1 := used_pos (l := l.take j) (fun x hx => hp x (List.mem_of_mem_take hx))
    have h2 := used_sub (List.take_sublist j l) hp
    omega
  have LB := hide' (below_alloc' w (.cells #[.int .i64 room, .slice a l.length cap] 28))
  rw [← hN] at LB hn ⊢
  have HP := hide' hp
  clear h hat hp hN
  go_enter Try.func22, Try.ntmps22
  go_wp2_with fail
  go_loop [3, 4] (fun sv iv => ∃ j : Nat, j ≤ n ∧ iv = .int .i64 j ∧ ∃ u : Int, sv = .int .i64 u ∧ Hid (u = usedT (l.take j))) (fun _ iv => n - (intOf iv).toNat)
  case atStart => exact ⟨0, by omega, rfl, 0, rfl, by unfold Hid; rw [List.take_zero, used_nil]⟩
  case round =>
    obtain ⟨j, hj, rfl, u, rfl, HU⟩ := hrel
    by_cases hlt : j < n
    · have hjl : j < l.length := by rw [← HN.out]; exact hlt
      obtain ⟨b, off, rfl, hb, c0, c1, c2⟩ := AT.out j hjl
      have u0 := US.out j hj
      have u1 := US.out (j + 1) (by omega)
      have hs := HP.out _ (List.getElem_mem hjl)
      have E := hide' (used_take hjl)
      rw [E.out] at u1
      rw [← HU.out] at u0 u1
      generalize l[j].size = sz at *
      clear c0 c1
      go_wp2_with fail
      go_round
      case rel => exact ⟨j + 1, by omega, by go_num, u + sz, rfl, by unfold Hid; rw [E.out, HU.out]⟩
      case measure => simp [intOf]; omega
    · have F : Hid (u = usedT l) := by
        have := HU.out
        rwa [List.take_of_length_le (by rw [← HN.out]; omega)] at this
      go_wp2_with fail
      go_ret
      exact ⟨by rw [F.out]; rfl, LB.out⟩
theorem find_take {l : IL} {k : Nm} {j : Nat} (hj : j < l.length) (h : findT (l.take j) k = none) : (l[j].key = k → findT l k = some l[j] ∧ l.findIdx (fun x => decide (x.key = k)) = j) ∧ (l[j].key ≠ k → findT (l.take (j + 1)) k = none) := by
  have e : l = l.take j ++ l[j] :: l.drop (j + 1) := by rw [← List.drop_eq_getElem_cons hj, List.take_append_drop]
  constructor
  · intro hk
    constructor
    · unfold findT at h ⊢
      refine (congrArg (List.find? (fun x => decide (x.key = k))) e).trans ?_
      rw [List.find?_append, h, List.find?_cons]
      simp only [hk, decide_true, Option.none_or]
    · rw [List.findIdx_eq hj]
      refine ⟨by simpa using hk, fun i hi => ?_⟩
      unfold findT at h
      have := List.find?_eq_none.1 h l[i] (List.mem_take_iff_getElem.2 ⟨i, by omega, rfl⟩)
      simpa using this
  · intro hk
    unfold findT at h ⊢
    rw [List.take_succ_eq_append_getElem hj, List.find?_append, h]
    simp [hk]
theorem str_ne {a b : Nm} (h : a ≠ b) : ((⟨a.toArray⟩ : ByteArray).toList == (⟨b.toArray⟩ : ByteArray).toList) = false := by
  rw [Lib.toList_data, Lib.toList_data]
  simpa using h
set_option maxHeartbeats 1000000 in
theorem atRefC (room : Int) (v : Value) (l : IL) (k : Nm) (w : World) (h : HoldsI w v l) (hn : l.length ≤ 1000000) :
    Calls Try.prog 12 #[.agg #[.int .i64 room, v], .string ⟨k.toArray⟩] w fun e w' => e = .returned (.int .i64 (atI l k)) ∧ Below w.heap.size w w' := by
  obtain ⟨a, cap, rfl, hat⟩ := holdsI_at h
  obtain ⟨n, hN⟩ : ∃ n, n = l.length := ⟨_, rfl⟩
  have HN := hide' hN
  have AT : Hid (∀ j (hj : j < l.length), ∃ b off, a = some ⟨b, off, none⟩ ∧ b < w.heap.size ∧ ItAt w b (off + j * 3) l[j]) := hat
  have LB := hide' (below_alloc' w (.cells #[.int .i64 room, .slice a l.length cap] 28))
  rw [← hN] at LB hn ⊢
  clear h hat hN
  go_enter Try.func12, Try.ntmps12
  go_wp2_with fail
  go_loop [5] (fun iv => ∃ j : Nat, j ≤ n ∧ iv = .int .i64 j ∧ Hid (findT (l.take j) k = none)) (fun iv => n - (intOf iv).toNat)
  case atStart => exact ⟨0, by omega, rfl, rfl⟩
  case round =>
    obtain ⟨j, hj, rfl, HF⟩ := hrel
    by_cases hlt : j < n
    · have hjl : j < l.length := by rw [← HN.out]; exact hlt
      obtain ⟨b, off, rfl, hb, c0, c1, c2⟩ := AT.out j hjl
      obtain ⟨f1, f2⟩ := find_take hjl HF.out
      unfold S at c0
      by_cases he : l[j].key = k
      · have F : Hid (atI l k = (j : Int)) := by
          unfold Hid atI
          rw [(f1 he).1, (f1 he).2, if_neg (by simp)]
        rw [he] at c0
        generalize k.toArray = y at c0 ⊢
        clear f1 f2 he c1 c2
        go_wp2_with fail
        go_ret
        exact ⟨by rw [F.out]; rfl, LB.out⟩
      · have F2 := hide' (f2 he)
        have hne := str_ne he
        clear f1 f2 he c1 c2
        generalize (⟨l[j].key.toArray⟩ : ByteArray) = y at c0 hne
        generalize (⟨k.toArray⟩ : ByteArray) = z at hne ⊢
        go_wp2_with fail
        go_round
        case rel => exact ⟨j + 1, by omega, by go_num, F2⟩
        case measure => simp [intOf]; omega
    · have F : Hid (atI l k = -1) := by
        have := HF.out
        rw [List.take_of_length_le (by rw [← HN.out]; omega)] at this
        unfold Hid atI
        rw [this, if_pos rfl]
      go_wp2_with fail
      go_ret
      exact ⟨by rw [F.out]; rfl, LB.out⟩
set_option maxHeartbeats 1000000 in
theorem keysRefC (room : Int) (v : Value) (l : IL) (w : World) (h : HoldsI w v l) (hn : l.length ≤ 1000000) :
    Calls Try.prog 24 #[.agg #[.int .i64 room, v]] w fun e w' => ∃ kv, e = .returned kv ∧ OwnS w kv (keysT l) w' := by
  obtain ⟨a, cap, rfl, hat⟩ := holdsI_at h
  obtain ⟨n, hN⟩ : ∃ n, n = l.length := ⟨_, rfl⟩
  have HN := hide' hN
  have AT : Hid (∀ j (hj : j < l.length), ∃ b off, a = some ⟨b, off, none⟩ ∧ b < w.heap.size ∧ ItAt w b (off + j * 3) l[j]) := hat
  have LB := hide' (below_alloc' w (.cells #[.int .i64 room, .slice a l.length cap] 28))
  obtain ⟨w1, hw1⟩ : ∃ w1, w1 = w.alloc (.cells #[.int .i64 room, .slice a l.length cap] 28) := ⟨_, rfl⟩
  have d1 : w1.cell? ⟨w.heap.size, 1, none⟩ = some (.slice a l.length cap) := by rw [hw1]; exact ((cells_lit w #[.int .i64 room, .slice a l.length cap] 28).1 1 (by simp)).1
  have hz : w.heap.size < w1.heap.size := by rw [hw1]; simp
  have OM := hide' (ownS_empty w1)
  rw [← hN] at LB hn d1 hw1 ⊢
  rw [← hw1] at LB
  have HW1 := hide' hw1
  clear h hat hN hw1
  go_enter Try.func24, Try.ntmps24
  go_wp2_with fail
  rw [← HW1.out]
  go_loopw [3, 4] (fun ov iv wr => ∃ j : Nat, j ≤ n ∧ iv = .int .i64 j ∧ Hid (OwnS w1 ov (keysT (l.take j)) wr)) (fun _ iv _ => n - (intOf iv).toNat)
  case atStart => exact ⟨0, by omega, rfl, by have := OM; have e : w1.heap.size = w.heap.size + 1 := (by rw [HW1.out]; simp); simpa [e, keysT] using this⟩
  case round =>
    obtain ⟨j, hj, rfl, HO⟩ := hrel
    have k1 : wr.cell? ⟨w.heap.size, 1, none⟩ = some (.slice a n cap) := by rw [HO.out.2.cell (p := ⟨w.heap.size, 1, none⟩) hz]; exact d1
    by_cases hlt : j < n
    · have hjl : j < l.length := by rw [← HN.out]; exact hlt
      obtain ⟨b, off, rfl, hb, c0, c1, c2⟩ := AT.out j hjl
      unfold S at c0
      have k0 : wr.cell? ⟨b, off + j * 3, none⟩ = some (.string ⟨l[j].key.toArray⟩) := by rw [HO.out.2.cell (p := ⟨b, off + j * 3, none⟩) (show b < w1.heap.size by omega), LB.out.cell (p := ⟨b, off + j * 3, none⟩) hb]; exact c0
      have E : Hid (keysT (l.take (j + 1)) = keysT (l.take j) ++ [l[j].key]) := by unfold Hid keysT; rw [List.take_succ_eq_append_getElem hjl, List.map_append]; rfl
      have hll : (keysT (l.take j)).length = j := by unfold keysT; rw [List.length_map, List.length_take]; omega
      have HLL := hide' hll
      clear c0 c1 c2 hll
      go_wp2_with (at_builtin; refine appS rfl (.tmp 13) (.tmp 20) rfl w1 _ (keysT (l.take j)) rfl HO.out _ rfl rfl (by rw [HLL.out]; omega) ?_; intro v3 w3 a3; have A3 := hide' a3; clear a3)
      go_roundw
      case rel => exact ⟨j + 1, by omega, by go_num, by unfold Hid; rw [E.out]; exact A3.out⟩
      case measure => simp [intOf]; omega
    · have F : Hid (l.take j = l) := by unfold Hid; rw [List.take_of_length_le (by rw [← HN.out]; omega)]
      go_wp2_with fail
      go_ret
      have := HO.out
      rw [F.out] at this
      exact ⟨_, rfl, ownS_base this LB.out⟩
end Go.Proofs.Ytikkmnclcbanfaa
