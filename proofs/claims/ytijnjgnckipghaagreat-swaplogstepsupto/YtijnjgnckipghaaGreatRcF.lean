/- The contract of the document's Encode. -/
import Derived.Test.YtijnjgnckipghaaGreatBw8
namespace Go.Proofs.YtijnjgnckipghaaGreat
open Go.RowKit
/-- a text's bytes in a new block -/
theorem conv_txt (s : ByteArray) (w : World) : ∃ (v : Value) (w1 : World), Sem.run Tryz.prog (convert 9 67 (.string s)) w = .ok v w1 ∧ HoldsB w1 v s.data.toList ∧ Below w.heap.size w w1 := by
  have hl : s.data.toList.length = s.size := by simp
  refine ⟨_, _, run_bytes_of_string w 9 67 5 s Tryz.underlying9 Tryz.underlying67 Tryz.underlying5, ?_, ((Below.refl _ _).drew).alloc (Nat.le_refl _) _⟩
  refine ⟨some ⟨w.heap.size, 0, none⟩, grownCap w s.size 0 5, by rw [hl], (fun e => by cases e), by rw [hl]; exact grownCap_ge _ _ _ _, fun _ => ⟨w.heap.size, 0, rfl, by simp, fun j hj => ?_⟩⟩
  have hj' : j < s.size := by omega
  have := cell_of_row (w.drew.alloc (.cells (bytesRow s (grownCap w s.size 0 5)) 5 ((bytesRow s (grownCap w s.size 0 5)).size, (bytesRow s (grownCap w s.size 0 5)).size + 1))) w.heap.size j _ 5 _ (heap_alloc_new w.drew _)
  rw [Nat.zero_add, this, bytesRow_at s _ j hj']
  rfl
set_option maxRecDepth 20000 in
set_option maxHeartbeats 4000000 in
theorem encB0 (seq op no : Int) (id : List UInt8) (w : World) (ho : ¬ (op = 1 ∨ op = 2)) :
    Calls Tryz.prog 40 #[recV seq op no id] w fun e w' => ∃ u, e = .returned (.tuple #[u, .int .i64 100]) ∧ Own w u [] w' := by
  have hsz : Hid ((⟨id.toArray⟩ : ByteArray).size = id.length) := size_l id
  unfold recV
  obtain ⟨B0, hB0⟩ : ∃ B0, B0 = w.alloc (.cells #[.int .i64 seq, .int .i64 op, .int .i64 no, .string ⟨id.toArray⟩] 53) := ⟨_, rfl⟩
  have Q0 := quad_lit w (.int .i64 seq) (.int .i64 op) (.int .i64 no) (.string ⟨id.toArray⟩) 53
  have L0 := below_alloc' w (.cells #[.int .i64 seq, .int .i64 op, .int .i64 no, .string ⟨id.toArray⟩] 53)
  have HB0 := hide' hB0
  rw [← hB0] at Q0 L0
  have LB := hide' L0
  have HQ := hide' Q0
  clear hB0 L0 Q0
  have d1 : (op != 1) = true := by simpa using fun e => ho (.inl e)
  have d2 : (op != 2) = true := by simpa using fun e => ho (.inr e)
  go_enter Tryz.func40, Tryz.ntmps40
  go_wp2_with fail
  rw [← HB0.out]
  exact bodyPost_ret (v := .tuple #[.slice none 0 0, .int .i64 100]) (by simp [results, Tryz.results40, go_sem]) rfl ⟨.slice none 0 0, rfl, own_nil w _ LB.out⟩
set_option maxRecDepth 20000 in
set_option maxHeartbeats 4000000 in
theorem encB1_1 (seq op no : Int) (id : List UInt8) (w : World) (ho : op = 1) (h : seq < 0) :
    Calls Tryz.prog 40 #[recV seq op no id] w fun e w' => ∃ u, e = .returned (.tuple #[u, .int .i64 100]) ∧ Own w u [] w' := by
  have hsz : Hid ((⟨id.toArray⟩ : ByteArray).size = id.length) := size_l id
  unfold recV
  obtain ⟨B0, hB0⟩ : ∃ B0, B0 = w.alloc (.cells #[.int .i64 seq, .int .i64 op, .int .i64 no, .string ⟨id.toArray⟩] 53) := ⟨_, rfl⟩
  have Q0 := quad_lit w (.int .i64 seq) (.int .i64 op) (.int .i64 no) (.string ⟨id.toArray⟩) 53
  have L0 := below_alloc' w (.cells #[.int .i64 seq, .int .i64 op, .int .i64 no, .string ⟨id.toArray⟩] 53)
  have HB0 := hide' hB0
  rw [← hB0] at Q0 L0
  have LB := hide' L0
  have HQ := hide' Q0
  clear hB0 L0 Q0
  subst ho
  have d3 : decide (seq < 0) = true := by simpa using h
  go_enter Tryz.func40, Tryz.ntmps40
  go_wp2_with fail
  rw [← HB0.out]
  exact bodyPost_ret (v := .tuple #[.slice none 0 0, .int .i64 100]) (by simp [results, Tryz.results40, go_sem]) rfl ⟨.slice none 0 0, rfl, own_nil w _ LB.out⟩
set_option maxRecDepth 20000 in
set_option maxHeartbeats 4000000 in
theorem encB2_1 (seq op no : Int) (id : List UInt8) (w : World) (ho : op = 1) (h0 : 0 ≤ seq) (h : 4294967295 < seq) :
    Calls Tryz.prog 40 #[recV seq op no id] w fun e w' => ∃ u, e = .returned (.tuple #[u, .int .i64 100]) ∧ Own w u [] w' := by
  have hsz : Hid ((⟨id.toArray⟩ : ByteArray).size = id.length) := size_l id
  unfold recV
  obtain ⟨B0, hB0⟩ : ∃ B0, B0 = w.alloc (.cells #[.int .i64 seq, .int .i64 op, .int .i64 no, .string ⟨id.toArray⟩] 53) := ⟨_, rfl⟩
  have Q0 := quad_lit w (.int .i64 seq) (.int .i64 op) (.int .i64 no) (.string ⟨id.toArray⟩) 53
  have L0 := below_alloc' w (.cells #[.int .i64 seq, .int .i64 op, .int .i64 no, .string ⟨id.toArray⟩] 53)
  have HB0 := hide' hB0
  rw [← hB0] at Q0 L0
  have LB := hide' L0
  have HQ := hide' Q0
  clear hB0 L0 Q0
  subst ho
  have d3 : decide (seq < 0) = false := by simpa using h0
  have d4 : decide (4294967295 < seq) = true := by simpa using h
  go_enter Tryz.func40, Tryz.ntmps40
  go_wp2_with fail
  rw [← HB0.out]
  exact bodyPost_ret (v := .tuple #[.slice none 0 0, .int .i64 100]) (by simp [results, Tryz.results40, go_sem]) rfl ⟨.slice none 0 0, rfl, own_nil w _ LB.out⟩
set_option maxRecDepth 20000 in
set_option maxHeartbeats 4000000 in
theorem encB3_1 (seq op no : Int) (id : List UInt8) (w : World) (ho : op = 1) (hs : 0 ≤ seq ∧ seq ≤ 4294967295) (h : no < 0) :
    Calls Tryz.prog 40 #[recV seq op no id] w fun e w' => ∃ u, e = .returned (.tuple #[u, .int .i64 100]) ∧ Own w u [] w' := by
  have hsz : Hid ((⟨id.toArray⟩ : ByteArray).size = id.length) := size_l id
  unfold recV
  obtain ⟨B0, hB0⟩ : ∃ B0, B0 = w.alloc (.cells #[.int .i64 seq, .int .i64 op, .int .i64 no, .string ⟨id.toArray⟩] 53) := ⟨_, rfl⟩
  have Q0 := quad_lit w (.int .i64 seq) (.int .i64 op) (.int .i64 no) (.string ⟨id.toArray⟩) 53
  have L0 := below_alloc' w (.cells #[.int .i64 seq, .int .i64 op, .int .i64 no, .string ⟨id.toArray⟩] 53)
  have HB0 := hide' hB0
  rw [← hB0] at Q0 L0
  have LB := hide' L0
  have HQ := hide' Q0
  clear hB0 L0 Q0
  subst ho
  have d3 : decide (seq < 0) = false := by simpa using hs.1
  have d4 : decide (4294967295 < seq) = false := by simpa using hs.2
  have d5 : decide (no < 0) = true := by simpa using h
  go_enter Tryz.func40, Tryz.ntmps40
  go_wp2_with fail
  rw [← HB0.out]
  exact bodyPost_ret (v := .tuple #[.slice none 0 0, .int .i64 100]) (by simp [results, Tryz.results40, go_sem]) rfl ⟨.slice none 0 0, rfl, own_nil w _ LB.out⟩
set_option maxRecDepth 20000 in
set_option maxHeartbeats 4000000 in
theorem encB4_1 (seq op no : Int) (id : List UInt8) (w : World) (ho : op = 1) (hs : 0 ≤ seq ∧ seq ≤ 4294967295) (h0 : 0 ≤ no) (h : 4294967295 < no) :
    Calls Tryz.prog 40 #[recV seq op no id] w fun e w' => ∃ u, e = .returned (.tuple #[u, .int .i64 100]) ∧ Own w u [] w' := by
  have hsz : Hid ((⟨id.toArray⟩ : ByteArray).size = id.length) := size_l id
  unfold recV
  obtain ⟨B0, hB0⟩ : ∃ B0, B0 = w.alloc (.cells #[.int .i64 seq, .int .i64 op, .int .i64 no, .string ⟨id.toArray⟩] 53) := ⟨_, rfl⟩
  have Q0 := quad_lit w (.int .i64 seq) (.int .i64 op) (.int .i64 no) (.string ⟨id.toArray⟩) 53
  have L0 := below_alloc' w (.cells #[.int .i64 seq, .int .i64 op, .int .i64 no, .string ⟨id.toArray⟩] 53)
  have HB0 := hide' hB0
  rw [← hB0] at Q0 L0
  have LB := hide' L0
  have HQ := hide' Q0
  clear hB0 L0 Q0
  subst ho
  have d3 : decide (seq < 0) = false := by simpa using hs.1
  have d4 : decide (4294967295 < seq) = false := by simpa using hs.2
  have d5 : decide (no < 0) = false := by simpa using h0
  have d6 : decide (4294967295 < no) = true := by simpa using h
  go_enter Tryz.func40, Tryz.ntmps40
  go_wp2_with fail
  rw [← HB0.out]
  exact bodyPost_ret (v := .tuple #[.slice none 0 0, .int .i64 100]) (by simp [results, Tryz.results40, go_sem]) rfl ⟨.slice none 0 0, rfl, own_nil w _ LB.out⟩
set_option maxRecDepth 20000 in
set_option maxHeartbeats 4000000 in
theorem encB5_1 (seq op no : Int) (id : List UInt8) (w : World) (ho : op = 1) (hs : 0 ≤ seq ∧ seq ≤ 4294967295) (hm : 0 ≤ no ∧ no ≤ 4294967295) (hl : 4096 < id.length) (hi : id.length ≤ 1000000000000000) :
    Calls Tryz.prog 40 #[recV seq op no id] w fun e w' => ∃ u, e = .returned (.tuple #[u, .int .i64 101]) ∧ Own w u [] w' := by
  have hsz : Hid ((⟨id.toArray⟩ : ByteArray).size = id.length) := size_l id
  unfold recV
  obtain ⟨B0, hB0⟩ : ∃ B0, B0 = w.alloc (.cells #[.int .i64 seq, .int .i64 op, .int .i64 no, .string ⟨id.toArray⟩] 53) := ⟨_, rfl⟩
  have Q0 := quad_lit w (.int .i64 seq) (.int .i64 op) (.int .i64 no) (.string ⟨id.toArray⟩) 53
  have L0 := below_alloc' w (.cells #[.int .i64 seq, .int .i64 op, .int .i64 no, .string ⟨id.toArray⟩] 53)
  have HB0 := hide' hB0
  rw [← hB0] at Q0 L0
  have LB := hide' L0
  have HQ := hide' Q0
  clear hB0 L0 Q0
  subst ho
  have d3 : decide (seq < 0) = false := by simpa using hs.1
  have d4 : decide (4294967295 < seq) = false := by simpa using hs.2
  have d5 : decide (no < 0) = false := by simpa using hm.1
  have d6 : decide (4294967295 < no) = false := by simpa using hm.2
  obtain ⟨n, hn⟩ : ∃ n, n = id.length := ⟨_, rfl⟩
  have SZ : (⟨id.toArray⟩ : ByteArray).size = n := by rw [hsz.out, hn]
  have d7 : decide (4096 < (n : Int)) = true := by simp; omega
  have hnl : n ≤ 1000000000000000 := by omega
  clear hn hl hi
  go_enter Tryz.func40, Tryz.ntmps40
  go_wp2_with fail
  rw [← HB0.out]
  exact bodyPost_ret (v := .tuple #[.slice none 0 0, .int .i64 101]) (by simp [results, Tryz.results40, go_sem]) rfl ⟨.slice none 0 0, rfl, own_nil w _ LB.out⟩
set_option maxRecDepth 20000 in
set_option maxHeartbeats 4000000 in
theorem encB1_2 (seq op no : Int) (id : List UInt8) (w : World) (ho : op = 2) (h : seq < 0) :
    Calls Tryz.prog 40 #[recV seq op no id] w fun e w' => ∃ u, e = .returned (.tuple #[u, .int .i64 100]) ∧ Own w u [] w' := by
  have hsz : Hid ((⟨id.toArray⟩ : ByteArray).size = id.length) := size_l id
  unfold recV
  obtain ⟨B0, hB0⟩ : ∃ B0, B0 = w.alloc (.cells #[.int .i64 seq, .int .i64 op, .int .i64 no, .string ⟨id.toArray⟩] 53) := ⟨_, rfl⟩
  have Q0 := quad_lit w (.int .i64 seq) (.int .i64 op) (.int .i64 no) (.string ⟨id.toArray⟩) 53
  have L0 := below_alloc' w (.cells #[.int .i64 seq, .int .i64 op, .int .i64 no, .string ⟨id.toArray⟩] 53)
  have HB0 := hide' hB0
  rw [← hB0] at Q0 L0
  have LB := hide' L0
  have HQ := hide' Q0
  clear hB0 L0 Q0
  subst ho
  have d3 : decide (seq < 0) = true := by simpa using h
  go_enter Tryz.func40, Tryz.ntmps40
  go_wp2_with fail
  rw [← HB0.out]
  exact bodyPost_ret (v := .tuple #[.slice none 0 0, .int .i64 100]) (by simp [results, Tryz.results40, go_sem]) rfl ⟨.slice none 0 0, rfl, own_nil w _ LB.out⟩
set_option maxRecDepth 20000 in
set_option maxHeartbeats 4000000 in
theorem encB2_2 (seq op no : Int) (id : List UInt8) (w : World) (ho : op = 2) (h0 : 0 ≤ seq) (h : 4294967295 < seq) :
    Calls Tryz.prog 40 #[recV seq op no id] w fun e w' => ∃ u, e = .returned (.tuple #[u, .int .i64 100]) ∧ Own w u [] w' := by
  have hsz : Hid ((⟨id.toArray⟩ : ByteArray).size = id.length) := size_l id
  unfold recV
  obtain ⟨B0, hB0⟩ : ∃ B0, B0 = w.alloc (.cells #[.int .i64 seq, .int .i64 op, .int .i64 no, .string ⟨id.toArray⟩] 53) := ⟨_, rfl⟩
  have Q0 := quad_lit w (.int .i64 seq) (.int .i64 op) (.int .i64 no) (.string ⟨id.toArray⟩) 53
  have L0 := below_alloc' w (.cells #[.int .i64 seq, .int .i64 op, .int .i64 no, .string ⟨id.toArray⟩] 53)
  have HB0 := hide' hB0
  rw [← hB0] at Q0 L0
  have LB := hide' L0
  have HQ := hide' Q0
  clear hB0 L0 Q0
  subst ho
  have d3 : decide (seq < 0) = false := by simpa using h0
  have d4 : decide (4294967295 < seq) = true := by simpa using h
  go_enter Tryz.func40, Tryz.ntmps40
  go_wp2_with fail
  rw [← HB0.out]
  exact bodyPost_ret (v := .tuple #[.slice none 0 0, .int .i64 100]) (by simp [results, Tryz.results40, go_sem]) rfl ⟨.slice none 0 0, rfl, own_nil w _ LB.out⟩
set_option maxRecDepth 20000 in
set_option maxHeartbeats 4000000 in
theorem encB3_2 (seq op no : Int) (id : List UInt8) (w : World) (ho : op = 2) (hs : 0 ≤ seq ∧ seq ≤ 4294967295) (h : no < 0) :
    Calls Tryz.prog 40 #[recV seq op no id] w fun e w' => ∃ u, e = .returned (.tuple #[u, .int .i64 100]) ∧ Own w u [] w' := by
  have hsz : Hid ((⟨id.toArray⟩ : ByteArray).size = id.length) := size_l id
  unfold recV
  obtain ⟨B0, hB0⟩ : ∃ B0, B0 = w.alloc (.cells #[.int .i64 seq, .int .i64 op, .int .i64 no, .string ⟨id.toArray⟩] 53) := ⟨_, rfl⟩
  have Q0 := quad_lit w (.int .i64 seq) (.int .i64 op) (.int .i64 no) (.string ⟨id.toArray⟩) 53
  have L0 := below_alloc' w (.cells #[.int .i64 seq, .int .i64 op, .int .i64 no, .string ⟨id.toArray⟩] 53)
  have HB0 := hide' hB0
  rw [← hB0] at Q0 L0
  have LB := hide' L0
  have HQ := hide' Q0
  clear hB0 L0 Q0
  subst ho
  have d3 : decide (seq < 0) = false := by simpa using hs.1
  have d4 : decide (4294967295 < seq) = false := by simpa using hs.2
  have d5 : decide (no < 0) = true := by simpa using h
  go_enter Tryz.func40, Tryz.ntmps40
  go_wp2_with fail
  rw [← HB0.out]
  exact bodyPost_ret (v := .tuple #[.slice none 0 0, .int .i64 100]) (by simp [results, Tryz.results40, go_sem]) rfl ⟨.slice none 0 0, rfl, own_nil w _ LB.out⟩
set_option maxRecDepth 20000 in
set_option maxHeartbeats 4000000 in
theorem encB4_2 (seq op no : Int) (id : List UInt8) (w : World) (ho : op = 2) (hs : 0 ≤ seq ∧ seq ≤ 4294967295) (h0 : 0 ≤ no) (h : 4294967295 < no) :
    Calls Tryz.prog 40 #[recV seq op no id] w fun e w' => ∃ u, e = .returned (.tuple #[u, .int .i64 100]) ∧ Own w u [] w' := by
  have hsz : Hid ((⟨id.toArray⟩ : ByteArray).size = id.length) := size_l id
  unfold recV
  obtain ⟨B0, hB0⟩ : ∃ B0, B0 = w.alloc (.cells #[.int .i64 seq, .int .i64 op, .int .i64 no, .string ⟨id.toArray⟩] 53) := ⟨_, rfl⟩
  have Q0 := quad_lit w (.int .i64 seq) (.int .i64 op) (.int .i64 no) (.string ⟨id.toArray⟩) 53
  have L0 := below_alloc' w (.cells #[.int .i64 seq, .int .i64 op, .int .i64 no, .string ⟨id.toArray⟩] 53)
  have HB0 := hide' hB0
  rw [← hB0] at Q0 L0
  have LB := hide' L0
  have HQ := hide' Q0
  clear hB0 L0 Q0
  subst ho
  have d3 : decide (seq < 0) = false := by simpa using hs.1
  have d4 : decide (4294967295 < seq) = false := by simpa using hs.2
  have d5 : decide (no < 0) = false := by simpa using h0
  have d6 : decide (4294967295 < no) = true := by simpa using h
  go_enter Tryz.func40, Tryz.ntmps40
  go_wp2_with fail
  rw [← HB0.out]
  exact bodyPost_ret (v := .tuple #[.slice none 0 0, .int .i64 100]) (by simp [results, Tryz.results40, go_sem]) rfl ⟨.slice none 0 0, rfl, own_nil w _ LB.out⟩
set_option maxRecDepth 20000 in
set_option maxHeartbeats 4000000 in
theorem encB5_2 (seq op no : Int) (id : List UInt8) (w : World) (ho : op = 2) (hs : 0 ≤ seq ∧ seq ≤ 4294967295) (hm : 0 ≤ no ∧ no ≤ 4294967295) (hl : 4096 < id.length) (hi : id.length ≤ 1000000000000000) :
    Calls Tryz.prog 40 #[recV seq op no id] w fun e w' => ∃ u, e = .returned (.tuple #[u, .int .i64 101]) ∧ Own w u [] w' := by
  have hsz : Hid ((⟨id.toArray⟩ : ByteArray).size = id.length) := size_l id
  unfold recV
  obtain ⟨B0, hB0⟩ : ∃ B0, B0 = w.alloc (.cells #[.int .i64 seq, .int .i64 op, .int .i64 no, .string ⟨id.toArray⟩] 53) := ⟨_, rfl⟩
  have Q0 := quad_lit w (.int .i64 seq) (.int .i64 op) (.int .i64 no) (.string ⟨id.toArray⟩) 53
  have L0 := below_alloc' w (.cells #[.int .i64 seq, .int .i64 op, .int .i64 no, .string ⟨id.toArray⟩] 53)
  have HB0 := hide' hB0
  rw [← hB0] at Q0 L0
  have LB := hide' L0
  have HQ := hide' Q0
  clear hB0 L0 Q0
  subst ho
  have d3 : decide (seq < 0) = false := by simpa using hs.1
  have d4 : decide (4294967295 < seq) = false := by simpa using hs.2
  have d5 : decide (no < 0) = false := by simpa using hm.1
  have d6 : decide (4294967295 < no) = false := by simpa using hm.2
  obtain ⟨n, hn⟩ : ∃ n, n = id.length := ⟨_, rfl⟩
  have SZ : (⟨id.toArray⟩ : ByteArray).size = n := by rw [hsz.out, hn]
  have d7 : decide (4096 < (n : Int)) = true := by simp; omega
  have hnl : n ≤ 1000000000000000 := by omega
  clear hn hl hi
  go_enter Tryz.func40, Tryz.ntmps40
  go_wp2_with fail
  rw [← HB0.out]
  exact bodyPost_ret (v := .tuple #[.slice none 0 0, .int .i64 101]) (by simp [results, Tryz.results40, go_sem]) rfl ⟨.slice none 0 0, rfl, own_nil w _ LB.out⟩
end Go.Proofs.YtijnjgnckipghaaGreat
