/- The contracts of number, monthOf and clockSecond. -/
import Derived.Test.YtikokjclhpgocabDoorDaS
namespace Go.Proofs.YtikokjclhpgocabDoor
open Go.RowKit
theorem ne_list {a b : ByteArray} (h : ¬ a = b) : (a.toList == b.toList) = false := by
  rw [Lib.toList_data, Lib.toList_data]
  simp only [beq_eq_false_iff_ne, ne_eq]
  intro e
  exact h (ByteArray.ext (Array.ext' e))
def isDig (c : UInt8) : Bool := decide (48 ≤ (c.toNat : Int) ∧ (c.toNat : Int) ≤ 57)
def digs (l : List UInt8) : Bool := l.all isDig
def numV (l : List UInt8) : Int := l.foldl (fun n c => n * 10 + ((c.toNat : Int) - 48)) 0
def numB (l : List UInt8) : Int := if digs l then numV l else 0
theorem numV_snoc (l : List UInt8) (c : UInt8) : numV (l ++ [c]) = numV l * 10 + ((c.toNat : Int) - 48) := by simp [numV]
theorem digs_snoc (l : List UInt8) (c : UInt8) : digs (l ++ [c]) = (digs l && isDig c) := by simp [digs]
theorem isDig_in {c : UInt8} (h : isDig c = true) : 48 ≤ (c.toNat : Int) ∧ (c.toNat : Int) ≤ 57 := by simpa [isDig] using h
theorem numV_bd (s : ByteArray) : ∀ k, digs (s.data.toList.take k) = true → k ≤ s.size → 0 ≤ numV (s.data.toList.take k) ∧ numV (s.data.toList.take k) + 1 ≤ 10 ^ k := by
  intro k
  induction k with
  | zero => intro _ _; simp [numV]
  | succ k ih =>
    intro h hk
    rw [take_snoc s k (by omega)] at h ⊢
    rw [digs_snoc, Bool.and_eq_true] at h
    obtain ⟨a, b⟩ := ih h.1 (by omega)
    have := isDig_in h.2
    rw [numV_snoc, Int.pow_succ]
    omega
theorem pow_le8 {k : Nat} (h : k ≤ 8) : (10 : Int) ^ k ≤ 100000000 := by
  have : k = 0 ∨ k = 1 ∨ k = 2 ∨ k = 3 ∨ k = 4 ∨ k = 5 ∨ k = 6 ∨ k = 7 ∨ k = 8 := by omega
  rcases this with rfl | rfl | rfl | rfl | rfl | rfl | rfl | rfl | rfl <;> decide
theorem digs_bad (s : ByteArray) (k : Nat) (h : k < s.size) (hc : isDig s[k] = false) : digs s.data.toList = false := by
  unfold digs
  rw [List.all_eq_false]
  exact ⟨s.data.toList[k]'(by simpa using h), List.getElem_mem _, by rw [show s.data.toList[k]'(by simpa using h) = s[k] from rfl, hc]; simp⟩
set_option maxHeartbeats 1000000 in
theorem numberCode (s : ByteArray) (hs : s.size ≤ 8) (w : World) :
    Calls Tryd.prog 30 #[.string s] w fun e w' => e = .returned (.tuple #[.int .i64 (numB s.data.toList), .bool (digs s.data.toList)]) ∧ w' = w := by
  go_enter Tryd.func30, Tryd.ntmps30
  go_wp2
  go_loop [4, 5, 8] (fun nv _ iv => ∃ (k : Nat) (n : Int), k ≤ s.size ∧ iv = .int .i64 k ∧ nv = .int .i64 n ∧ Hid (n = numV (s.data.toList.take k)) ∧ Hid (digs (s.data.toList.take k) = true)) (fun _ _ iv => s.size - (intOf iv).toNat)
  case atStart => exact ⟨0, 0, by omega, rfl, rfl, rfl, rfl⟩
  case round =>
    obtain ⟨k, n, hk, rfl, rfl, hn, hd⟩ := hrel
    have bn : 0 ≤ n ∧ n ≤ 100000000 := by
      have := numV_bd s k hd.out hk
      rw [← hn.out] at this
      have := pow_le8 (show k ≤ 8 by omega)
      omega
    by_cases hlt : k < s.size
    · have hb := byte_lt s[k]
      cases hc : isDig s[k] with
      | true =>
        obtain ⟨c0, c1⟩ := isDig_in hc
        have N : Hid (n * 10 + ((s[k].toNat : Int) - 48) = numV (s.data.toList.take (k + 1))) := by unfold Hid; rw [take_snoc s k hlt, numV_snoc, ← hn.out]
        have D : Hid (digs (s.data.toList.take (k + 1)) = true) := by unfold Hid; rw [take_snoc s k hlt, digs_snoc, hd.out, hc]; rfl
        clear hc hn hd
        go_wp2
        go_round
        case rel => exact ⟨k + 1, n * 10 + ((s[k].toNat : Int) - 48), by omega, by go_num, rfl, N, D⟩
        case measure => simp [intOf]; omega
      | false =>
        have F : Hid (digs s.data.toList = false) := digs_bad s k hlt hc
        have G : Hid (numB s.data.toList = 0) := by unfold Hid numB; rw [F.out]; rfl
        have hc2 : (s[k].toNat : Int) < 48 ∨ (48 ≤ (s[k].toNat : Int) ∧ 57 < (s[k].toNat : Int)) := by
          have : ¬ (48 ≤ (s[k].toNat : Int) ∧ (s[k].toNat : Int) ≤ 57) := by simpa [isDig] using hc
          omega
        clear hc hn hd
        rcases hc2 with c0 | ⟨c0, c1⟩
        all_goals
          go_wp2
          go_ret2
          rw [F.out, G.out]
          exact ⟨rfl, rfl⟩
    · have F : Hid (digs s.data.toList = true) := by have := hd.out; rwa [take_all s k (by omega)] at this
      have G : Hid (numB s.data.toList = n) := by unfold Hid numB; rw [F.out, if_pos rfl, hn.out, take_all s k (by omega)]
      clear hn hd
      go_wp2
      go_ret2
      rw [F.out, G.out]
      exact ⟨rfl, rfl⟩
def moB (k : Nat) : ByteArray := ⟨(motab.getD k []).toArray⟩
theorem idx12 (k : Nat) (h : k < 12) (w : World) : Sem.run Tryd.prog (Instr.index 75 (.agg #[.string (moB 0), .string (moB 1), .string (moB 2), .string (moB 3), .string (moB 4), .string (moB 5), .string (moB 6), .string (moB 7), .string (moB 8), .string (moB 9), .string (moB 10), .string (moB 11)]) (.int .i64 k)) w = .ok (.string (moB k)) w := by
  have : k = 0 ∨ k = 1 ∨ k = 2 ∨ k = 3 ∨ k = 4 ∨ k = 5 ∨ k = 6 ∨ k = 7 ∨ k = 8 ∨ k = 9 ∨ k = 10 ∨ k = 11 := by omega
  rcases this with rfl | rfl | rfl | rfl | rfl | rfl | rfl | rfl | rfl | rfl | rfl | rfl <;> simp [Instr.index, run_underlying Tryd.underlying75, asIntOf, go_sem]
set_option maxHeartbeats 1000000 in
theorem monthOfCode (s : ByteArray) (j : Nat) (hj : j ≤ 12) (hne : ∀ k, k < j → ¬ moB k = s) (heq : j < 12 → moB j = s) (v : Int) (b : Bool) (hv : (j < 12 ∧ v = (j : Int) + 1 ∧ b = true) ∨ (j = 12 ∧ v = 0 ∧ b = false)) (w : World) (V : Vars w) :
    Calls Tryd.prog 31 #[.string s] w fun e w' => e = .returned (.tuple #[.int .i64 v, .bool b]) ∧ w' = w := by
  have m0 : w.cell? ⟨1, 0, none⟩ = some (.string (moB 0)) := V.mon 0 (by omega)
  have m1 : w.cell? ⟨1, 1, none⟩ = some (.string (moB 1)) := V.mon 1 (by omega)
  have m2 : w.cell? ⟨1, 2, none⟩ = some (.string (moB 2)) := V.mon 2 (by omega)
  have m3 : w.cell? ⟨1, 3, none⟩ = some (.string (moB 3)) := V.mon 3 (by omega)
  have m4 : w.cell? ⟨1, 4, none⟩ = some (.string (moB 4)) := V.mon 4 (by omega)
  have m5 : w.cell? ⟨1, 5, none⟩ = some (.string (moB 5)) := V.mon 5 (by omega)
  have m6 : w.cell? ⟨1, 6, none⟩ = some (.string (moB 6)) := V.mon 6 (by omega)
  have m7 : w.cell? ⟨1, 7, none⟩ = some (.string (moB 7)) := V.mon 7 (by omega)
  have m8 : w.cell? ⟨1, 8, none⟩ = some (.string (moB 8)) := V.mon 8 (by omega)
  have m9 : w.cell? ⟨1, 9, none⟩ = some (.string (moB 9)) := V.mon 9 (by omega)
  have m10 : w.cell? ⟨1, 10, none⟩ = some (.string (moB 10)) := V.mon 10 (by omega)
  have m11 : w.cell? ⟨1, 11, none⟩ = some (.string (moB 11)) := V.mon 11 (by omega)
  clear V
  replace hne := hide hne
  replace heq := hide heq
  replace hv := hide hv
  go_enter Tryd.func31, Tryd.ntmps31
  go_wp2_with fail
  clear m0 m1 m2 m3 m4 m5 m6 m7 m8 m9 m10 m11
  go_loop [4, 5, 7] (fun _ _ iv => ∃ k : Nat, k ≤ j ∧ iv = .int .i64 k) (fun _ _ iv => 12 - (intOf iv).toNat)
  case atStart => exact ⟨0, by omega, rfl⟩
  case round =>
    obtain ⟨k, hk, rfl⟩ := hrel
    by_cases h12 : k < 12
    · have hI := idx12 k h12
      by_cases hkj : k < j
      · have q := ne_list (hne.out k hkj)
        generalize moB k = x at hI q
        go_wp2_with fail
        go_round
        case rel => exact ⟨k + 1, by omega, by go_num⟩
        case measure => simp [intOf]; omega
      · obtain rfl : k = j := by omega
        have q := heq.out h12
        rw [q] at hI
        have F : Hid (v = (k : Int) + 1 ∧ b = true) := by
          rcases hv.out with ⟨_, h1, h2⟩ | ⟨h, _⟩
          · exact ⟨h1, h2⟩
          · omega
        clear q
        go_wp2_with fail
        go_ret2
        rw [F.out.1, F.out.2]
        exact ⟨rfl, rfl⟩
    · obtain rfl : k = j := by omega
      have F : Hid (v = 0 ∧ b = false) := by
        rcases hv.out with ⟨h, _⟩ | ⟨_, h1, h2⟩
        · omega
        · exact ⟨h1, h2⟩
      go_wp2_with fail
      go_ret2
      rw [F.out.1, F.out.2]
      exact ⟨rfl, rfl⟩
/-- what number says of a text -/
def NumIs (x : ByteArray) (v : Int) (b : Bool) : Prop := x.size ≤ 8 ∧ v = numB x.data.toList ∧ b = digs x.data.toList
theorem numIs {x : ByteArray} {v : Int} {b : Bool} (h : NumIs x v b) (w : World) :
    Calls Tryd.prog 30 #[.string x] w fun e w' => e = .returned (.tuple #[.int .i64 v, .bool b]) ∧ w' = w := by
  obtain ⟨h0, rfl, rfl⟩ := h
  exact numberCode x h0 w
set_option maxHeartbeats 1000000 in
theorem clockCode_no1 (s : ByteArray) (hs : s.size = 8) (h : ¬ (s[2].toNat : Int) = 58 ∨ ((s[2].toNat : Int) = 58 ∧ ¬ (s[5].toNat : Int) = 58)) (w : World) :
    Calls Tryd.prog 32 #[.string s] w fun e w' => e = .returned (.tuple #[.int .i64 0, .bool false]) ∧ w' = w := by
  rcases h with h | ⟨h, h'⟩
  · have b1 : ((s[2].toNat : Int) == 58) = false := by simpa using h
    have b2 : ((s[2].toNat : Int) != 58) = true := by simpa using h
    clear h
    go_enter Tryd.func32, Tryd.ntmps32
    go_wp2_with fail
    go_ret2
    exact ⟨rfl, rfl⟩
  · have b1 : ((s[2].toNat : Int) != 58) = false := by simpa using h
    have b2 : ((s[5].toNat : Int) != 58) = true := by simpa using h'
    clear h h'
    go_enter Tryd.func32, Tryd.ntmps32
    go_wp2_with fail
    go_ret2
    exact ⟨rfl, rfl⟩
set_option maxHeartbeats 2000000 in
theorem clockCode_yes (s : ByteArray) (hs : s.size = 8) (h2 : (s[2].toNat : Int) = 58) (h5 : (s[5].toNat : Int) = 58) (a b c : Int) (ha : NumIs (s.extract 0 2) a true) (hb : NumIs (s.extract 3 5) b true) (hc : NumIs (s.extract 6 8) c true)
    (a0 : 0 ≤ a) (b0 : 0 ≤ b) (c0 : 0 ≤ c) (a1 : a ≤ 23) (b1 : b ≤ 59) (c1 : c ≤ 59) (w : World) :
    Calls Tryd.prog 32 #[.string s] w fun e w' => e = .returned (.tuple #[.int .i64 (a * 3600 + b * 60 + c), .bool true]) ∧ w' = w := by
  have k1 : ((s[2].toNat : Int) != 58) = false := by simpa using h2
  have k2 : ((s[5].toNat : Int) != 58) = false := by simpa using h5
  have cA := hide (numIs ha)
  have cB := hide (numIs hb)
  have cC := hide (numIs hc)
  clear h2 h5 ha hb hc
  go_enter Tryd.func32, Tryd.ntmps32
  go_wp2_with fail
  refine (cA.out _).mono ?_
  rintro e w1 ⟨rfl, rfl⟩
  go_wp2_with fail
  refine (cB.out _).mono ?_
  rintro e w1 ⟨rfl, rfl⟩
  go_wp2_with fail
  refine (cC.out _).mono ?_
  rintro e w1 ⟨rfl, rfl⟩
  go_wp2_with fail
  go_ret2
  exact ⟨rfl, rfl⟩
set_option maxHeartbeats 2000000 in
theorem clockCode_no2 (s : ByteArray) (hs : s.size = 8) (h2 : (s[2].toNat : Int) = 58) (h5 : (s[5].toNat : Int) = 58) (a b c : Int) (x y z : Bool) (ha : NumIs (s.extract 0 2) a x) (hb : NumIs (s.extract 3 5) b y) (hc : NumIs (s.extract 6 8) c z)
    (h : x = false ∨ (x = true ∧ y = false) ∨ (x = true ∧ y = true ∧ z = false) ∨ (x = true ∧ y = true ∧ z = true ∧ 23 < a) ∨ (x = true ∧ y = true ∧ z = true ∧ a ≤ 23 ∧ 59 < b) ∨ (x = true ∧ y = true ∧ z = true ∧ a ≤ 23 ∧ b ≤ 59 ∧ 59 < c)) (w : World) :
    Calls Tryd.prog 32 #[.string s] w fun e w' => e = .returned (.tuple #[.int .i64 0, .bool false]) ∧ w' = w := by
  have k1 : ((s[2].toNat : Int) != 58) = false := by simpa using h2
  have k2 : ((s[5].toNat : Int) != 58) = false := by simpa using h5
  have cA := hide (numIs ha)
  have cB := hide (numIs hb)
  have cC := hide (numIs hc)
  clear h2 h5 ha hb hc
  rcases h with rfl | ⟨rfl, rfl⟩ | ⟨rfl, rfl, rfl⟩ | ⟨rfl, rfl, rfl, q1⟩ | ⟨rfl, rfl, rfl, q1, q2⟩ | ⟨rfl, rfl, rfl, q1, q2, q3⟩
  all_goals
    go_enter Tryd.func32, Tryd.ntmps32
    go_wp2_with fail
    refine (cA.out _).mono ?_
    rintro e w1 ⟨rfl, rfl⟩
    go_wp2_with fail
    refine (cB.out _).mono ?_
    rintro e w1 ⟨rfl, rfl⟩
    go_wp2_with fail
    refine (cC.out _).mono ?_
    rintro e w1 ⟨rfl, rfl⟩
    go_wp2_with fail
    go_ret2
    exact ⟨rfl, rfl⟩
end Go.Proofs.YtikokjclhpgocabDoor
