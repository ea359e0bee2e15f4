/- The contracts of strconv.ParseUint at base ten and 63 bits and of number, out of what the row lists of the library's two errors. -/
import Derived.Test.YtnjfahidcbglpaaDoorFrN
import Derived.Test.YtnjfahidcbglpaaDoorQd
import Derived.Stop.LaidErr
import Derived.MakeChecks
namespace Go.Proofs.YtnjfahidcbglpaaDoor
open Go.RowKit
/-- the library's two errors are errors -/
def Er (w : World) : Prop := (∃ tp p, w.cell? ⟨1, 0, none⟩ = some (.iface tp p)) ∧ (∃ tp p, w.cell? ⟨2, 0, none⟩ = some (.iface tp p))
theorem er_lt {w : World} {g : Nat} {v : Value} (h : w.cell? ⟨g, 0, none⟩ = some v) : g < w.heap.size := by
  rcases Nat.lt_or_ge g w.heap.size with h1 | h1
  · exact h1
  · unfold World.cell? at h
    rw [Array.getElem?_eq_none h1] at h
    simp at h
theorem er_below {w w' : World} (h : Er w) (hb : Below w.heap.size w w') : Er w' := by
  obtain ⟨⟨t1, p1, h1⟩, t2, p2, h2⟩ := h
  exact ⟨⟨t1, p1, by rw [hb.cell (p := ⟨1, 0, none⟩) (er_lt h1)]; exact h1⟩, t2, p2, by rw [hb.cell (p := ⟨2, 0, none⟩) (er_lt h2)]; exact h2⟩
/-- what ParseUint tells of bytes -/
def puR (l : List UInt8) : Lib.NumEnd Nat := if l = [] then .syntax else Lib.parseUintM 9223372036854775807 0 l
theorem pu_dig : ∀ (l : List UInt8) (acc u : Nat), Lib.parseUintM 9223372036854775807 acc l = .ok u → l.all digF = true := by
  intro l
  induction l with
  | nil => intro _ _ _; rfl
  | cons c r ih =>
    intro acc u h
    simp only [Lib.parseUintM] at h
    split at h
    · rename_i hd
      split at h
      · cases h
      · split at h
        · cases h
        · rw [List.all_cons, Bool.and_eq_true]
          exact ⟨decide_eq_true hd, ih _ _ h⟩
    · cases h
theorem pu_num (K M : Nat) (hK : K ≤ 1000000000000000000) (hM : K ≤ M) : ∀ (l : List UInt8) (acc : Nat), l.all digF = true → (acc + 1) * 10 ^ l.length ≤ K → Lib.parseUintM M acc l = .ok (numA acc l) := by
  intro l
  induction l with
  | nil =>
    intro acc _ _
    rw [numA_nil]
    simp only [Lib.parseUintM]
  | cons c r ih =>
    intro acc h hb
    rw [List.all_cons, Bool.and_eq_true] at h
    have hd : 48 ≤ c.toNat ∧ c.toNat ≤ 57 := of_decide_eq_true h.1
    have h3 : (acc * 10 + (c.toNat - 48) + 1) * 10 ^ r.length ≤ ((acc + 1) * 10) * 10 ^ r.length := Nat.mul_le_mul_right _ (by omega)
    rw [List.length_cons, Nat.pow_succ, Nat.mul_comm (10 ^ r.length) 10, ← Nat.mul_assoc] at hb
    have h4 := Nat.le_trans h3 hb
    have h5 : acc * 10 + (c.toNat - 48) + 1 ≤ (acc * 10 + (c.toNat - 48) + 1) * 10 ^ r.length := Nat.le_mul_of_pos_right _ (Nat.pow_pos (by decide))
    have h6 := Nat.le_trans h5 h4
    have hc : ¬ 1844674407370955162 ≤ acc := by omega
    have ho : ¬ M < acc * 10 + (c.toNat - 48) := by omega
    rw [numA_cons]
    simp only [Lib.parseUintM, if_pos hd, if_neg hc, if_neg ho]
    exact ih _ h.2 h4
theorem puR_num {l : List UInt8} (h : isNum l = true) : puR l = .ok (numF l) := by
  obtain ⟨h1, h2, h3⟩ := isNum_parts h
  unfold puR
  rw [if_neg (by intro e; rw [e] at h1; simp at h1)]
  refine pu_num (10 ^ 18) 9223372036854775807 (Nat.le_of_ble_eq_true rfl) (Nat.le_of_ble_eq_true rfl) l 0 h3 ?_
  rw [Nat.zero_add, Nat.one_mul]
  exact Nat.pow_le_pow_right (by decide) h2
theorem puR_ok {l : List UInt8} {u : Nat} (h : puR l = .ok u) : isNum l = decide (l.length ≤ 18) ∧ u ≤ 9223372036854775807 := by
  unfold puR at h
  split at h
  · cases h
  · rename_i hn
    have h1 : 1 ≤ l.length := by
      rcases Nat.eq_zero_or_pos l.length with e | e
      · exact absurd (List.eq_nil_of_length_eq_zero e) hn
      · exact e
    refine ⟨?_, Lib.parseUintM_le _ _ _ _ (by decide) h⟩
    unfold isNum
    rw [decide_eq_true h1, pu_dig l 0 u h, Bool.true_and, Bool.and_true]
theorem puR_bad {l : List UInt8} (h : ∀ u, ¬ puR l = .ok u) : isNum l = false := by
  cases e : isNum l with
  | false => rfl
  | true => exact absurd (puR_num e) (h _)
theorem innerU (l : List UInt8) (hl : l.length ≤ 281474976710656) (w : World) :
    Calls Tryd.prog 57 #[.string ⟨l.toArray⟩, .int .i64 10, .int .i64 63] w fun e w' => e = .returned (Lib.uintTupleM 84 9223372036854775807 (puR l)) ∧ Below w.heap.size w w' := by
  by_cases h : l = []
  · subst h
    refine (puEmpty w).mono ?_
    rintro e w' ⟨rfl, rfl⟩
    exact ⟨rfl, Below.refl _ _⟩
  · have e1 : puR l = Lib.parseUintM 9223372036854775807 0 l := if_neg h
    have hs : (⟨l.toArray⟩ : ByteArray).size = l.length := size_l l
    have h0 : ¬ (⟨l.toArray⟩ : ByteArray).size = 0 := by rw [hs]; intro e; exact h (List.eq_nil_of_length_eq_zero e)
    refine (puSome ⟨l.toArray⟩ h0 (by rw [hs]; omega) w).mono ?_
    rintro e w' ⟨rfl, rfl⟩
    rw [e1]
    exact ⟨by simp, Lib.bytesWorld_below _ _ _⟩
set_option maxHeartbeats 1000000 in
set_option maxRecDepth 20000 in
theorem parseOk (l : List UInt8) (hl : l.length ≤ 281474976710656) (u : Nat) (hu : puR l = .ok u) (w : World) :
    Calls Tryd.prog 53 #[.string ⟨l.toArray⟩, .int .i64 10, .int .i64 63] w fun e w' => e = .returned (.tuple #[.int .u64 (u : Int), .nilIface]) ∧ Below w.heap.size w w' := by
  have c := innerU l hl w
  rw [hu] at c
  have C : Hid (Calls Tryd.prog 57 #[.string ⟨l.toArray⟩, .int .i64 10, .int .i64 63] w fun e w' => e = .returned (.tuple #[.int .u64 (u : Int), .nilIface]) ∧ Below w.heap.size w w') := c
  have ub := (puR_ok hu).2
  obtain ⟨a, ea⟩ : ∃ a : Int, a = (u : Int) := ⟨_, rfl⟩
  have a0 : 0 ≤ a := by omega
  have a1 : a ≤ 9223372036854775807 := by omega
  rw [← ea] at C ⊢
  clear c hu ea ub
  go_enter Tryd.func53, Tryd.ntmps53
  go_wp2_with fail
  refine C.out.mono ?_
  rintro e w1 ⟨rfl, b1⟩
  have B1 := hide' b1
  clear b1 C
  go_wp2_with fail
  go_ret2
  exact ⟨rfl, B1.out⟩
set_option maxHeartbeats 1000000 in
set_option maxRecDepth 20000 in
theorem parseBad (l : List UInt8) (hl : l.length ≤ 281474976710656) (hb : ∀ u, ¬ puR l = .ok u) (w : World) (E : Er w) :
    Calls Tryd.prog 53 #[.string ⟨l.toArray⟩, .int .i64 10, .int .i64 63] w fun e w' => ∃ (a : Int) (N : Nat), e = .returned (.tuple #[.int .u64 a, .iface 88 (.pointer (some ⟨N, 0, none⟩))]) ∧ 0 ≤ a ∧ a ≤ 9223372036854775807 ∧ Below w.heap.size w w' := by
  have c := innerU l hl w
  have EV := hide' E
  have hs : (⟨l.toArray⟩ : ByteArray).size ≤ 281474976710656 := by rw [size_l]; exact hl
  cases hr : puR l with
  | ok u => exact absurd hr (hb u)
  | «syntax» =>
    rw [hr] at c
    have C : Hid (Calls Tryd.prog 57 #[.string ⟨l.toArray⟩, .int .i64 10, .int .i64 63] w fun e w' => e = .returned (.tuple #[.int .u64 0, .iface 84 (.int .i64 2)]) ∧ Below w.heap.size w w') := c
    clear c hr hb E
    go_enter Tryd.func53, Tryd.ntmps53
    go_wp2_with fail
    refine C.out.mono ?_
    rintro e w1 ⟨rfl, b1⟩
    have B1 := hide' b1
    obtain ⟨⟨tp, p, hv⟩, _⟩ := er_below EV.out b1
    have K := hide' (Any.strconv_toError_syntax Tryd.laysC245 ⟨#[80, 97, 114, 115, 101, 85, 105, 110, 116]⟩ ⟨l.toArray⟩ 10 63 (.iface tp p) w1 hs hv (.inr ⟨tp, p, rfl⟩))
    clear b1 C hv
    go_wp2_with fail
    refine K.out.mono ?_
    rintro e w2 ⟨N, rfl, _, _, b2⟩
    have B2 := hide' (bt' B1.out b2)
    clear b2 K
    go_wp2_with fail
    go_ret2
    exact ⟨0, N, rfl, by omega, by omega, B2.out⟩
  | range =>
    rw [hr] at c
    have C : Hid (Calls Tryd.prog 57 #[.string ⟨l.toArray⟩, .int .i64 10, .int .i64 63] w fun e w' => e = .returned (.tuple #[.int .u64 9223372036854775807, .iface 84 (.int .i64 1)]) ∧ Below w.heap.size w w') := c
    clear c hr hb E
    go_enter Tryd.func53, Tryd.ntmps53
    go_wp2_with fail
    refine C.out.mono ?_
    rintro e w1 ⟨rfl, b1⟩
    have B1 := hide' b1
    obtain ⟨_, tp, p, hv⟩ := er_below EV.out b1
    have K := hide' (Any.strconv_toError_range Tryd.laysC245 ⟨#[80, 97, 114, 115, 101, 85, 105, 110, 116]⟩ ⟨l.toArray⟩ 10 63 (.iface tp p) w1 hs hv (.inr ⟨tp, p, rfl⟩))
    clear b1 C hv
    go_wp2_with fail
    refine K.out.mono ?_
    rintro e w2 ⟨N, rfl, _, _, b2⟩
    have B2 := hide' (bt' B1.out b2)
    clear b2 K
    go_wp2_with fail
    go_ret2
    exact ⟨9223372036854775807, N, rfl, by omega, by omega, B2.out⟩
set_option maxHeartbeats 1000000 in
set_option maxRecDepth 20000 in
theorem numTok (l : List UInt8) (hl : l.length ≤ 281474976710656) (w : World) (E : Er w) :
    Calls Tryd.prog 47 #[.string ⟨l.toArray⟩] w fun e w' => ∃ x : Int, e = .returned (.tuple #[.int .i64 x, .bool (isNum l)]) ∧ Hid (isNum l = true → x = (numF l : Int)) ∧ (0 ≤ x ∧ x ≤ 9223372036854775807) ∧ Below w.heap.size w w' := by
  have hz : (⟨l.toArray⟩ : ByteArray).size = l.length := size_l l
  by_cases h : ∃ u, puR l = .ok u
  · obtain ⟨u, hu⟩ := h
    have C := hide' (parseOk l hl u hu w)
    obtain ⟨h1, h2⟩ := puR_ok hu
    have XN : Hid (isNum l = true → (u : Int) = (numF l : Int)) := fun hn => by
      have := (puR_num hn).symm.trans hu
      cases this; rfl
    obtain ⟨a, ea⟩ : ∃ a : Int, a = (u : Int) := ⟨_, rfl⟩
    have a0 : 0 ≤ a := by omega
    have a1 : a ≤ 9223372036854775807 := by omega
    rw [← ea] at C XN
    obtain ⟨d, ed⟩ : ∃ d, d = isNum l := ⟨_, rfl⟩
    rw [← ed] at h1 XN ⊢
    have H1 := hide' h1
    clear hu ea h1 h2 E ed
    generalize (⟨l.toArray⟩ : ByteArray) = t at C hz ⊢
    go_enter Tryd.func47, Tryd.ntmps47
    go_wp2_with fail
    refine C.out.mono ?_
    rintro e w1 ⟨rfl, b1⟩
    have B1 := hide' b1
    clear b1 C
    have D : Hid (d = decide ((t.size : Int) ≤ 18)) := by
      unfold Hid
      rw [H1.out, hz]
      exact decide_eq_decide.2 ⟨fun h => by omega, fun h => by omega⟩
    have HZ := hide' hz
    clear hz
    go_wp2_with fail
    go_ret2
    exact ⟨a, by rw [D.out]; rfl, XN, ⟨a0, a1⟩, B1.out⟩
  · have hb : ∀ u, ¬ puR l = .ok u := fun u e => h ⟨u, e⟩
    have C := hide' (parseBad l hl hb w E)
    have D := hide' (puR_bad hb)
    clear h hb E
    rw [D.out]
    generalize (⟨l.toArray⟩ : ByteArray) = t at C hz ⊢
    have HZ := hide' hz
    clear hz
    go_enter Tryd.func47, Tryd.ntmps47
    go_wp2_with fail
    refine C.out.mono ?_
    rintro e w1 ⟨a, N, rfl, a0, a1, b1⟩
    have B1 := hide' b1
    clear b1 C
    go_wp2_with fail
    go_ret2
    exact ⟨a, rfl, fun e => (by cases e), ⟨a0, a1⟩, B1.out⟩
end Go.Proofs.YtnjfahidcbglpaaDoor
