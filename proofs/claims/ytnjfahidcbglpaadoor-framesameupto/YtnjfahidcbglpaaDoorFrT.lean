/- The contracts of the document's number and rule. -/
import Derived.Test.YtnjfahidcbglpaaDoorFrR
namespace Go.Proofs.YtnjfahidcbglpaaDoor
open Go.RowKit
theorem numA_snoc (l : List UInt8) (c : UInt8) (acc : Nat) : numA acc (l ++ [c]) = numA acc l * 10 + (c.toNat - 48) := by unfold numA; rw [List.foldl_append]; rfl
theorem numR_short {l : List UInt8} (h : l.length < 1) : numR l = -1 := by
  unfold numR isNum
  rw [decide_eq_false (by omega)]
  rfl
theorem numR_long {l : List UInt8} (h : 18 < l.length) : numR l = -1 := by
  unfold numR isNum
  rw [decide_eq_false (p := l.length ≤ 18) (by omega), Bool.and_false, Bool.false_and]
  rfl
theorem numR_bad {l : List UInt8} {k : Nat} (hk : k < l.length) (h : digF l[k] = false) : numR l = -1 := by
  unfold numR isNum
  have : l.all digF = false := by rw [List.all_eq_false]; exact ⟨l[k], List.getElem_mem _, by simp [h]⟩
  rw [this, Bool.and_false]
  rfl
theorem numR_good {l : List UInt8} (h1 : 1 ≤ l.length) (h2 : l.length ≤ 18) (h3 : l.all digF = true) : numR l = (numF l : Int) := by
  unfold numR isNum
  rw [decide_eq_true h1, decide_eq_true h2, h3]
  rfl
/-- what is gathered of the first k bytes, all digits -/
def NumTo (s : ByteArray) (k : Nat) (a : Int) : Prop := (s.data.toList.take k).all digF = true ∧ a = (numF (s.data.toList.take k) : Int) ∧ 0 ≤ a ∧ a < 10 ^ k
theorem numTo_next {s : ByteArray} {k : Nat} {a : Int} (h : NumTo s k a) (hk : k < s.size) (h0 : 48 ≤ s[k].toNat) (h1 : s[k].toNat ≤ 57) : NumTo s (k + 1) (a * 10 + (s[k].toNat : Int) - 48) := by
  obtain ⟨h2, h3, h4, h5⟩ := h
  refine ⟨?_, ?_, by omega, ?_⟩
  · rw [take_snoc s k hk, List.all_append, h2, List.all_cons, List.all_nil, Bool.and_true, Bool.true_and]
    exact decide_eq_true ⟨h0, h1⟩
  · rw [take_snoc s k hk]
    unfold numF at h3 ⊢
    rw [numA_snoc]
    omega
  · rw [Int.pow_succ]
    omega
theorem pow17 {k : Nat} (h : k ≤ 17) : (10 : Int) ^ k ≤ 100000000000000000 := by
  have h1 : (10 : Nat) ^ k ≤ 10 ^ 17 := Nat.pow_le_pow_right (by decide) h
  have h2 : ((10 ^ k : Nat) : Int) ≤ ((10 ^ 17 : Nat) : Int) := by exact_mod_cast h1
  have h3 : ((10 ^ k : Nat) : Int) = (10 : Int) ^ k := by push_cast; rfl
  rw [← h3]
  exact h2
set_option maxRecDepth 20000 in
set_option maxHeartbeats 2000000 in
theorem numRef (l : List UInt8) (w : World) (hl : l.length ≤ 140737488351232) :
    Calls Tryd.prog 40 #[.string ⟨l.toArray⟩] w fun e w' => e = .returned (.int .i64 (numR l)) ∧ w' = w := by
  have hz : (⟨l.toArray⟩ : ByteArray).size = l.length := size_l l
  have hd : (⟨l.toArray⟩ : ByteArray).data.toList = l := by simp
  obtain ⟨q, eq⟩ : ∃ q, q = numR l := ⟨_, rfl⟩
  rw [← eq]
  have EQ := hide' eq
  clear eq
  obtain ⟨s, es⟩ : ∃ s, s = (⟨l.toArray⟩ : ByteArray) := ⟨_, rfl⟩
  rw [← es] at hz hd ⊢
  have HD := hide' hd
  clear es hd
  by_cases h1 : l.length < 1
  · have R := hide' (EQ.out.trans (numR_short h1))
    have t1 : s.size < 1 := by omega
    have HZ := hide' hz
    clear EQ hz h1
    go_enter Tryd.func40, Tryd.ntmps40
    go_wp2_with fail
    go_ret
    exact ⟨by rw [R.out]; rfl, rfl⟩
  · by_cases h2 : 18 < l.length
    · have R := hide' (EQ.out.trans (numR_long h2))
      have t1 : ¬ s.size < 1 := by omega
      have t2 : 18 < s.size := by omega
      have HZ := hide' hz
      clear EQ hz h1 h2
      go_enter Tryd.func40, Tryd.ntmps40
      go_wp2_with fail
      go_ret
      exact ⟨by rw [R.out]; rfl, rfl⟩
    · have t1 : ¬ s.size < 1 := by omega
      have t2 : s.size ≤ 18 := by omega
      have XG := hide' (numR_good (l := l) (by omega) (by omega))
      have XB := hide' (fun k hk hh => numR_bad (l := l) (k := k) hk hh)
      rw [← EQ.out] at XG XB
      rw [← HD.out] at XG XB
      have HZ := hide' hz
      clear hz h1 h2 EQ HD hl
      go_enter Tryd.func40, Tryd.ntmps40
      go_wp2_with fail
      go_loop [3, 4] (fun av i => ∃ (k : Nat) (a : Int), k ≤ s.size ∧ av = .int .i64 a ∧ i = .int .i64 k ∧ Hid (NumTo s k a)) (fun _ i => s.size - (intOf i).toNat)
      case atStart => exact ⟨0, 0, Nat.zero_le _, rfl, rfl, rfl, rfl, by decide, by decide⟩
      case round =>
        obtain ⟨k, a, hk, rfl, rfl, P⟩ := hrel
        by_cases hlt : k < s.size
        · have hb := byte_lt s[k]
          have p18 := pow17 (show k ≤ 17 by omega)
          obtain ⟨a0, a1⟩ := P.out.2.2
          have a2 : a < 100000000000000000 := by omega
          have XK := hide' (numTo_next P.out hlt)
          have XD := hide' (XB.out k (by simpa using hlt))
          have ek : s.data.toList[k]'(by simpa using hlt) = s[k] := rfl
          rw [ek] at XD
          clear p18 a1 ek
          by_cases d1 : s[k].toNat < 48
          · have R := hide' (XD.out (decide_eq_false (by omega)))
            have c1 : (s[k].toNat : Int) < 48 := by omega
            clear XK XD d1 P
            go_wp2_with fail
            go_ret
            exact ⟨by rw [R.out]; rfl, rfl⟩
          · by_cases d2 : 57 < s[k].toNat
            · have R := hide' (XD.out (decide_eq_false (by omega)))
              have c1 : 57 < (s[k].toNat : Int) := by omega
              have c2 : ¬ (s[k].toNat : Int) < 48 := by omega
              clear XK XD d1 d2 P
              go_wp2_with fail
              go_ret
              exact ⟨by rw [R.out]; rfl, rfl⟩
            · have R := hide' (XK.out (by omega) (by omega))
              have c1 : ¬ 57 < (s[k].toNat : Int) := by omega
              have c2 : ¬ (s[k].toNat : Int) < 48 := by omega
              clear XK XD d1 d2 P
              go_wp2_with fail
              go_round
              case rel => exact ⟨k + 1, a * 10 + (s[k].toNat : Int) - 48, by omega, by first | rfl | go_num | (congr 1; unfold wrap64; omega), by go_num, R⟩
              case measure => simp [intOf]; omega
        · have ek : s.data.toList.take k = s.data.toList := take_all s k (by omega)
          have PA := P.out.1
          have PB := P.out.2.1
          rw [ek] at PA PB
          have R := hide' ((XG.out PA).trans PB.symm)
          clear ek PA PB
          go_wp2_with fail
          go_ret
          exact ⟨by rw [R.out]; rfl, rfl⟩
end Go.Proofs.YtnjfahidcbglpaaDoor
