/- The contract of directives. Plain: the number that an element tells; the lengths' rule, the codings', the fields'; what folding leaves of a number. Nothing of the program is named here. The contracts of slices.Index and slices.Contains over texts, of Last, and of the document's Has and Last. -/
import Derived.Test.YtlhhcpbfjjhbfabDoorKnE
import Derived.Test.YtlhhcpbfjjhbfabDoorBm
import Derived.Test.YtlhhcpbfjjhbfabDoorBo
namespace Go.Proofs.YtlhhcpbfjjhbfabDoor
open Go.RowKit
theorem dirs_len (vs : List (List UInt8)) : (dirsOf vs).length ≤ bulkT vs := by
  have h := toks_len vs
  unfold toksOf at h
  rw [List.length_map] at h
  unfold dirsOf
  rw [List.length_map]
  exact h
theorem dirs_take (vs : List (List UInt8)) (k : Nat) : (dirsOf (vs.take k)).length ≤ bulkT vs := Nat.le_trans (dirs_len _) (bulkT_take vs k)
set_option maxHeartbeats 4000000 in
theorem directivesC (v : Value) (vs : List (List UInt8)) (w : World) (hv : Holds w v vs) (hb : bulkT vs ≤ 4194000) :
    Calls Tryd.prog 22 #[v] w fun e w' => ∃ u, e = .returned u ∧ OwnDC w u (dirsOf vs) w' := by
  obtain ⟨ao, ca, b, o, rfl, hc⟩ := holds_parts hv
  have C := hide' hc
  have hlv := bulkT_len vs
  have MM : Hid _ := bulkT_mem vs
  have TL : Hid (∀ k, (dirsOf (vs.take k)).length ≤ 4194000) := fun k => Nat.le_trans (dirs_take vs k) hb
  clear hv hc
  obtain ⟨n, en⟩ : ∃ n, n = vs.length := ⟨_, rfl⟩
  have N : Hid (vs.length = n) := en.symm
  rw [N.out] at hlv ⊢
  clear en
  go_enter Tryd.func22, Tryd.ntmps22
  go_wp2_with fail
  go_loopw [3, 10] (fun v i wr => ∃ (vo : Value) (k : Nat), vo = v ∧ k ≤ n ∧ i = .int .i64 k ∧ OwnDC w vo (dirsOf (vs.take k)) wr) (fun _ i _ => n - (intOf i).toNat)
  case atStart => exact ⟨_, 0, rfl, Nat.zero_le _, rfl, ownDC_nil w w (Below.refl _ _)⟩
  case round =>
    obtain ⟨vo, k, rfl, hk, rfl, ho⟩ := hrel
    obtain ⟨w2, ew⟩ : ∃ w2, w2 = wr := ⟨_, rfl⟩
    subst ew
    have tl := TL.out k
    by_cases hlt : k < n
    · have G : Hid (k < vs.length) := by unfold Hid; rw [N.out]; exact hlt
      obtain ⟨hao, hblt, hcell⟩ := C.out (by have := G.out; omega)
      subst hao
      have ck : w2.cell? ⟨b, o + k, none⟩ = some (.string ⟨(vs[k]'G.out).toArray⟩) := by rw [ho.2.cell (p := ⟨b, o + k, none⟩) hblt]; exact hcell k G.out
      have hx := MM.out _ (List.getElem_mem G.out)
      have cL := hide' (fun W => listTok ⟨(vs[k]'G.out).toArray⟩ W (by rw [size_l]; omega))
      have tl2 := TL.out (k + 1)
      have R := hide' (dirs_next vs k G.out)
      have LM := hide' (fun p hp => listOf_mem (vs[k]'G.out) p hp)
      simp only at cL
      rw [R.out, List.length_append, List.length_map] at tl2
      generalize vs[k]'G.out = q at ck hx cL tl2 R LM
      generalize dirsOf (vs.take k) = acc at ho tl tl2 R
      generalize listOf q = el at cL tl2 R LM
      go_wp2_with fail
      refine (cL.out _).mono ?_
      rintro e w3 ⟨u3, rfl, ho3⟩
      obtain ⟨a3, c3, b3, o3, hu3, ha3, HE⟩ := els_startC ho ho3
      have E3 := hide' HE
      have A3 := hide' ha3
      have O3 := hide' (ownDC_mono ho ho3.2)
      rw [hu3]
      clear ho3 ho hu3 ha3 HE cL ck hcell
      obtain ⟨m, em⟩ : ∃ m, m = el.length := ⟨_, rfl⟩
      have M : Hid (el.length = m) := em.symm
      rw [M.out] at tl2 ⊢
      clear em
      go_wp2_with fail
      go_loopw [3, 17] (fun v i wr => ∃ (vi : Value) (j : Nat), vi = v ∧ j ≤ m ∧ i = .int .i64 j ∧ OwnDC w vi (acc ++ (el.take j).map dirOf) wr ∧ Hid (Els el b3 o3 vi wr)) (fun _ i _ => m - (intOf i).toNat)
      case atStart => exact ⟨_, 0, rfl, Nat.zero_le _, rfl, by simpa using O3.out, E3⟩
      case round =>
        clear E3 O3
        obtain ⟨vi, j, rfl, hj, rfl, ho, E3⟩ := hrel
        by_cases hjt : j < m
        · have G2 : Hid (j < el.length) := by unfold Hid; rw [M.out]; exact hjt
          have ha := A3.out (by have := G2.out; omega)
          subst ha
          have cj := (E3.out (by have := G2.out; omega)).2.2 j G2.out
          unfold S at cj
          have hy := LM.out _ (List.getElem_mem G2.out)
          have CF := hide' (fun W => readKC (el[j]'G2.out) W (by omega))
          have R2 : Hid (acc ++ (el.take (j + 1)).map dirOf = (acc ++ (el.take j).map dirOf) ++ [dirOf (el[j]'G2.out)]) := by
            unfold Hid; rw [List.take_succ_eq_append_getElem G2.out, List.map_append, List.append_assoc]; rfl
          have al : (acc ++ (el.take j).map dirOf).length ≤ 4194000 := by
            rw [List.length_append, List.length_map, List.length_take]; have := M.out; omega
          generalize dirOf (el[j]'G2.out) = d at CF R2
          generalize el[j]'G2.out = p at cj CF hy
          generalize acc ++ (el.take j).map dirOf = acc2 at ho al R2
          unfold dirV at CF
          go_wp2_with (first
            | (go_at_call 40; refine (CF.out _).mono ?_; rintro e w5 ⟨rfl, hb5⟩; have ho5 := ownDC_mono ho hb5; have E5 := hide' (els_below E3.out hb5); clear ho hb5 cj)
            | (at_builtin; refine appDC rfl (.tmp 21) (.tmp 24) rfl w _ _ rfl ho5 d rfl rfl rfl rfl (by omega) ?_; intro v6 w6 ho6 hx6))
          have E6 := hide' (els_app E5.out hx6)
          clear hx6 E5
          go_roundw
          case rel => exact ⟨_, j + 1, rfl, by omega, by go_num, by rw [R2.out]; exact ho6, E6⟩
          case measure => simp [intOf]; omega
        · have E : Hid (el.take j = el) := List.take_of_length_le (by rw [M.out]; omega)
          rw [E.out] at ho
          go_wp2_with fail
          go_roundw
          case rel => exact ⟨_, k + 1, rfl, by omega, by go_num, by rw [R.out]; exact ho⟩
          case measure => simp [intOf]; omega
    · have E2 : Hid (vs.take k = vs) := List.take_of_length_le (by rw [N.out]; omega)
      rw [E2.out] at ho
      go_wp2_with fail
      go_ret
      exact ⟨_, rfl, ho⟩
end Go.Proofs.YtlhhcpbfjjhbfabDoor
namespace Go.Proofs.YtlhhcpbfjjhbfabDoor
open Go.RowKit
def digF (c : UInt8) : Bool := decide (48 ≤ c.toNat ∧ c.toNat ≤ 57)
/-- one to 18 digits -/
def isNum (l : List UInt8) : Bool := decide (1 ≤ l.length) && decide (l.length ≤ 18) && l.all digF
def numA (acc : Nat) (l : List UInt8) : Nat := l.foldl (fun a c => a * 10 + (c.toNat - 48)) acc
theorem numA_nil (acc : Nat) : numA acc [] = acc := by unfold numA; rw [List.foldl_nil]
theorem numA_cons (acc : Nat) (c : UInt8) (r : List UInt8) : numA acc (c :: r) = numA (acc * 10 + (c.toNat - 48)) r := by unfold numA; rw [List.foldl_cons]
def numF (l : List UInt8) : Nat := numA 0 l
/-- the number, or -1 -/
def numR (l : List UInt8) : Int := if isNum l = true then (numF l : Int) else -1
def lensOf : List (List UInt8) → Int × Int × Int
  | [] => (0, 0, 60)
  | x :: r => if (isNum x && r.all (fun y => isNum y && decide (numF y = numF x))) = true then (if 65536 < numF x then (0, 0, 71) else (1, (numF x : Int), 0)) else (0, 0, 60)
def chunkedB : List UInt8 := [99, 104, 117, 110, 107, 101, 100]
def codOf (minor : Int) (ws : List (List UInt8)) : Int × Int × Int := if minor = 0 ∨ ¬ ws = [chunkedB] then (0, 0, 62) else (2, 0, 0)
def TEb : List UInt8 := [84, 114, 97, 110, 115, 102, 101, 114, 45, 69, 110, 99, 111, 100, 105, 110, 103]
def CLb : List UInt8 := [67, 111, 110, 116, 101, 110, 116, 45, 76, 101, 110, 103, 116, 104]
def COb : List UInt8 := [67, 111, 110, 110, 101, 99, 116, 105, 111, 110]
def teb : List UInt8 := [116, 114, 97, 110, 115, 102, 101, 114, 45, 101, 110, 99, 111, 100, 105, 110, 103]
def clb : List UInt8 := [99, 111, 110, 116, 101, 110, 116, 45, 108, 101, 110, 103, 116, 104]
def cob : List UInt8 := [99, 111, 110, 110, 101, 99, 116, 105, 111, 110]
def closeB : List UInt8 := [99, 108, 111, 115, 101]
def keepB : List UInt8 := [107, 101, 101, 112, 45, 97, 108, 105, 118, 101]
/-- the fields' rule: kind, length, error; silent is the kind where the fields tell none -/
def ruleOf (minor : Int) (fs : FL) (silent : Int) : Int × Int × Int :=
  if 0 < (valsOf fs TEb).length ∧ 0 < (valsOf fs CLb).length then (0, 0, 61)
  else if 0 < (valsOf fs TEb).length then codOf minor (toksOf (valsOf fs TEb))
  else if 0 < (valsOf fs CLb).length then lensOf (toksOf (valsOf fs CLb))
  else (silent, 0, 0)
def headB : List UInt8 := [72, 69, 65, 68]
def connB : List UInt8 := [67, 79, 78, 78, 69, 67, 84]
def bareOf (s : Int) (m : List UInt8) : Bool := decide (m = headB ∨ (100 ≤ s ∧ s ≤ 199) ∨ s = 204 ∨ s = 304 ∨ (m = connB ∧ 200 ≤ s ∧ s ≤ 299))
def fresOf (s minor : Int) (fs : FL) (m : List UInt8) : Int × Int × Int := if bareOf s m = true then (0, 0, 0) else ruleOf minor fs 3
def lastOf (minor : Int) (ws : List (List UInt8)) : Bool := decide (closeB ∈ ws) || (decide (minor = 0) && ! decide (keepB ∈ ws))
theorem vals_low {n m : List UInt8} (h : lows n = lows m) (fs : FL) : valsOf fs n = valsOf fs m := by unfold valsOf; rw [h]
theorem vals_te (fs : FL) : valsOf fs teb = valsOf fs TEb := vals_low (by decide) fs
theorem vals_cl (fs : FL) : valsOf fs clb = valsOf fs CLb := vals_low (by decide) fs
theorem vals_co (fs : FL) : valsOf fs cob = valsOf fs COb := vals_low (by decide) fs
theorem dig_low : ∀ n : Fin 256, digF (low (UInt8.ofNat n.val)) = digF (UInt8.ofNat n.val) ∧ (digF (UInt8.ofNat n.val) = true → low (UInt8.ofNat n.val) = UInt8.ofNat n.val) := by decide +kernel
theorem dig_low' (c : UInt8) : digF (low c) = digF c ∧ (digF c = true → low c = c) := by
  have h := dig_low ⟨c.toNat, c.toNat_lt⟩
  simp only [UInt8.ofNat_toNat] at h
  exact h
theorem all_low (l : List UInt8) : (lows l).all digF = l.all digF := by
  induction l with
  | nil => rfl
  | cons c r ih =>
    have e : lows (c :: r) = low c :: lows r := rfl
    rw [e, List.all_cons, List.all_cons, ih, (dig_low' c).1]
theorem isNum_low (l : List UInt8) : isNum (lows l) = isNum l := by
  have e : (lows l).length = l.length := by simp [lows]
  unfold isNum; rw [all_low, e]
theorem lows_dig (l : List UInt8) (h : l.all digF = true) : lows l = l := by
  induction l with
  | nil => rfl
  | cons c r ih =>
    rw [List.all_cons, Bool.and_eq_true] at h
    have e : lows (c :: r) = low c :: lows r := rfl
    rw [e, ih h.2, (dig_low' c).2 h.1]
theorem isNum_parts {l : List UInt8} (h : isNum l = true) : 1 ≤ l.length ∧ l.length ≤ 18 ∧ l.all digF = true := by
  unfold isNum at h
  simp only [Bool.and_eq_true, decide_eq_true_eq] at h
  exact ⟨h.1.1, h.1.2, h.2⟩
theorem numF_low {l : List UInt8} (h : isNum l = true) : numF (lows l) = numF l := by rw [lows_dig l (isNum_parts h).2.2]
theorem lens_low (els : List (List UInt8)) : lensOf (els.map lows) = lensOf els := by
  cases els with
  | nil => rfl
  | cons x r =>
    rw [List.map_cons]
    simp only [lensOf]
    rw [isNum_low]
    cases hx : isNum x with
    | false => rfl
    | true =>
      have e : (r.map lows).all (fun y => isNum y && decide (numF y = numF (lows x))) = r.all (fun y => isNum y && decide (numF y = numF x)) := by
        rw [List.all_map]
        congr 1
        funext y
        simp only [Function.comp, isNum_low, numF_low hx]
        cases hy : isNum y with
        | false => rfl
        | true => rw [numF_low hy]
      rw [e, numF_low hx]
theorem lens_toks (vs : List (List UInt8)) : lensOf (toksOf vs) = lensOf (vs.flatMap listOf) := lens_low _
theorem numA_bound (l : List UInt8) : ∀ acc, l.all digF = true → numA acc l < (acc + 1) * 10 ^ l.length := by
  induction l with
  | nil =>
    intro acc _
    rw [List.length_nil, Nat.pow_zero, Nat.mul_one, numA_nil]
    exact Nat.lt_succ_self acc
  | cons c r ih =>
    intro acc h
    rw [List.all_cons, Bool.and_eq_true] at h
    have h1 := ih (acc * 10 + (c.toNat - 48)) h.2
    have h2 : c.toNat - 48 ≤ 9 := by
      have := h.1
      unfold digF at this
      simp at this; omega
    have h3 : (acc * 10 + (c.toNat - 48) + 1) * 10 ^ r.length ≤ ((acc + 1) * 10) * 10 ^ r.length := Nat.mul_le_mul_right _ (by omega)
    rw [List.length_cons, Nat.pow_succ, Nat.mul_comm (10 ^ r.length) 10, ← Nat.mul_assoc, numA_cons]
    exact Nat.lt_of_lt_of_le h1 h3
theorem numF_bound {l : List UInt8} (h : isNum l = true) : numF l < 1000000000000000000 := by
  obtain ⟨_, h2, h3⟩ := isNum_parts h
  have h1 := numA_bound l 0 h3
  have h4 : (10 : Nat) ^ l.length ≤ 10 ^ 18 := Nat.pow_le_pow_right (by decide) h2
  rw [Nat.zero_add, Nat.one_mul] at h1
  exact Nat.lt_of_lt_of_le h1 h4
theorem toks_le (fs : FL) (nm : List UInt8) (hb : bulkF fs ≤ 1048576) : (toksOf (valsOf fs nm)).length ≤ 1048576 := by
  have h1 := toks_len (valsOf fs nm)
  have h2 := bulk_vals fs nm
  omega
end Go.Proofs.YtlhhcpbfjjhbfabDoor
namespace Go.Proofs.YtlhhcpbfjjhbfabDoor
open Go.RowKit
set_option maxHeartbeats 1000000 in
theorem indexS (v : Value) (ws : List (List UInt8)) (x : List UInt8) (w : World) (hv : Holds w v ws) (hl : ws.length ≤ 1000000000000000) :
    Calls Tryd.prog 36 #[v, .string ⟨x.toArray⟩] w fun e w' => ∃ i : Int, e = .returned (.int .i64 i) ∧ Hid (decide (0 ≤ i) = decide (x ∈ ws)) ∧ -1 ≤ i ∧ i ≤ 1000000000000000 ∧ w' = w := by
  obtain ⟨ao, ca, b, o, rfl, hc⟩ := holds_parts hv
  have C := hide' hc
  clear hv hc
  obtain ⟨n, en⟩ : ∃ n, n = ws.length := ⟨_, rfl⟩
  have N : Hid (ws.length = n) := en.symm
  rw [N.out] at hl ⊢
  clear en
  go_enter Tryd.func36, Tryd.ntmps36
  go_wp2_with fail
  go_loop [8] (fun i => ∃ k : Nat, k ≤ n ∧ i = .int .i64 k ∧ Hid (∀ j (h : j < ws.length), j < k → ¬ x = ws[j])) (fun i => n - (intOf i).toNat)
  case atStart => exact ⟨0, Nat.zero_le _, rfl, fun j h hj => absurd hj (by omega)⟩
  case round =>
    obtain ⟨k, hk, rfl, A⟩ := hrel
    by_cases hlt : k < n
    · have G : Hid (k < ws.length) := by unfold Hid; rw [N.out]; exact hlt
      obtain ⟨hao, hblt, hcell⟩ := C.out (by have := G.out; omega)
      subst hao
      have ck := hcell k G.out
      unfold S at ck
      clear hcell
      by_cases he : x = ws[k]'G.out
      · have M : Hid (x ∈ ws) := by unfold Hid; rw [he]; exact List.getElem_mem _
        rw [← he] at ck
        clear he
        go_wp2_with fail
        go_ret
        exact ⟨(k : Int), rfl, by have m := M.out; unfold Hid; simp [m], by omega, by omega, rfl⟩
      · have A2 : Hid (∀ j (h : j < ws.length), j < k + 1 → ¬ x = ws[j]) := by
          intro j h hj
          by_cases hjk : j = k
          · subst hjk; exact he
          · exact A.out j h (by omega)
        have hne := ba_eql' _ _ he
        have hne2 : (x == ws[k]'G.out) = false := by simpa using he
        clear he
        generalize ws[k]'G.out = q at ck hne hne2
        go_wp2_with fail
        go_round
        case rel => exact ⟨k + 1, by omega, by go_num, A2⟩
        case measure => simp [intOf]; omega
    · have M : Hid (¬ x ∈ ws) := by
        intro hm
        obtain ⟨j, hj, e⟩ := List.getElem_of_mem hm
        exact A.out j hj (by have := N.out; omega) e.symm
      go_wp2_with fail
      go_ret
      exact ⟨-1, rfl, by have m := M.out; unfold Hid; simp [m], by omega, by omega, rfl⟩
set_option maxHeartbeats 400000 in
theorem containsS (v : Value) (ws : List (List UInt8)) (x : List UInt8) (w : World) (hv : Holds w v ws) (hl : ws.length ≤ 1000000000000000) :
    Calls Tryd.prog 18 #[v, .string ⟨x.toArray⟩] w fun e w' => e = .returned (.bool (decide (x ∈ ws))) ∧ w' = w := by
  have c := hide' (indexS v ws x w hv hl)
  obtain ⟨ao, ca, b, o, rfl, _⟩ := holds_parts hv
  generalize decide (x ∈ ws) = d at c ⊢
  clear hv
  go_enter Tryd.func18, Tryd.ntmps18
  go_wp2_with fail
  refine c.out.mono ?_
  rintro e w' ⟨i, rfl, hd, h1, h2, ew⟩
  rw [ew]
  go_wp2_with fail
  go_ret
  exact ⟨by rw [← hd.out]; rfl, rfl⟩
end Go.Proofs.YtlhhcpbfjjhbfabDoor
