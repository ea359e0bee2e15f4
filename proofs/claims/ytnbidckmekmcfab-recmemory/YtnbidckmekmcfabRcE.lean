/- The contract of rec.Encode. -/
import Derived.Test.YtnbidckmekmcfabRcM
import Derived.Test.YtnbidckmekmcfabQ4
import Derived.Lib.AppendStr
import Derived.OwnWalk
namespace Go.Proofs.Ytnbidckmekmcfab
open Go.RowKit
/-- a record as a value -/
def recV (seq op no : Int) (id : List UInt8) : Value := .agg #[.int .i64 seq, .int .i64 op, .int .i64 no, .string ⟨id.toArray⟩]
theorem enc_bad1 {seq op no : Int} {id : List UInt8} (h : decide (op = 1 ∨ op = 2) = false) : encOf seq op no id = ([], 100) := by
  unfold encOf; rw [if_neg (fun g => (of_decide_eq_false h) g.1)]
theorem enc_bad2 {seq op no : Int} {id : List UInt8} (h : decide (0 ≤ seq ∧ seq ≤ 4294967295) = false) : encOf seq op no id = ([], 100) := by
  unfold encOf; rw [if_neg (fun g => (of_decide_eq_false h) g.2.1)]
theorem enc_bad3 {seq op no : Int} {id : List UInt8} (h : decide (0 ≤ no ∧ no ≤ 4294967295) = false) : encOf seq op no id = ([], 100) := by
  unfold encOf; rw [if_neg (fun g => (of_decide_eq_false h) g.2.2)]
theorem enc_ok {seq op no : Int} {id : List UInt8} (h1 : decide (op = 1 ∨ op = 2) = true) (h2 : decide (0 ≤ seq ∧ seq ≤ 4294967295) = true) (h3 : decide (0 ≤ no ∧ no ≤ 4294967295) = true) :
    encOf seq op no id = if id.length ≤ 4096 then (recL op.toNat seq.toNat no.toNat id, 0) else ([], 101) := by
  unfold encOf; rw [if_pos ⟨of_decide_eq_true h1, of_decide_eq_true h2, of_decide_eq_true h3⟩]
/-- a text's bytes appended -/
theorem appTxt {ops : Array Oper} {rest : List Oper} {o : Oper} {a : Act} {Q : Exit → Act → World → Prop} {wr : World} (hgd : o.guard = none) (s z : Operand)
    (ho : o.op = .call { callee := .builtin .append, args := #[s, z], argTypes := #[25, 9] }) (w0 : World) (v : Value) (ps : List UInt8) (hs : a.eval s = v) (hown : Own w0 v ps wr)
    (q : List UInt8) (hz : a.eval z = .string ⟨q.toArray⟩) (hlen : ps.length + q.length ≤ 140737488355328)
    (h : ∀ v' w', Own w0 v' (ps ++ q) w' → wpList Try.prog ops Q rest (a.put o.dst v') w') : wpList Try.prog ops Q (o :: rest) a wr := by
  obtain ⟨i0, hi, hz0, hz1, hz2⟩ := info_parts Try.info5
  have hsz := hown.2.size
  have hq : (⟨q.toArray⟩ : ByteArray).size = q.length := size_l q
  have hc : Lib.strCells ⟨q.toArray⟩ = q.map B := by unfold Lib.strCells B; simp
  refine Lib.wpList_append_own_string _ hgd s z 25 9 ho w0.heap.size 5 i0 Try.underlying25 Try.underlying9 hi hz0 hz1 hz2 v ps.length (ps.map B) hs hown.1 ⟨q.toArray⟩ hz (by rw [hq]; unfold maxLen; omega) (by rw [hq]; exact hlen) hsz ?_
  intro v' w' h1 h2 _
  rw [hq, hc] at h1
  refine h v' w' ⟨by rw [List.map_append, List.length_append]; exact h1, ?_⟩
  refine Below.grown hown.2 h2 (by omega) ?_
  intro k hk
  exact (hown.1.lt k hk).1
theorem makeN (w : World) (n : Nat) (hn : n ≤ 1000000) : (Instr.makeSlice 25 (.int .i64 0) (.int .i64 (n : Int))).run Try.prog w = .ok (.slice (some ⟨w.heap.size, 0, none⟩) 0 n) (w.alloc (.cells (madeCells #[.int .u8 0] n) 5)) := by
  obtain ⟨i0, hi, hz0, hz1, hz2⟩ := info_parts Try.info5
  have h := run_make (P := Try.prog) w 25 5 i0 (.int .u8 0) Try.underlying25 hi hz0 .i64 .i64 0 n (by omega) (by omega) (by rw [hz2]; omega) (by omega)
  rw [hz1] at h
  rw [show (Value.int .u8 0).cells = #[Value.int .u8 0] from rfl] at h
  simpa using h
theorem own_made (w : World) (n : Nat) (hn : n ≤ 1000000) : Own w (.slice (some ⟨w.heap.size, 0, none⟩) 0 n) [] (w.alloc (.cells (madeCells #[.int .u8 0] n) 5)) :=
  ⟨World.ownsRow_made w _ n (Nat.le_refl _) (by unfold maxLen; omega) (by rw [size_madeCells]; omega), (Below.refl _ _).alloc (Nat.le_refl _) _⟩
set_option maxRecDepth 20000 in
set_option maxHeartbeats 4000000 in
theorem encC (seq op no : Int) (id : List UInt8) (w : World) (hi : id.length ≤ 1000000000000000) :
    Calls Try.prog 5 #[recV seq op no id] w fun e w' => ∃ u, e = .returned (.tuple #[u, .int .i64 (encOf seq op no id).2]) ∧ Own w u (encOf seq op no id).1 w' := by
  have hsz : Hid ((⟨id.toArray⟩ : ByteArray).size = id.length) := size_l id
  obtain ⟨R, hR⟩ : ∃ R, R = encOf seq op no id := ⟨_, rfl⟩
  rw [← hR]
  obtain ⟨b1, hb1⟩ : ∃ b, b = decide (op = 1 ∨ op = 2) := ⟨_, rfl⟩
  obtain ⟨b2, hb2⟩ : ∃ b, b = decide (0 ≤ seq ∧ seq ≤ 4294967295) := ⟨_, rfl⟩
  obtain ⟨b3, hb3⟩ : ∃ b, b = decide (0 ≤ no ∧ no ≤ 4294967295) := ⟨_, rfl⟩
  have H1 := hide' hb1
  have H2 := hide' hb2
  have H3 := hide' hb3
  have HR := hide' hR
  have c1 : ∀ W, Hid (Calls Try.prog 10 #[.int .i64 op] W fun e w' => e = .returned (.bool b1) ∧ w' = W) := fun W => by unfold Hid; rw [hb1]; exact isOpC op W
  have c2 : ∀ W, Hid (Calls Try.prog 11 #[.int .i64 seq] W fun e w' => e = .returned (.bool b2) ∧ w' = W) := fun W => by unfold Hid; rw [hb2]; exact fitsC seq W
  have c3 : ∀ W, Hid (Calls Try.prog 11 #[.int .i64 no] W fun e w' => e = .returned (.bool b3) ∧ w' = W) := fun W => by unfold Hid; rw [hb3]; exact fitsC no W
  clear hb1 hb2 hb3 hR
  unfold recV
  obtain ⟨B0, hB0⟩ : ∃ B0, B0 = w.alloc (.cells #[.int .i64 seq, .int .i64 op, .int .i64 no, .string ⟨id.toArray⟩] 23) := ⟨_, rfl⟩
  have Q0 := quad_lit w (.int .i64 seq) (.int .i64 op) (.int .i64 no) (.string ⟨id.toArray⟩) 23
  have L0 := below_alloc' w (.cells #[.int .i64 seq, .int .i64 op, .int .i64 no, .string ⟨id.toArray⟩] 23)
  have HB0 := hide' hB0
  rw [← hB0] at Q0 L0
  have LB := hide' L0
  have HQ := hide' Q0
  clear hB0 L0 Q0
  go_enter Try.func5, Try.ntmps5
  go_wp2_with fail
  rw [← HB0.out]
  obtain ⟨q0, q1, q2, q3, -, -, -, -, qz⟩ := HQ.out
  refine (c1 B0).out.mono ?_
  rintro e w9 ⟨rfl, ew⟩
  rw [ew]; clear ew w9
  cases b1 with
  | false =>
    have eR : Hid (R = ([], 100)) := by unfold Hid; rw [HR.out]; exact enc_bad1 H1.out.symm
    go_wp2_with fail
    exact bodyPost_ret (v := .tuple #[.slice none 0 0, .int .i64 100]) (by simp [results, Try.results5, go_sem]) rfl ⟨.slice none 0 0, by rw [eR.out], by rw [eR.out]; exact own_nil w _ LB.out⟩
  | true =>
  go_wp2_with fail
  refine (c2 B0).out.mono ?_
  rintro e w9 ⟨rfl, ew⟩
  rw [ew]; clear ew w9
  cases b2 with
  | false =>
    have eR : Hid (R = ([], 100)) := by unfold Hid; rw [HR.out]; exact enc_bad2 H2.out.symm
    go_wp2_with fail
    exact bodyPost_ret (v := .tuple #[.slice none 0 0, .int .i64 100]) (by simp [results, Try.results5, go_sem]) rfl ⟨.slice none 0 0, by rw [eR.out], by rw [eR.out]; exact own_nil w _ LB.out⟩
  | true =>
  go_wp2_with fail
  refine (c3 B0).out.mono ?_
  rintro e w9 ⟨rfl, ew⟩
  rw [ew]; clear ew w9
  cases b3 with
  | false =>
    have eR : Hid (R = ([], 100)) := by unfold Hid; rw [HR.out]; exact enc_bad3 H3.out.symm
    go_wp2_with fail
    exact bodyPost_ret (v := .tuple #[.slice none 0 0, .int .i64 100]) (by simp [results, Try.results5, go_sem]) rfl ⟨.slice none 0 0, by rw [eR.out], by rw [eR.out]; exact own_nil w _ LB.out⟩
  | true =>
  obtain ⟨n, hn⟩ : ∃ n, n = id.length := ⟨_, rfl⟩
  have SZ : (⟨id.toArray⟩ : ByteArray).size = n := by rw [hsz.out, hn]
  have hnl : n ≤ 1000000000000000 := by omega
  by_cases hlong : n ≤ 4096
  · have eR : Hid (R = (recL op.toNat seq.toNat no.toNat id, 0)) := by
      unfold Hid; rw [HR.out, enc_ok H1.out.symm H2.out.symm H3.out.symm, if_pos (by omega)]
    obtain ⟨s1, hs1⟩ : ∃ s1 : Nat, (s1 : Int) = seq := ⟨seq.toNat, by have := of_decide_eq_true H2.out.symm; omega⟩
    obtain ⟨n1, hn1⟩ : ∃ n1 : Nat, (n1 : Int) = no := ⟨no.toNat, by have := of_decide_eq_true H3.out.symm; omega⟩
    have hop : op = 1 ∨ op = 2 := of_decide_eq_true H1.out.symm
    have hor : bits .or .i64 192 op = 192 + op := by rcases hop with rfl | rfl <;> decide
    have hc : Hid (((UInt8.ofNat (192 + op.toNat)).toNat : Int) = 192 + op) := by unfold Hid; rw [ofNat_mod]; omega
    have eL : Hid (recL op.toNat seq.toNat no.toNat id = ((((([] ++ [UInt8.ofNat (192 + op.toNat)]) ++ beN 2 n) ++ beN 4 s1) ++ beN 4 n1) ++ id) ++ beN 4 (sumOf (((((([] ++ [UInt8.ofNat (192 + op.toNat)]) ++ beN 2 n) ++ beN 4 s1) ++ beN 4 n1) ++ id)))) := by
      unfold Hid recL
      have e : recB op.toNat seq.toNat no.toNat id = ((((([] ++ [UInt8.ofNat (192 + op.toNat)]) ++ beN 2 n) ++ beN 4 s1) ++ beN 4 n1) ++ id) := by
        unfold recB
        rw [hn, show seq.toNat = s1 by omega, show no.toNat = n1 by omega]
        simp [List.append_assoc]
      rw [e]
    have hopi : 1 ≤ op ∧ op ≤ 2 := by omega
    have SL : Hid (s1 < 4503599627370496 ∧ n1 < 4503599627370496) := by
      unfold Hid; have := of_decide_eq_true H2.out.symm; have := of_decide_eq_true H3.out.symm; omega
    generalize UInt8.ofNat (192 + op.toNat) = c at hc eL
    have l1 : Hid (([] ++ [c]).length = 1) := rfl
    have l2 : Hid ((([] ++ [c]) ++ beN 2 n).length = 3) := by unfold Hid; simp [beN_len]
    have l3 : Hid (((([] ++ [c]) ++ beN 2 n) ++ beN 4 s1).length = 7) := by unfold Hid; simp [beN_len]
    have l4 : Hid ((((([] ++ [c]) ++ beN 2 n) ++ beN 4 s1) ++ beN 4 n1).length = 11) := by unfold Hid; simp [beN_len]
    have l5 : Hid (((((([] ++ [c]) ++ beN 2 n) ++ beN 4 s1) ++ beN 4 n1) ++ id).length = 11 + n) := by unfold Hid; simp [beN_len, hn]; omega
    have lid : Hid (id.length = n) := hn.symm
    have hmk := makeN B0 (n + 15) (by omega)
    have om := own_made B0 (n + 15) (by omega)
    have en : ((n + 15 : Nat) : Int) = 11 + (n : Int) + 4 := by omega
    rw [en] at hmk
    obtain ⟨B1, hB1⟩ : ∃ B1, B1 = B0.alloc (.cells (madeCells #[.int .u8 0] (n + 15)) 5) := ⟨_, rfl⟩
    rw [← hB1] at hmk om
    obtain ⟨x0, x1, x2, x3, -, -, -, -, xz⟩ := quad_below HQ.out om.2
    have OM := hide' om
    rw [← hs1] at q0 x0
    rw [← hn1] at q2 x2
    have HS1 := hide' hs1.symm
    have HN1 := hide' hn1.symm
    clear hB1 om en hn hs1 hn1 hop
    have hd : decide (4096 < (n : Int)) = false := by simp; omega
    go_wp2_with (at_builtin; refine app1 rfl (.tmp 31) (.tmp 36) rfl B0 _ [] rfl OM.out c (by have := hc.out; omega) rfl (by simp) ?_; intro v2 w2 ho2; obtain ⟨y0, y1, y2, y3, -, -, -, -, yz⟩ := quad_below HQ.out ho2.2; have O2 := hide' ho2; clear ho2)
    clear x0 x1 x2 x3 xz q0 q1 q2 q3 qz hmk OM
    go_wp2_with fail
    refine (appendNumberC v2 ([] ++ [c]) B0 w2 n 2 O2.out (by decide) (by rw [l1.out]; decide)).mono ?_
    rintro e w3 ⟨v3, rfl, ho3⟩
    obtain ⟨z0, z1, z2, z3, -, -, -, -, zz⟩ := quad_below HQ.out ho3.2
    rw [HS1.out] at z0
    have O3 := hide' ho3
    clear ho3 y0 y1 y2 y3 yz O2
    go_wp2_with fail
    refine (appendNumberC v3 _ B0 w3 s1 4 O3.out (by decide) (by rw [l2.out]; decide)).mono ?_
    rintro e w4 ⟨v4, rfl, ho4⟩
    obtain ⟨y0, y1, y2, y3, -, -, -, -, yz⟩ := quad_below HQ.out ho4.2
    rw [HN1.out] at y2
    have O4 := hide' ho4
    clear ho4 z0 z1 z2 z3 zz O3
    go_wp2_with fail
    refine (appendNumberC v4 _ B0 w4 n1 4 O4.out (by decide) (by rw [l3.out]; decide)).mono ?_
    rintro e w5 ⟨v5, rfl, ho5⟩
    obtain ⟨z0, z1, z2, z3, -, -, -, -, zz⟩ := quad_below HQ.out ho5.2
    have O5 := hide' ho5
    clear ho5 y0 y1 y2 y3 yz O4
    go_wp2_with (at_builtin; refine appTxt rfl (.tmp 51) (.tmp 53) rfl B0 _ _ rfl O5.out id rfl (by rw [l4.out, lid.out]; omega) ?_; intro v6 w6 ho6)
    have O6 := hide' ho6
    have S6 := hide' (holdsB_own ho6)
    clear ho6 z0 z1 z2 z3 zz O5
    generalize ((((([] ++ [c]) ++ beN 2 n) ++ beN 4 s1) ++ beN 4 n1) ++ id) = L5 at O6 S6 l5 eL
    go_wp2_with fail
    refine (sumC v6 L5 w6 S6.out (by rw [l5.out]; omega)).mono ?_
    rintro e w9 ⟨rfl, ew⟩
    rw [ew]; clear ew w9
    go_wp2_with fail
    refine (appendNumberC v6 L5 B0 w6 (sumOf L5) 4 O6.out (by decide) (by rw [l5.out]; omega)).mono ?_
    rintro e w7 ⟨v7, rfl, ho7⟩
    have O7 := hide' ho7
    clear ho7
    go_wp2_with fail
    exact bodyPost_ret (v := .tuple #[v7, .int .i64 0]) (by simp [results, Try.results5, go_sem]) rfl ⟨v7, by rw [eR.out], by rw [eR.out, eL.out]; exact own_base O7.out LB.out⟩
  · have eR : Hid (R = ([], 101)) := by unfold Hid; rw [HR.out, enc_ok H1.out.symm H2.out.symm H3.out.symm, if_neg (by omega)]
    have hd : decide (4096 < (n : Int)) = true := by simp; omega
    clear hn
    go_wp2_with fail
    exact bodyPost_ret (v := .tuple #[.slice none 0 0, .int .i64 101]) (by simp [results, Try.results5, go_sem]) rfl ⟨.slice none 0 0, by rw [eR.out], by rw [eR.out]; exact own_nil w _ LB.out⟩
end Go.Proofs.Ytnbidckmekmcfab
