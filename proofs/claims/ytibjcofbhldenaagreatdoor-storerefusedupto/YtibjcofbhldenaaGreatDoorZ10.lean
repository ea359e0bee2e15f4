/- Entries in the document's words, plain: an entry's bytes, what is read of any bytes; that it is read as it was written, that no other bytes are read as it, that bytes which are cut, lengthened or changed at one byte are no entry's. Nothing of the program is named here. The contracts of object.isTime, appendNumber, appendSection. The contract of object.number. -/
import Derived.Lib.AppendZeros
import Derived.Test.YtibjcofbhldenaaGreatDoorZ01
import Derived.Test.YtibjcofbhldenaaGreatDoorZ09
import Derived.Test.YtibjcofbhldenaaGreatDoorZ05
import Derived.Test.YtibjcofbhldenaaGreatDoorZ04
namespace Go.Proofs.YtibjcofbhldenaaGreatDoor
def goodTm (v : Int) : Bool := decide (0 ≤ v ∧ v ≤ 253402300799)
def withinL (e : En) : Bool := decide (1 ≤ e.key.length) && (decide (e.key.length ≤ 4096) && (decide (e.vary.length ≤ 4096) && (decide (e.body.length ≤ 65536) && (goodTm e.a && goodTm e.g))))
/-- a section -/
def secL (t : Nat) (d : List UInt8) : List UInt8 := UInt8.ofNat t :: (beN 4 d.length ++ d)
def objB (e : En) (h : List UInt8) : List UInt8 :=
  [67, 79, 49] ++ (secL 1 e.key ++ (secL 2 e.vary ++ (secL 3 h ++ (secL 4 e.body ++ secL 5 (beN 8 e.a.toNat ++ beN 8 e.g.toNat)))))
def objL (e : En) (h : List UInt8) : List UInt8 := objB e h ++ beN 4 (sumOf (objB e h))
def objOf (e : En) : List UInt8 × Int := if withinL e = true ∧ (prR e.r).2 = 0 then (objL e (prR e.r).1, 0) else ([], 120)
/-- one section's data, and what stands behind it -/
def secR (l : List UInt8) : Option (List UInt8 × List UInt8) :=
  if l.length < 5 then none
  else if l.length < 5 + valN (midN l 1 5) then none
  else some (midN l 5 (5 + valN (midN l 1 5)), l.drop (5 + valN (midN l 1 5)))
def secsN : Nat → List UInt8 → Option (List (List UInt8) × List UInt8)
  | 0, l => some ([], l)
  | k + 1, l => (secsN k l).bind fun p => (secR p.2).map fun q => (p.1 ++ [q.1], q.2)
/-- a number of eight bytes, as an int -/
def num8 (l : List UInt8) : Int := if valN l < 9223372036854775808 then (valN l : Int) else (valN l : Int) - 18446744073709551616
def entR (ds : List (List UInt8)) : Option En :=
  if (ds.getD 4 []).length = 16 ∧ (respOf (ds.getD 2 [])).2.2 = 0 then some ⟨ds.getD 0 [], ds.getD 1 [], (respOf (ds.getD 2 [])).1, ds.getD 3 [], num8 ((ds.getD 4 []).take 8), num8 ((ds.getD 4 []).drop 8)⟩ else none
def readE (l : List UInt8) : Option En := if l.length < 3 then none else (secsN 5 (l.drop 3)).bind fun p => entR p.1
def decEn (o : Option En) (l : List UInt8) : En × Int := match o with
  | none => (En.zero, 120)
  | some e => if objOf e = (l, 0) then (e, 0) else (En.zero, 120)
def decO (l : List UInt8) : En × Int := decEn (readE l) l
theorem secL_len (t : Nat) (d : List UInt8) : (secL t d).length = 5 + d.length := by simp [secL, beN_len]; omega
theorem objB_len (e : En) (h : List UInt8) : (objB e h).length = 44 + e.key.length + e.vary.length + h.length + e.body.length := by
  simp [objB, secL_len, beN_len]; omega
theorem objL_len (e : En) (h : List UInt8) : (objL e h).length = 48 + e.key.length + e.vary.length + h.length + e.body.length := by
  rw [objL, List.length_append, objB_len, beN_len]; omega
theorem within_facts {e : En} (h : withinL e = true) : 1 ≤ e.key.length ∧ e.key.length ≤ 4096 ∧ e.vary.length ≤ 4096 ∧ e.body.length ≤ 65536 ∧ (0 ≤ e.a ∧ e.a ≤ 253402300799) ∧ (0 ≤ e.g ∧ e.g ≤ 253402300799) := by
  unfold withinL goodTm at h
  simp only [Bool.and_eq_true, decide_eq_true_eq] at h
  exact ⟨h.1, h.2.1, h.2.2.1, h.2.2.2.1, h.2.2.2.2.1, h.2.2.2.2.2⟩
theorem obj_ok {e : En} {w : List UInt8} (h : objOf e = (w, 0)) : withinL e = true ∧ prR e.r = ((prR e.r).1, 0) ∧ w = objL e (prR e.r).1 := by
  unfold objOf at h
  by_cases g : withinL e = true ∧ (prR e.r).2 = 0
  · rw [if_pos g] at h
    exact ⟨g.1, Prod.ext rfl g.2, (Prod.mk.inj h).1.symm⟩
  · rw [if_neg g] at h
    cases h
theorem obj_bad {e : En} (h : (objOf e).2 ≠ 0) : objOf e = ([], 120) := by
  unfold objOf at h ⊢
  split
  · rename_i g; rw [if_pos g] at h; exact absurd rfl h
  · rfl
theorem obj_two (e : En) : (objOf e).2 = 0 ∨ objOf e = ([], 120) := by
  by_cases h : (objOf e).2 = 0
  · exact .inl h
  · exact .inr (obj_bad h)
theorem obj_len {e : En} {w : List UInt8} (h : objOf e = (w, 0)) : 53 ≤ w.length ∧ w.length ≤ 81968 := by
  obtain ⟨h1, h2, rfl⟩ := obj_ok h
  have h3 := within_facts h1
  have h4 := prR_pos e.r _ h2
  rw [objL_len]
  omega
theorem val_be4' (v : Nat) (h : v < 4294967296) : valN (beN 4 v) = v := by
  rw [valN_be, show (256 : Nat) ^ 4 = 4294967296 from rfl]; omega
theorem secR_sec (t : Nat) (d m : List UInt8) (hd : d.length < 4294967296) : secR (secL t d ++ m) = some (d, m) := by
  have hl : (secL t d ++ m).length = 5 + d.length + m.length := by rw [List.length_append, secL_len]
  have e1 : midN (secL t d ++ m) 1 5 = beN 4 d.length := by
    unfold midN secL
    rw [List.cons_append, List.drop_succ_cons, List.drop_zero, List.append_assoc]
    exact List.take_left' (beN_len _ _)
  have e2 : (secL t d ++ m).drop 5 = d ++ m := by
    unfold secL
    rw [List.cons_append, List.drop_succ_cons, List.append_assoc]
    exact List.drop_left' (beN_len _ _)
  unfold secR
  rw [e1, val_be4' _ hd, if_neg (by omega), if_neg (by omega)]
  unfold midN
  rw [← List.drop_drop, e2, show 5 + d.length - 5 = d.length by omega, List.take_left' rfl, List.drop_left' rfl]
theorem secsN_step {k : Nat} {l : List UInt8} {ds : List (List UInt8)} {r d r' : List UInt8} (h : secsN k l = some (ds, r)) (h2 : secR r = some (d, r')) : secsN (k + 1) l = some (ds ++ [d], r') := by
  unfold secsN
  rw [h]
  simp only [Option.bind_some]
  rw [h2]
  rfl
theorem secsN_stop {k : Nat} {l : List UInt8} {ds : List (List UInt8)} {r : List UInt8} (h : secsN k l = some (ds, r)) (h2 : secR r = none) (j : Nat) (hj : k < j) : secsN j l = none := by
  obtain ⟨i, rfl⟩ : ∃ i, j = k + 1 + i := ⟨j - (k + 1), by omega⟩
  induction i with
  | zero =>
    show (secsN k l).bind _ = none
    rw [h]
    simp only [Option.bind_some]
    rw [h2]
    rfl
  | succ i ih =>
    show (secsN (k + 1 + i) l).bind _ = none
    rw [ih (by omega)]
    rfl
theorem secsN_len (k : Nat) {l : List UInt8} {ds : List (List UInt8)} {r : List UInt8} (h : secsN k l = some (ds, r)) : ds.length = k := by
  induction k generalizing ds r with
  | zero =>
    obtain ⟨rfl, rfl⟩ := Prod.mk.inj (Option.some.inj h)
    rfl
  | succ k ih =>
    unfold secsN at h
    cases h1 : secsN k l with
    | none => rw [h1] at h; cases h
    | some p =>
      obtain ⟨ds1, r1⟩ := p
      rw [h1] at h
      simp only [Option.bind_some] at h
      cases h2 : secR r1 with
      | none => rw [h2] at h; cases h
      | some q =>
        rw [h2] at h
        simp only [Option.map_some, Option.some.injEq, Prod.mk.injEq] at h
        rw [← h.1, List.length_append, ih h1]
        rfl
theorem num8_be (v : Nat) (h : v < 9223372036854775808) : num8 (beN 8 v) = (v : Int) := by
  have e : valN (beN 8 v) = v := by rw [valN_be, show (256 : Nat) ^ 8 = 18446744073709551616 from rfl]; omega
  unfold num8
  rw [e, if_pos h]
theorem read_obj (e : En) (m : List UInt8) (h1 : withinL e = true) (h2 : prR e.r = ((prR e.r).1, 0)) : readE (objL e (prR e.r).1 ++ m) = some e := by
  have hw := within_facts h1
  have hp := prR_pos e.r _ h2
  have hr := resp_round e.r _ [] h2
  rw [List.append_nil] at hr
  have hlen := objL_len e (prR e.r).1
  generalize hh : (prR e.r).1 = hd at *
  have ed : (objL e hd ++ m).drop 3 = secL 1 e.key ++ (secL 2 e.vary ++ (secL 3 hd ++ (secL 4 e.body ++ (secL 5 (beN 8 e.a.toNat ++ beN 8 e.g.toNat) ++ (beN 4 (sumOf (objB e hd)) ++ m))))) := by
    have : objL e hd ++ m = [67, 79, 49] ++ (secL 1 e.key ++ (secL 2 e.vary ++ (secL 3 hd ++ (secL 4 e.body ++ (secL 5 (beN 8 e.a.toNat ++ beN 8 e.g.toNat) ++ (beN 4 (sumOf (objB e hd)) ++ m)))))) := by
      unfold objL
      conv => lhs; arg 1; arg 1; unfold objB
      simp only [List.append_assoc]
    rw [this]
    rfl
  have hT : (beN 8 e.a.toNat ++ beN 8 e.g.toNat).length = 16 := by rw [List.length_append, beN_len, beN_len]
  have s0 : secsN 0 ((objL e hd ++ m).drop 3) = some ([], _) := rfl
  rw [ed] at s0
  have s1 := secsN_step s0 (secR_sec 1 e.key _ (by omega))
  have s2 := secsN_step s1 (secR_sec 2 e.vary _ (by omega))
  have s3 := secsN_step s2 (secR_sec 3 hd _ (by omega))
  have s4 := secsN_step s3 (secR_sec 4 e.body _ (by omega))
  have s5 := secsN_step s4 (secR_sec 5 _ _ (by omega))
  unfold readE
  rw [if_neg (by rw [List.length_append]; omega), ed, s5]
  show entR [e.key, e.vary, hd, e.body, beN 8 e.a.toNat ++ beN 8 e.g.toNat] = _
  unfold entR
  show (if (beN 8 e.a.toNat ++ beN 8 e.g.toNat).length = 16 ∧ (respOf hd).2.2 = 0 then some (⟨e.key, e.vary, (respOf hd).1, e.body, num8 ((beN 8 e.a.toNat ++ beN 8 e.g.toNat).take 8), num8 ((beN 8 e.a.toNat ++ beN 8 e.g.toNat).drop 8)⟩ : En) else none) = _
  rw [hr, if_pos ⟨hT, rfl⟩, List.take_left' (beN_len _ _), List.drop_left' (beN_len _ _), num8_be _ (by omega), num8_be _ (by omega), Int.toNat_of_nonneg (by omega), Int.toNat_of_nonneg (by omega)]
/-- what is written is read as it was -/
theorem dec_obj {e : En} {w : List UInt8} (h : objOf e = (w, 0)) : decO w = (e, 0) := by
  obtain ⟨h1, h2, h3⟩ := obj_ok h
  have hr := read_obj e [] h1 h2
  rw [List.append_nil, ← h3] at hr
  unfold decO
  rw [hr]
  exact if_pos h
/-- what is read is written as these bytes -/
theorem dec_ok {l : List UInt8} {e : En} (h : decO l = (e, 0)) : objOf e = (l, 0) := by
  unfold decO decEn at h
  split at h
  · cases h
  · split at h
    · obtain ⟨rfl, _⟩ := Prod.mk.inj h
      assumption
    · cases h
theorem dec_two (l : List UInt8) : (decO l).2 = 0 ∨ decO l = (En.zero, 120) := by
  unfold decO decEn
  split
  · exact .inr rfl
  · split
    · exact .inl rfl
    · exact .inr rfl
theorem dec_ok' {l : List UInt8} (h : (decO l).2 = 0) : objOf (decO l).1 = (l, 0) := dec_ok (Prod.ext rfl h)
theorem dec_long {l : List UInt8} (h : l.length < 53 ∨ 81968 < l.length) : decO l = (En.zero, 120) := by
  rcases dec_two l with g | g
  · have := obj_len (dec_ok' g); omega
  · exact g
end Go.Proofs.YtibjcofbhldenaaGreatDoor
namespace Go.Proofs.YtibjcofbhldenaaGreatDoor
open Go.RowKit
/-- one byte appended -/
theorem app1E {ops : Array Oper} {rest : List Oper} {o : Oper} {a : Act} {Q : Exit → Act → World → Prop} {wr : World} {n : Int} (hgd : o.guard = none) (s x : Operand)
    (ho : o.op = .call { callee := .builtin .append, args := #[s, x], argTypes := #[57, 57] }) (v : Value) (bs : List UInt8) (hs : a.eval s = v) (hE : Ext v bs wr)
    (c : UInt8) (hn : n = (c.toNat : Int)) (hx : a.eval x = .slice (some ⟨wr.heap.size, 0, none⟩) 1 1)
    (h : ∀ v' w', Rw v' (bs ++ [c]) w' → AppT v wr v' w' → wpList Tryz.prog ops Q rest (a.put o.dst v') w') : wpList Tryz.prog ops Q (o :: rest) a (wr.alloc (.cells #[.int .u8 n] 5)) := by
  obtain ⟨v', w', hr, h1, h2⟩ := hE c n o.type hn
  exact Lib.wpList_append_run _ hgd s x _ _ ho _ _ hs hx v' w' hr (h v' w' h1 h2)
/-- bytes that stand elsewhere, appended -/
theorem appAllE {ops : Array Oper} {rest : List Oper} {o : Oper} {a : Act} {Q : Exit → Act → World → Prop} {wr : World} (hgd : o.guard = none) (s x : Operand)
    (ho : o.op = .call { callee := .builtin .append, args := #[s, x], argTypes := #[57, 57] }) (v : Value) (bs : List UInt8) (hs : a.eval s = v) (hR : Rw v bs wr)
    (d : Value) (qs : List UInt8) (hx : a.eval x = d) (hd : HoldsB wr d qs) (hl : bs.length + qs.length ≤ 100000000)
    (h : ∀ v' w', Rw v' (bs ++ qs) w' → AppT v wr v' w' → wpList Tryz.prog ops Q rest (a.put o.dst v') w') : wpList Tryz.prog ops Q (o :: rest) a wr := by
  obtain ⟨v', w', hr, h1, h2⟩ := app_rw hR hd hl o.type
  exact Lib.wpList_append_run _ hgd s x _ _ ho _ _ hs hx v' w' hr (h v' w' h1 h2)
theorem isTimeC (n : Int) (w : World) : Calls Tryz.prog 148 #[.int .i64 n] w fun e w' => e = .returned (.bool (goodTm n)) ∧ w' = w := by
  by_cases h1 : 0 ≤ n
  · by_cases h2 : n ≤ 253402300799
    · have H : Hid (goodTm n = true) := by unfold Hid goodTm; simp; omega
      have b1 : decide (0 ≤ n) = true := by simpa using h1
      have b2 : decide (n ≤ 253402300799) = true := by simpa using h2
      go_enter Tryz.func148, Tryz.ntmps148
      go_wp2
      go_ret
      rw [H.out]
      exact ⟨rfl, rfl⟩
    · have H : Hid (goodTm n = false) := by unfold Hid goodTm; simp; omega
      have b1 : decide (0 ≤ n) = true := by simpa using h1
      have b2 : decide (n ≤ 253402300799) = false := by simpa using h2
      go_enter Tryz.func148, Tryz.ntmps148
      go_wp2
      go_ret
      rw [H.out]
      exact ⟨rfl, rfl⟩
  · have H : Hid (goodTm n = false) := by unfold Hid goodTm; simp; omega
    have b1 : decide (0 ≤ n) = false := by simpa using h1
    go_enter Tryz.func148, Tryz.ntmps148
    go_wp2
    go_ret
    rw [H.out]
    exact ⟨rfl, rfl⟩
set_option maxRecDepth 20000 in
set_option maxHeartbeats 2000000 in
theorem appNumC (v : Value) (bs : List UInt8) (w : World) (n size : Nat) (hR : Rw v bs w) (hs : size ≤ 8) (hl : bs.length ≤ 1000000) :
    Calls Tryz.prog 113 #[v, .int .i64 (n : Int), .int .i64 (size : Int)] w fun e w' => ∃ u, e = .returned u ∧ Rw u (bs ++ beN size n) w' ∧ AppT v w u w' := by
  have HO := hide' hR
  obtain ⟨L, hL⟩ : ∃ L, L = bs ++ beN size n := ⟨_, rfl⟩
  have EL := hide' hL
  rw [← hL]
  clear hR hL
  go_enter Tryz.func113, Tryz.ntmps113
  go_wp2
  go_loopw [0, 7] (fun vr i wr => ∃ (k : Nat) (pre : List UInt8), k ≤ 8 ∧ i = .int .i64 ((k : Int) - 1) ∧ Hid (pre ++ beN k n = L) ∧ Hid (pre.length + k ≤ 1000010) ∧ Hid (Rw vr pre wr ∧ AppT v w vr wr)) (fun _ i _ => (intOf i + 1).toNat)
  case atStart => exact ⟨size, bs, hs, by first | rfl | go_num, EL.out.symm, by unfold Hid; omega, ⟨HO.out, appT_refl _ _⟩⟩
  case round =>
    obtain ⟨k, pre, hk, rfl, hE, hP, hO⟩ := hrel
    match k, hk with
    | 0, _ =>
      have hO' := hO.out
      have e := hE.out
      rw [beN, List.append_nil] at e
      have E := hide' e
      clear e
      go_wp2
      go_ret
      exact ⟨_, rfl, by rw [← E.out]; exact hO'⟩
    | 1, _ =>
      have hb := hide' (be_byte n 0 1 (by decide))
      have ht : Hid ((pre ++ [UInt8.ofNat (n / 256 ^ 0)]) ++ beN 0 n = L) := by
        unfold Hid; rw [List.append_assoc]; exact hE.out
      have hx : Hid (Ext _ pre wr) := ext_row hO.out.1 (by have := hP.out; omega)
      generalize UInt8.ofNat (n / 256 ^ 0) = c at hb ht
      go_wp2_with (at_builtin; refine app1E rfl (.tmp 14) (.tmp 20) rfl _ _ rfl hx.out c (by have := hb.out; omega) rfl ?_; intro v2 w2 hr2 ha2)
      go_roundw
      case rel => exact ⟨0, pre ++ [c], by omega, by first | rfl | go_num, ht, by unfold Hid; have := hP.out; rw [List.length_append, List.length_singleton]; omega, ⟨hr2, appT_trans hO.out.2 ha2⟩⟩
      case measure => simp [intOf]
    | 2, _ =>
      have hb := hide' (be_byte n 1 256 (by decide))
      have ht : Hid ((pre ++ [UInt8.ofNat (n / 256 ^ 1)]) ++ beN 1 n = L) := by
        unfold Hid; rw [List.append_assoc]; exact hE.out
      have hx : Hid (Ext _ pre wr) := ext_row hO.out.1 (by have := hP.out; omega)
      generalize UInt8.ofNat (n / 256 ^ 1) = c at hb ht
      go_wp2_with (at_builtin; refine app1E rfl (.tmp 14) (.tmp 20) rfl _ _ rfl hx.out c (by have := hb.out; omega) rfl ?_; intro v2 w2 hr2 ha2)
      go_roundw
      case rel => exact ⟨1, pre ++ [c], by omega, by first | rfl | go_num, ht, by unfold Hid; have := hP.out; rw [List.length_append, List.length_singleton]; omega, ⟨hr2, appT_trans hO.out.2 ha2⟩⟩
      case measure => simp [intOf]
    | 3, _ =>
      have hb := hide' (be_byte n 2 65536 (by decide))
      have ht : Hid ((pre ++ [UInt8.ofNat (n / 256 ^ 2)]) ++ beN 2 n = L) := by
        unfold Hid; rw [List.append_assoc]; exact hE.out
      have hx : Hid (Ext _ pre wr) := ext_row hO.out.1 (by have := hP.out; omega)
      generalize UInt8.ofNat (n / 256 ^ 2) = c at hb ht
      go_wp2_with (at_builtin; refine app1E rfl (.tmp 14) (.tmp 20) rfl _ _ rfl hx.out c (by have := hb.out; omega) rfl ?_; intro v2 w2 hr2 ha2)
      go_roundw
      case rel => exact ⟨2, pre ++ [c], by omega, by first | rfl | go_num, ht, by unfold Hid; have := hP.out; rw [List.length_append, List.length_singleton]; omega, ⟨hr2, appT_trans hO.out.2 ha2⟩⟩
      case measure => simp [intOf]
    | 4, _ =>
      have hb := hide' (be_byte n 3 16777216 (by decide))
      have ht : Hid ((pre ++ [UInt8.ofNat (n / 256 ^ 3)]) ++ beN 3 n = L) := by
        unfold Hid; rw [List.append_assoc]; exact hE.out
      have hx : Hid (Ext _ pre wr) := ext_row hO.out.1 (by have := hP.out; omega)
      generalize UInt8.ofNat (n / 256 ^ 3) = c at hb ht
      go_wp2_with (at_builtin; refine app1E rfl (.tmp 14) (.tmp 20) rfl _ _ rfl hx.out c (by have := hb.out; omega) rfl ?_; intro v2 w2 hr2 ha2)
      go_roundw
      case rel => exact ⟨3, pre ++ [c], by omega, by first | rfl | go_num, ht, by unfold Hid; have := hP.out; rw [List.length_append, List.length_singleton]; omega, ⟨hr2, appT_trans hO.out.2 ha2⟩⟩
      case measure => simp [intOf]
    | 5, _ =>
      have hb := hide' (be_byte n 4 4294967296 (by decide))
      have ht : Hid ((pre ++ [UInt8.ofNat (n / 256 ^ 4)]) ++ beN 4 n = L) := by
        unfold Hid; rw [List.append_assoc]; exact hE.out
      have hx : Hid (Ext _ pre wr) := ext_row hO.out.1 (by have := hP.out; omega)
      generalize UInt8.ofNat (n / 256 ^ 4) = c at hb ht
      go_wp2_with (at_builtin; refine app1E rfl (.tmp 14) (.tmp 20) rfl _ _ rfl hx.out c (by have := hb.out; omega) rfl ?_; intro v2 w2 hr2 ha2)
      go_roundw
      case rel => exact ⟨4, pre ++ [c], by omega, by first | rfl | go_num, ht, by unfold Hid; have := hP.out; rw [List.length_append, List.length_singleton]; omega, ⟨hr2, appT_trans hO.out.2 ha2⟩⟩
      case measure => simp [intOf]
    | 6, _ =>
      have hb := hide' (be_byte n 5 1099511627776 (by decide))
      have ht : Hid ((pre ++ [UInt8.ofNat (n / 256 ^ 5)]) ++ beN 5 n = L) := by
        unfold Hid; rw [List.append_assoc]; exact hE.out
      have hx : Hid (Ext _ pre wr) := ext_row hO.out.1 (by have := hP.out; omega)
      generalize UInt8.ofNat (n / 256 ^ 5) = c at hb ht
      go_wp2_with (at_builtin; refine app1E rfl (.tmp 14) (.tmp 20) rfl _ _ rfl hx.out c (by have := hb.out; omega) rfl ?_; intro v2 w2 hr2 ha2)
      go_roundw
      case rel => exact ⟨5, pre ++ [c], by omega, by first | rfl | go_num, ht, by unfold Hid; have := hP.out; rw [List.length_append, List.length_singleton]; omega, ⟨hr2, appT_trans hO.out.2 ha2⟩⟩
      case measure => simp [intOf]
    | 7, _ =>
      have hb := hide' (be_byte n 6 281474976710656 (by decide))
      have ht : Hid ((pre ++ [UInt8.ofNat (n / 256 ^ 6)]) ++ beN 6 n = L) := by
        unfold Hid; rw [List.append_assoc]; exact hE.out
      have hx : Hid (Ext _ pre wr) := ext_row hO.out.1 (by have := hP.out; omega)
      generalize UInt8.ofNat (n / 256 ^ 6) = c at hb ht
      go_wp2_with (at_builtin; refine app1E rfl (.tmp 14) (.tmp 20) rfl _ _ rfl hx.out c (by have := hb.out; omega) rfl ?_; intro v2 w2 hr2 ha2)
      go_roundw
      case rel => exact ⟨6, pre ++ [c], by omega, by first | rfl | go_num, ht, by unfold Hid; have := hP.out; rw [List.length_append, List.length_singleton]; omega, ⟨hr2, appT_trans hO.out.2 ha2⟩⟩
      case measure => simp [intOf]
    | 8, _ =>
      have hb := hide' (be_byte n 7 72057594037927936 (by decide))
      have ht : Hid ((pre ++ [UInt8.ofNat (n / 256 ^ 7)]) ++ beN 7 n = L) := by
        unfold Hid; rw [List.append_assoc]; exact hE.out
      have hx : Hid (Ext _ pre wr) := ext_row hO.out.1 (by have := hP.out; omega)
      generalize UInt8.ofNat (n / 256 ^ 7) = c at hb ht
      go_wp2_with (at_builtin; refine app1E rfl (.tmp 14) (.tmp 20) rfl _ _ rfl hx.out c (by have := hb.out; omega) rfl ?_; intro v2 w2 hr2 ha2)
      go_roundw
      case rel => exact ⟨7, pre ++ [c], by omega, by first | rfl | go_num, ht, by unfold Hid; have := hP.out; rw [List.length_append, List.length_singleton]; omega, ⟨hr2, appT_trans hO.out.2 ha2⟩⟩
      case measure => simp [intOf]
set_option maxRecDepth 20000 in
set_option maxHeartbeats 2000000 in
theorem appSecC (v d : Value) (bs qs : List UInt8) (t t1 : Nat) (e1 : t + 1 = t1) (w : World) (hE : Ext v bs w) (hd : HoldsB w d qs) (ho : qs ≠ [] → Oth d v) (ht : t ≤ 100) (hl : bs.length ≤ 100000) (hq : qs.length ≤ 100000) :
    Calls Tryz.prog 111 #[v, .int .i64 (t : Int), d] w fun e w' => ∃ u, e = .returned u ∧ Rw u (bs ++ secL t1 qs) w' ∧ AppT v w u w' := by
  subst e1
  have HE := hide' hE
  have HD := hide' hd
  have HO := hide' ho
  obtain ⟨c, hc⟩ : ∃ c, c = UInt8.ofNat (t + 1) := ⟨_, rfl⟩
  have hcv : Hid ((c.toNat : Int) = (t : Int) + 1) := by unfold Hid; rw [hc, ofNat_mod]; omega
  have hmod : ((t : Int) + 1) % 256 = (t : Int) + 1 := by omega
  have ES : Hid (bs ++ secL (t + 1) qs = bs ++ [c] ++ beN 4 qs.length ++ qs) := by unfold Hid secL; rw [hc]; simp
  have l1 : Hid ((bs ++ [c]).length = bs.length + 1) := by unfold Hid; simp
  have l2 : Hid ((bs ++ [c] ++ beN 4 qs.length).length = bs.length + 5) := by unfold Hid; simp [beN_len]
  obtain ⟨da, dc, rfl, -, -, -⟩ := hd
  obtain ⟨m, hm⟩ : ∃ m, m = qs.length := ⟨_, rfl⟩
  have HM : Hid (qs.length = m) := hm.symm
  have hml : m ≤ 100000 := by omega
  rw [← hm] at HD HO ES l2 ⊢
  clear hE ho hc hm
  go_enter Tryz.func111, Tryz.ntmps111
  go_wp2_with (at_builtin; refine app1E rfl (.tmp 7) (.tmp 11) rfl _ _ rfl HE.out c (by have := hcv.out; omega) rfl ?_; intro v2 w2 hr2 ha2)
  have R2 := hide' hr2
  have A2 := hide' ha2
  have D2 : Hid (HoldsB w2 (.slice da m dc) qs ∧ (qs ≠ [] → Oth (.slice da m dc) v2)) := holdsB_app HD.out HO.out ha2
  clear hr2 ha2
  refine (appNumC v2 (bs ++ [c]) w2 m 4 R2.out (by decide) (by rw [l1.out]; omega)).mono ?_
  rintro e w3 ⟨v3, rfl, hr3, ha3⟩
  have R3 := hide' hr3
  have A3 := hide' (appT_trans A2.out ha3)
  have D3 : Hid (HoldsB w3 (.slice da m dc) qs) := (holdsB_app D2.out.1 D2.out.2 ha3).1
  clear hr3 ha3
  go_wp2_with (at_builtin; refine appAllE rfl (.tmp 17) (.tmp 18) rfl _ _ rfl R3.out _ qs rfl D3.out (by rw [l2.out, HM.out]; omega) ?_; intro v4 w4 hr4 ha4)
  go_ret
  exact ⟨v4, rfl, by rw [ES.out]; exact hr4, appT_trans A3.out ha4⟩
end Go.Proofs.YtibjcofbhldenaaGreatDoor
namespace Go.Proofs.YtibjcofbhldenaaGreatDoor
open Go.RowKit
/-- a number as an int of 64 bits -/
def sg (v : Nat) : Int := if v < 9223372036854775808 then (v : Int) else (v : Int) - 18446744073709551616
theorem or_sg (v c : Nat) (hv : v < 72057594037927936) (hc : c ≤ 255) : bits .or .i64 (wrap64 ((v : Int) * 256)) (c : Int) = sg (v * 256 + c) := by
  have e1 : (BitVec.ofInt 64 (wrap64 ((v : Int) * 256))).toNat = v * 256 := by
    rw [BitVec.toNat_ofInt]; unfold wrap64; omega
  show IntKind.i64.wrap ((BitVec.ofInt 64 (wrap64 ((v : Int) * 256)) ||| BitVec.ofInt 64 (c : Int)).toNat : Int) = _
  rw [BitVec.toNat_or, e1, ofInt_i64 c (by omega), Nat.mul_comm v 256, ← Nat.two_pow_add_eq_or_of_lt (i := 8) (by omega) v, IntKind.wrap_i64]
  unfold sg
  split <;> omega
set_option maxRecDepth 20000 in
set_option maxHeartbeats 1000000 in
theorem numOC (v : Value) (bs : List UInt8) (w : World) (hv : HoldsB w v bs) (hl : bs.length ≤ 8) :
    Calls Tryz.prog 190 #[v] w fun e w' => e = .returned (.int .i64 (sg (valN bs))) ∧ w' = w := by
  obtain ⟨ao, cap, rfl, _, _, hc⟩ := hv
  have HC := hide' hc
  obtain ⟨n, hn⟩ : ∃ n, n = bs.length := ⟨_, rfl⟩
  have N1 : Hid (bs.length = n) := hn.symm
  have ln : n ≤ 8 := by omega
  rw [N1.out]
  clear hc hl hn
  go_enter Tryz.func190, Tryz.ntmps190
  go_wp2
  go_loopw [3, 8] (fun s i wr => ∃ k : Nat, k ≤ n ∧ i = .int .i64 k ∧ Hid (wr = w) ∧ ∃ (v : Nat) (z : Int), Hid (v < 256 ^ k) ∧ s = .int .i64 z ∧ Hid (z = sg v) ∧ Hid (v = valN (bs.take k))) (fun _ i _ => n - (intOf i).toNat)
  case atStart => exact ⟨0, by omega, rfl, rfl, 0, 0, by unfold Hid; decide, rfl, rfl, rfl⟩
  case round =>
    obtain ⟨k, hk, rfl, hw, v, z, hv, rfl, hz, hV⟩ := hrel
    have hw' := hw.out.symm
    subst hw'
    by_cases hlt : k < n
    · have G1 : Hid (k < bs.length) := by unfold Hid; rw [N1.out]; exact hlt
      obtain ⟨b, off, e, hb, hcell⟩ := HC.out (fun e => by have := G1.out; rw [e] at this; exact absurd this (Nat.not_lt_zero _))
      subst e
      have x1 := hcell k G1.out
      unfold B at x1
      have E : Hid (v * 256 + (bs[k]'G1.out).toNat = valN (bs.take (k + 1))) := by
        unfold Hid; rw [List.take_succ_eq_append_getElem G1.out, valN_snoc, ← hV.out]
      have hvl : v < 72057594037927936 := Nat.lt_of_lt_of_le hv.out (Nat.le_trans (Nat.pow_le_pow_right (by decide) (show k ≤ 7 by omega)) (by decide))
      have hzv : z = (v : Int) := by have := hz.out; unfold sg at this; rw [if_pos (by omega)] at this; exact this
      subst hzv
      have hcl : ((bs[k]'G1.out).toNat : Int) ≤ 255 := (byte_lt _).2
      have E2 : Hid (v * 256 + (bs[k]'G1.out).toNat < 256 ^ (k + 1)) := by
        unfold Hid; have := hv.out; have := (bs[k]'G1.out).toNat_lt; rw [Nat.pow_succ]; omega
      generalize (bs[k]'G1.out).toNat = c at x1 E hcl E2
      have hx := hide' (or_sg v c hvl (by omega))
      clear hV hcell hv hz
      go_wp2
      go_roundw
      case rel => exact ⟨k + 1, by omega, by go_num, (by unfold Hid; first | trivial | rfl), v * 256 + c, sg (v * 256 + c), E2, by rw [hx.out], rfl, E⟩
      case measure => simp [intOf]; omega
    · have E : Hid (valN bs = v) := by
        unfold Hid; rw [hV.out, List.take_of_length_le (by rw [N1.out]; omega)]
      go_wp2
      go_ret
      rw [E.out, ← hz.out]
      exact ⟨rfl, rfl⟩
theorem num8_sg (l : List UInt8) : num8 l = sg (valN l) := rfl
theorem sg_small {v : Nat} (h : v < 9223372036854775808) : sg v = (v : Int) := if_pos h
end Go.Proofs.YtibjcofbhldenaaGreatDoor
