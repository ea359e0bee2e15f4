/- The contract of recode. -/
import Derived.Test.YtaijnphodjdedaaDoorUaA
import Derived.Test.YtaijnphodjdedaaDoorOwnB
import Derived.Deep.QuietTactic
import Derived.BigQuiet
import Derived.Deep.RegionHeldLaw
import Derived.Deep.AppendLies
namespace Go.Proofs.YtaijnphodjdedaaDoor
open Go.RowKit
theorem app3 {ops : Array Oper} {rest : List Oper} {o : Oper} {a : Act} {Q : Exit → Act → World → Prop} {wr : World} {n1 n2 n3 : Int} (hgd : o.guard = none) (s x : Operand)
    (ho : o.op = .call { callee := .builtin .append, args := #[s, x], argTypes := #[40, 40] }) (w0 : World) (v : Value) (bs : List UInt8) (hs : a.eval s = v) (hown : Own w0 v bs wr)
    (c1 c2 c3 : UInt8) (hn1 : n1 = (c1.toNat : Int)) (hn2 : n2 = (c2.toNat : Int)) (hn3 : n3 = (c3.toNat : Int)) (hx : a.eval x = .slice (some ⟨wr.heap.size, 0, none⟩) 3 3) (hlen : bs.length + 3 ≤ 140737488355328)
    (h : ∀ v' w', Own w0 v' (bs ++ [c1, c2, c3]) w' → wpList Tryd.prog ops Q rest (a.put o.dst v') w') : wpList Tryd.prog ops Q (o :: rest) a (wr.alloc (.cells #[.int .u8 n1, .int .u8 n2, .int .u8 n3] 5)) := by
  subst hn1 hn2 hn3
  obtain ⟨i0, hi, hz0, hz1, hz2⟩ := info_parts Tryd.info5
  have hsz := hown.2.size
  refine wpList_append_own _ hgd s x 40 ho w0.heap.size 5 i0 (.int .u8 0) 1 1 Tryd.underlying40 hi hz0 hz1 hz2 rfl (by decide) v bs.length (bs.map B) hs (hown.1.alloc _) ⟨wr.heap.size, 0, none⟩ 3 3 [B c1, B c2, B c3] hx rfl ?_ ?_ ?_ ?_ ?_ ?_
  · intro j u hj
    match j, hj with
    | 0, hj => simp at hj; subst hj; simp [Addr.add, B]
    | 1, hj => simp at hj; subst hj; simp [Addr.add, B]
    | 2, hj => simp at hj; subst hj; simp [Addr.add, B]
  · intro u hu; simp at hu; rcases hu with rfl | rfl | rfl <;> rfl
  · unfold maxLen; omega
  · omega
  · simp; omega
  · intro v' w' h1 h2 _
    refine h v' w' ⟨by simpa using h1, ?_⟩
    refine Below.grown (hown.2.alloc (by omega) _) h2 (by simp; omega) ?_
    intro k hk
    exact (hown.1.lt k hk).1
theorem own_drawn {w0 w : World} {v : Value} {bs : List UInt8} (h : Own w0 v bs w) (n : Nat) : Own w0 v bs (w.drewN n) := by
  induction n with
  | zero => exact h
  | succ n ih => exact ⟨ih.1.drew, ih.2.drew⟩
theorem step_app3 {ops : Array Oper} {o : Oper} {a : Act} {K : Act → World → Prop} {Q : Exit → Act → World → Prop} {E : Prop} {W : World} (hgd : o.guard = none) (s x : Operand)
    (ho : o.op = .call { callee := .builtin .append, args := #[s, x], argTypes := #[40, 40] }) (w0 : World) (v : Value) (bs : List UInt8) (hs : a.eval s = v) (hown : Own w0 v bs W)
    (c1 c2 c3 : UInt8) (ad : Addr) (hx : a.eval x = .slice (some ad) 3 3) (hnews : ∀ j u, [B c1, B c2, B c3][j]? = some u → W.cell? (ad.add j) = some u) (hlen : bs.length + 3 ≤ 140737488355328)
    (h : ∀ v' w', Own w0 v' (bs ++ [c1, c2, c3]) w' → K (a.put o.dst v') w') : if Region.wanted o (yielded ops a.tmps) = true then Oper.wp Tryd.prog o a W K Q else E := by
  obtain ⟨i0, hi, hz0, hz1, hz2⟩ := info_parts Tryd.info5
  have hw : Region.wanted o (yielded ops a.tmps) = true := by simp [Region.wanted, hgd]
  rw [if_pos hw]
  refine wp_append_own W s x 40 ho w0.heap.size 5 i0 (.int .u8 0) 1 1 Tryd.underlying40 hi hz0 hz1 hz2 rfl (by decide) v bs.length (bs.map B) hs hown.1 ad 3 3 [B c1, B c2, B c3] hx rfl hnews ?_ ?_ ?_ ?_ ?_
  · intro u hu; simp at hu; rcases hu with rfl | rfl | rfl <;> rfl
  · unfold maxLen; omega
  · omega
  · exact hown.2.size
  · intro v' w' h1 h2 _
    refine h v' w' ⟨by simpa using h1, ?_⟩
    refine Below.grown hown.2 h2 hown.2.size ?_
    intro k hk
    exact (hown.1.lt k hk).1
theorem news3 (W : World) (c1 c2 c3 : UInt8) (H : Nat) (hH : W.heap.size = H) : ∀ j u, [B c1, B c2, B c3][j]? = some u → (W.alloc (.cells #[.int .u8 (c1.toNat : Int), .int .u8 (c2.toNat : Int), .int .u8 (c3.toNat : Int)] 5)).cell? ((⟨H, 0, none⟩ : Addr).add j) = some u := by
  subst hH
  intro j u hj
  match j, hj with
  | 0, hj => simp at hj; subst hj; simp [Addr.add, B]
  | 1, hj => simp at hj; subst hj; simp [Addr.add, B]
  | 2, hj => simp at hj; subst hj; simp [Addr.add, B]
def recV (o : Option (List UInt8)) : Value := match o with
  | none => .tuple #[.string ⟨#[]⟩, .bool false]
  | some r => .tuple #[.string ⟨r.toArray⟩, .bool true]
theorem or16 (h l : Int) (h0 : 0 ≤ h) (h1 : h < 16) (l0 : 0 ≤ l) (l1 : l < 16) : bits .or .i64 (h * 16) l = 16 * h + l := by
  obtain ⟨a, rfl⟩ : ∃ a : Nat, h = a := ⟨h.toNat, by omega⟩
  obtain ⟨b, rfl⟩ : ∃ b : Nat, l = b := ⟨l.toNat, by omega⟩
  have : ∀ (a b : Fin 16), bits .or .i64 (((a.val : Nat) : Int) * 16) ((b.val : Nat) : Int) = 16 * ((a.val : Nat) : Int) + ((b.val : Nat) : Int) := by decide +kernel
  exact this ⟨a, by omega⟩ ⟨b, by omega⟩
theorem drop_cons (s : ByteArray) (k : Nat) (h : k < s.size) : s.data.toList.drop k = s[k] :: s.data.toList.drop (k + 1) := List.drop_eq_getElem_cons (by simpa using h)
theorem below_drawn {B : Nat} {a w : World} (h : Below B a w) (n : Nat) : Below B a (w.drewN n) := by
  induction n with
  | zero => exact h
  | succ n ih => exact ih.drew
theorem rec_step {L D D' : List UInt8} {out x : List UInt8} (H : recode L = (recode D).map (out ++ ·)) (h : recode D = (recode D').map (x ++ ·)) : recode L = (recode D').map ((out ++ x) ++ ·) := by
  rw [H, h]
  cases recode D' <;> simp
theorem rec_none {L D : List UInt8} {out : List UInt8} (H : recode L = (recode D).map (out ++ ·)) (h : recode D = none) : recode L = none := by rw [H, h]; rfl
theorem hx_get (a : Fin 16) : (((⟨#[48, 49, 50, 51, 52, 53, 54, 55, 56, 57, 65, 66, 67, 68, 69, 70]⟩ : ByteArray)[a.val]'(a.isLt)).toNat : Int) = ((ofI (hxI ((a.val : Nat) : Int))).toNat : Int) := by
  revert a; decide +kernel
theorem idx_at (s : ByteArray) (i : Int) (n : Nat) (e : i = n) (h : n < s.size) : ∀ W, Sem.run Tryd.prog (Instr.index 9 (.string s) (.int .i64 i)) W = .ok (.int .u8 (s[n].toNat : Int)) W := by
  subst e
  intro W
  rw [run_index_string _ _ _ _ _ Tryd.underlying9, dif_pos ⟨by omega, by omega⟩]
  simp only [Int.toNat_natCast]
theorem idx_hx (h : Int) (h0 : 0 ≤ h) (h1 : h < 16) : ∀ W, Sem.run Tryd.prog (Instr.index 9 (.string ⟨#[48, 49, 50, 51, 52, 53, 54, 55, 56, 57, 65, 66, 67, 68, 69, 70]⟩) (.int .i64 h)) W = .ok (.int .u8 ((ofI (hxI h)).toNat : Int)) W := by
  obtain ⟨n, rfl⟩ : ∃ n : Nat, h = n := ⟨h.toNat, by omega⟩
  intro W
  rw [idx_at ⟨#[48, 49, 50, 51, 52, 53, 54, 55, 56, 57, 65, 66, 67, 68, 69, 70]⟩ _ n rfl (show n < 16 by omega) W]
  exact congrArg (fun x => Result.ok (Value.int IntKind.u8 x) W) (hx_get ⟨n, by omega⟩)
theorem own_drew {w0 w : World} {v : Value} {bs : List UInt8} (h : Own w0 v bs w) : Own w0 v bs w.drew := ⟨h.1.drew, h.2.drew⟩
theorem own_alloc {w0 w : World} {v : Value} {bs : List UInt8} (h : Own w0 v bs w) (r : Obj) : Own w0 v bs (w.alloc r) := ⟨h.1.alloc r, h.2.alloc h.2.size r⟩
set_option maxRecDepth 20000 in
set_option maxHeartbeats 2000000 in
theorem recodeCode (s : ByteArray) (hs : s.size ≤ 4096) (w : World) :
    Calls Tryd.prog 18 #[.string s] w fun e w' => e = .returned (recV (recode s.data.toList)) ∧ Below w.heap.size w w' := by
  go_enter Tryd.func18, Tryd.ntmps18
  go_wp2_with fail
  go_loopw [4, 5] (fun v i wr => ∃ (k : Nat) (out : List UInt8), k ≤ s.size ∧ i = .int .i64 k ∧ Own w v out wr ∧ Hid (recode s.data.toList = (recode (s.data.toList.drop k)).map (out ++ ·)) ∧ out.length ≤ k) (fun _ i _ => s.size - (intOf i).toNat)
  case atStart => exact ⟨0, [], Nat.zero_le _, rfl, own_nil w w (Below.refl _ _), by unfold Hid; rw [List.drop_zero]; cases recode s.data.toList <;> simp, Nat.le_refl _⟩
  case round =>
    obtain ⟨k, out, hk, rfl, hown, H, hl⟩ := hrel
    by_cases hlt : k < s.size
    · have hb := byte_lt s[k]
      have D := drop_cons s k hlt
      by_cases hc : (s[k].toNat : Int) = 37
      · have e37 : s[k] = 37 := UInt8.toNat_inj.1 (by have : (37 : UInt8).toNat = 37 := rfl; omega)
        have q1 : ((s[k].toNat : Int) != 37) = false := by simpa using hc
        rw [e37] at D
        clear hc e37
        by_cases h3 : s.size - k < 3
        · have R : Hid (recode s.data.toList = none) := rec_none H.out (by rw [D]; exact recode_short _ (by rw [List.length_drop, len_list]; omega))
          have h3' : (s.size : Int) - k < 3 := by omega
          clear H D
          go_wp2_with fail
          go_ret2
          rw [R.out]
          exact ⟨rfl, hown.2⟩
        · have h3' : (3 : Int) ≤ (s.size : Int) - k := by omega
          have k1 : k + 1 < s.size := by omega
          have k2 : k + 2 < s.size := by omega
          have D1 := drop_cons s (k + 1) k1
          have D2 := drop_cons s (k + 2) k2
          rw [D1, D2] at D
          have b1 := byte_lt s[k + 1]
          have b2 := byte_lt s[k + 2]
          have x1 := idx_at s ((k : Int) + 1) (k + 1) (by omega) k1
          have x2 := idx_at s ((k : Int) + 2) (k + 2) (by omega) k2
          have m1 : IntKind.i64.wrap ((k : Int) + 1) = (k : Int) + 1 := by rw [IntKind.wrap_i64]; omega
          have m2 : IntKind.i64.wrap ((k : Int) + 2) = (k : Int) + 2 := by rw [IntKind.wrap_i64]; omega
          have la : hexI (s[k + 1].toNat : Int) < 16 := hex_lt _
          have lb : hexI (s[k + 2].toNat : Int) < 16 := hex_lt _
          by_cases hbad : hexB s[k + 1] < 0 ∨ hexB s[k + 2] < 0
          · have R : Hid (recode s.data.toList = none) := rec_none H.out (by rw [D]; exact recode_bad _ _ _ hbad)
            have hbad' : hexI (s[k + 1].toNat : Int) < 0 ∨ (0 ≤ hexI (s[k + 1].toNat : Int) ∧ hexI (s[k + 2].toNat : Int) < 0) := by unfold hexB at hbad; omega
            generalize (s[k + 1].toNat : Int) = ca at la hbad' x1 b1
            generalize (s[k + 2].toNat : Int) = cb at lb hbad' x2 b2
            clear hbad D D1 D2 H
            rcases hbad' with hx | ⟨hx, hy⟩
            all_goals
              go_wp2_with fail
              go_quiet (first | (go_at_call 31; exact Calls.quiet_of_same (hexCode _ (by omega) (by omega) _)))
              go_wp2_with fail
              go_ret2
              rw [R.out]
              exact ⟨rfl, below_drawn hown.2 _⟩
          · have E := hide (rec_step H.out (by rw [D]; exact recode_code _ _ _ (by omega) (by omega)))
            have a0 : 0 ≤ hexI (s[k + 1].toNat : Int) := by unfold hexB at hbad; omega
            have b0 : 0 ≤ hexI (s[k + 2].toNat : Int) := by unfold hexB at hbad; omega
            have F := hide (show code s[k + 1] s[k + 2] = if plainI (16 * hexI (s[k + 1].toNat : Int) + hexI (s[k + 2].toNat : Int)) then [ofI (16 * hexI (s[k + 1].toNat : Int) + hexI (s[k + 2].toNat : Int))] else [37, ofI (hxI (hexI (s[k + 1].toNat : Int))), ofI (hxI (hexI (s[k + 2].toNat : Int)))] from rfl)
            generalize code s[k + 1] s[k + 2] = cd at E F
            generalize (s[k + 1].toNat : Int) = ca at la a0 F x1 b1
            generalize (s[k + 2].toNat : Int) = cb at lb b0 F x2 b2
            have o16 := or16 (hexI ca) (hexI cb) a0 la b0 lb
            have cP := plainlyCode (16 * hexI ca + hexI cb) (by omega) (by omega)
            clear hbad D D1 D2 H
            cases hp : plainI (16 * hexI ca + hexI cb) with
            | true =>
              rw [hp, if_pos rfl] at F
              simp only [hp] at cP
              replace cP := hide cP
              clear hp
              go_wp2_with fail
              go_quiet (first | (go_at_call 31; exact Calls.quiet_of_same (hexCode _ (by omega) (by omega) _)))
              go_wp2_with fail
              refine (cP.out _).mono ?_
              rintro e w1 ⟨rfl, rfl⟩
              have hown1 := own_drawn hown nq
              go_wp2_with (at_builtin; refine app1 rfl (.tmp 53) (.tmp 55) rfl w _ _ rfl hown1 (ofI (16 * hexI ca + hexI cb)) (by rw [ofI_toNat _ (by omega) (by omega)]) rfl (by omega) ?_; intro v2 w2 hown2)
              go_roundw
              case rel => exact ⟨k + 3, out ++ cd, by omega, by go_num, by rw [F.out]; exact hown2, E, by rw [F.out]; simp; omega⟩
              case measure => simp [intOf]; omega
            | false =>
              rw [hp, if_neg (by simp)] at F
              simp only [hp] at cP
              replace cP := hide cP
              clear hp
              go_wp2_with fail
              go_quiet (first | (go_at_call 31; exact Calls.quiet_of_same (hexCode _ (by omega) (by omega) _)))
              go_wp2_with fail
              refine (cP.out _).mono ?_
              rintro e w1 ⟨rfl, rfl⟩
              have hown1 := own_drawn hown nq
              have y1 := idx_hx (hexI ca) a0 la
              have y2 := idx_hx (hexI cb) b0 lb
              go_wp2_with fail
              go_region_held_law (fun _ => True) (trivial)
                ((refine step_app3 (by rfl) _ _ (by rfl) w _ _ (by rfl) (by first | exact own_drew (own_alloc hown1 _) | exact own_alloc (own_drew hown1) _) 37 (ofI (hxI (hexI ca))) (ofI (hxI (hexI cb))) _ (by rfl) (news3 _ _ _ _ _ (by simp)) (by omega) ?_; intro v2 w2 hown2))
              all_goals
                go_wp2_with fail
                go_roundw
                case rel => exact ⟨k + 3, out ++ cd, by omega, by go_num, by rw [F.out]; exact hown2, E, by rw [F.out]; simp; omega⟩
                case measure => simp [intOf]; omega
      · have q1 : ((s[k].toNat : Int) != 37) = true := by simpa using hc
        have n37 : s[k] ≠ 37 := by
          intro e
          apply hc
          rw [e]; rfl
        have E := hide (rec_step (x := [s[k]]) (D' := s.data.toList.drop (k + 1)) H.out (by rw [D]; exact recode_plain _ _ n37))
        clear hc n37 D H
        go_wp2_with (at_builtin; refine app1 rfl (.tmp 19) (.tmp 23) rfl w _ _ rfl hown s[k] rfl rfl (by omega) ?_; intro v2 w2 hown2)
        go_roundw
        case rel => exact ⟨k + 1, out ++ [s[k]], by omega, by go_num, hown2, E, by simp; omega⟩
        case measure => simp [intOf]; omega
    · have R : Hid (recode s.data.toList = some out) := by
        unfold Hid
        rw [H.out, List.drop_of_length_le (by rw [len_list]; omega)]
        simp [recode]
      have hcv := own_conv hown
      clear H
      go_wp2_with fail
      go_ret2
      rw [R.out]
      exact ⟨rfl, hown.2⟩
end Go.Proofs.YtaijnphodjdedaaDoor
