/- The contracts of the document's hex and size. -/
import Derived.Test.YtmikgpmnffdnnabGreatDoorBk
import Derived.Test.YtmikgpmnffdnnabGreatDoorBa
import Derived.Test.YtmikgpmnffdnnabGreatDoorBc
namespace Go.Proofs.YtmikgpmnffdnnabGreatDoor
open Go.RowKit
set_option maxHeartbeats 400000 in
theorem hexRef (c : Int) (h0 : 0 ≤ c) (h1 : c ≤ 255) (w : World) :
    Calls Tryz.prog 132 #[.int .u8 c] w fun e w' => e = .returned (.int .i64 (hexI c)) ∧ w' = w := by
  by_cases a1 : 48 ≤ c ∧ c ≤ 57
  · have H : Hid (hexI c = c - 48) := by unfold Hid hexI; rw [if_pos a1]
    obtain ⟨a, b⟩ := a1
    go_enter Tryz.func132, Tryz.ntmps132
    go_wp2
    go_ret
    rw [H.out]
    exact ⟨rfl, rfl⟩
  · by_cases a2 : 65 ≤ c ∧ c ≤ 70
    · have H : Hid (hexI c = c - 55) := by unfold Hid hexI; rw [if_neg a1, if_pos a2]
      obtain ⟨a, b⟩ := a2
      clear a1
      go_enter Tryz.func132, Tryz.ntmps132
      go_wp2
      go_ret
      rw [H.out]
      exact ⟨rfl, rfl⟩
    · by_cases a3 : 97 ≤ c ∧ c ≤ 102
      · have H : Hid (hexI c = c - 87) := by unfold Hid hexI; rw [if_neg a1, if_neg a2, if_pos a3]
        obtain ⟨a, b⟩ := a3
        clear a1 a2
        go_enter Tryz.func132, Tryz.ntmps132
        go_wp2
        go_ret
        rw [H.out]
        exact ⟨rfl, rfl⟩
      · have H : Hid (hexI c = -1) := by unfold Hid hexI; rw [if_neg a1, if_neg a2, if_neg a3]
        have key : c < 48 ∨ (57 < c ∧ c < 65) ∨ (70 < c ∧ c < 97) ∨ 102 < c := by omega
        clear a1 a2 a3
        rcases key with k | ⟨k1, k2⟩ | ⟨k1, k2⟩ | k
        all_goals
          go_enter Tryz.func132, Tryz.ntmps132
          go_wp2
          go_ret
          rw [H.out]
          exact ⟨rfl, rfl⟩
theorem hexI_lo (c : Int) : -1 ≤ hexI c ∧ hexI c ≤ 15 := by
  unfold hexI
  split
  · omega
  · split
    · omega
    · split <;> omega
theorem hex_while (l : List UInt8) (k : Nat) (ha : (l.take k).all isHex = true) (h : ∀ h : k < l.length, isHex l[k] = false) : l.takeWhile isHex = l.take k ∧ l.dropWhile isHex = l.drop k := by
  have hw := while_app isHex (l.take k) (l.drop k) (fun c hc => List.all_eq_true.1 ha c hc) (fun c r e => by
    have hlt : k < l.length := by
      rcases Nat.lt_or_ge k l.length with h | h
      · exact h
      · rw [List.drop_eq_nil_of_le h] at e; cases e
    rw [List.drop_eq_getElem_cons hlt] at e
    injection e with e1 e2
    rw [← e1]; exact h hlt)
  rwa [List.take_append_drop] at hw
/-- what is gathered of a size's first k digits -/
def Sz (l : List UInt8) (k : Nat) (a : Int) : Prop := (l.take k).all isHex = true ∧ a = (hexS (l.take k) : Int)
theorem sz_nine {l : List UInt8} {a : Int} (h : Sz l 8 a) (hk : 8 < l.length) (hx : isHex l[8] = true) : sizeC l = -1 := by
  have h9 : (l.take 9).all isHex = true := by rw [List.take_succ_eq_append_getElem hk, List.all_append, h.1]; simp [hx]
  have hlen : 8 < (l.takeWhile isHex).length := by
    have e := while_app2 isHex l
    rcases Nat.lt_or_ge 8 (l.takeWhile isHex).length with q | q
    · exact q
    · exfalso
      have hw := while_app isHex (l.take 9) ((l.drop 9).takeWhile isHex ++ (l.drop 9).dropWhile isHex)
      have : (l.take 9) ++ l.drop 9 = l := List.take_append_drop 9 l
      have hpre : ∀ (a b : List UInt8), a.all isHex = true → a.length ≤ ((a ++ b).takeWhile isHex).length := by
        intro a
        induction a with
        | nil => intro b _; simp
        | cons c r ih =>
          intro b h
          rw [List.all_cons, Bool.and_eq_true] at h
          rw [List.cons_append, List.takeWhile_cons, if_pos h.1, List.length_cons, List.length_cons]
          have := ih b h.2
          omega
      have h5 := hpre (l.take 9) (l.drop 9) h9
      rw [this, List.length_take] at h5
      omega
  unfold sizeC
  rw [if_pos (.inr (.inl hlen))]
theorem sz_next {l : List UInt8} {k : Nat} {a : Int} (h : Sz l k a) (hk : k < l.length) (hx : 0 ≤ hexI (l[k].toNat : Int)) : Sz l (k + 1) (a * 16 + hexI (l[k].toNat : Int)) := by
  have hx' : isHex l[k] = true := decide_eq_true hx
  refine ⟨by rw [List.take_succ_eq_append_getElem hk, List.all_append, h.1]; simp [hx'], ?_⟩
  have e : hexS (l.take k ++ [l[k]]) = hexS (l.take k) * 16 + (hexI (l[k].toNat : Int)).toNat := by unfold hexS; rw [List.foldl_append]; rfl
  rw [List.take_succ_eq_append_getElem hk, e, h.2]
  omega
theorem sz_lt {l : List UInt8} {k : Nat} {a : Int} (h : Sz l k a) (hk : k ≤ 8) : 0 ≤ a ∧ a < 4294967296 := by
  have h1 := hexS_lt (l.take k)
  have h2 : 16 ^ (l.take k).length ≤ 16 ^ 8 := Nat.pow_le_pow_right (by decide) (by rw [List.length_take]; omega)
  have h3 : (16 : Nat) ^ 8 = 4294967296 := by decide
  rw [h.2]
  omega
theorem sz_none {l : List UInt8} {k : Nat} {a : Int} (h : Sz l k a) (hk : k < l.length) (hx : hexI (l[k].toNat : Int) < 0) (hb : k = 0 ∨ ¬ l[k] = 59) : sizeC l = -1 := by
  obtain ⟨e1, e2⟩ := hex_while l k h.1 (fun _ => decide_eq_false (by omega))
  unfold sizeC
  rw [e1, e2, if_pos]
  rcases hb with h0 | h0
  · left; subst h0; simp
  · right; right
    rw [List.drop_eq_getElem_cons hk]
    show (decide (l[k] = 59) && _) = false
    rw [decide_eq_false h0]; rfl
theorem sz_text {l : List UInt8} {k : Nat} {a : Int} (h : Sz l k a) (h0 : k ≠ 0) (h8 : k ≤ 8) (hk : k < l.length) (hx : hexI (l[k].toNat : Int) < 0) (hb : l[k] = 59) : sizeC l = if (l.drop k).all txt = true then a else -1 := by
  obtain ⟨e1, e2⟩ := hex_while l k h.1 (fun _ => decide_eq_false (by omega))
  have he : extOk (l.drop k) = (l.drop k).all txt := by
    rw [List.drop_eq_getElem_cons hk]
    show (decide (l[k] = 59) && _) = _
    rw [decide_eq_true hb]; simp
  have hl : (l.take k).length = k := by rw [List.length_take]; omega
  unfold sizeC
  rw [e1, e2, he, hl]
  cases q : (l.drop k).all txt with
  | false => rw [if_pos (.inr (.inr rfl)), if_neg (by simp)]
  | true => rw [if_neg (by rintro (q | q | q) <;> first | omega | cases q), if_pos rfl, h.2]
theorem sz_all {l : List UInt8} {k : Nat} {a : Int} (h : Sz l k a) (h0 : k ≠ 0) (h8 : k ≤ 8) (hk : k = l.length) : sizeC l = a := by
  obtain ⟨e1, e2⟩ := hex_while l k h.1 (fun q => by omega)
  have hl : (l.take k).length = k := by rw [List.length_take]; omega
  have hd : l.drop k = [] := List.drop_eq_nil_of_le (by omega)
  unfold sizeC
  rw [e1, e2, hl, hd, if_neg (by rintro (q | q | q) <;> first | omega | cases q), h.2]
set_option maxRecDepth 20000 in
set_option maxHeartbeats 4000000 in
theorem sizeRef (v : Value) (l : List UInt8) (w : World) (hv : HoldsB w v l) (hl : l.length ≤ 4096) :
    Calls Tryz.prog 103 #[v] w fun e w' => e = .returned (.int .i64 (sizeC l)) ∧ w' = w := by
  obtain ⟨ao, cap, rfl, h0, hcp, hc⟩ := hv
  by_cases hz : l = []
  · subst hz
    have R : Hid (sizeC [] = -1) := by unfold Hid; decide
    clear hc hcp h0 hl
    go_enter Tryz.func103, Tryz.ntmps103
    go_wp2
    go_rounds 1
    go_ret
    rw [R.out]
    exact ⟨rfl, rfl⟩
  · obtain ⟨b, off, rfl, hlt, hcell⟩ := hc hz
    have C := hide' hcell
    obtain ⟨n, hn⟩ : ∃ n, n = l.length := ⟨_, rfl⟩
    have NN : Hid (l.length = n) := hn.symm
    have hn0 : 0 < n := by rw [hn]; exact List.length_pos_iff.2 hz
    rw [← hn] at hl hcp ⊢
    obtain ⟨R, hR⟩ : ∃ R, R = sizeC l := ⟨_, rfl⟩
    have HR := hide' hR
    rw [← hR]
    clear hz hc hcell hn hR h0
    go_enter Tryz.func103, Tryz.ntmps103
    go_wp2_with fail
    go_loop [3, 4] (fun vv kv => ∃ (k : Nat) (a : Int), vv = .int .i64 a ∧ kv = .int .i64 k ∧ k ≤ n ∧ k ≤ 8 ∧ (0 ≤ a ∧ a < 4294967296) ∧ Hid (Sz l k a)) (fun _ kv => n - (intOf kv).toNat)
    case atStart => exact ⟨0, 0, rfl, rfl, Nat.zero_le _, by omega, ⟨by omega, by omega⟩, ⟨rfl, rfl⟩⟩
    case round =>
      obtain ⟨k, a, rfl, rfl, hk, hk8, ⟨a0, a1⟩, S⟩ := hrel
      by_cases hkn : k < n
      · have G : Hid (k < l.length) := by unfold Hid; rw [NN.out]; exact hkn
        have x1 : w.cell? ⟨b, off + k, none⟩ = some (.int .u8 ((l[k]'G.out).toNat : Int)) := C.out k G.out
        have bb := byte_lt (l[k]'G.out)
        have cH := fun W => hexRef ((l[k]'G.out).toNat : Int) bb.1 bb.2 W
        have hx := hexI_lo ((l[k]'G.out).toNat : Int)
        by_cases hh : 0 ≤ hexI ((l[k]'G.out).toNat : Int)
        · by_cases h8 : k = 8
          · subst h8
            have RE := hide' (HR.out.trans (sz_nine S.out G.out (decide_eq_true hh)))
            clear S C
            generalize hexI ((l[8]'G.out).toNat : Int) = h at cH hx hh
            have CH := hide' cH
            clear cH
            generalize (l[8]'G.out).toNat = c at x1 bb CH
            go_wp2_with (go_at_call 132; refine (CH.out _).mono ?_; rintro e w9 ⟨rfl, ew⟩; rw [ew]; clear ew w9)
            go_ret
            rw [RE.out]
            exact ⟨rfl, rfl⟩
          · have SN := hide' (sz_next S.out G.out hh)
            have sb := sz_lt SN.out (by omega)
            have h8' : ((k : Int) == 8) = false := by simp; omega
            clear S
            generalize hexI ((l[k]'G.out).toNat : Int) = h at cH hx hh SN sb
            have CH := hide' cH
            clear cH
            generalize (l[k]'G.out).toNat = c at x1 bb CH
            obtain ⟨sb0, sb1⟩ := sb
            go_wp2_with (go_at_call 132; refine (CH.out _).mono ?_; rintro e w9 ⟨rfl, ew⟩; rw [ew]; clear ew w9)
            go_round
            case rel => exact ⟨k + 1, a * 16 + h, rfl, by go_num, by omega, by omega, ⟨sb0, sb1⟩, SN⟩
            case measure => simp [intOf]; omega
        · have hh' : hexI ((l[k]'G.out).toNat : Int) < 0 := by omega
          have Z1 := hide' (fun h => HR.out.trans (sz_none S.out G.out hh' h))
          have Z2 := hide' (fun h => fun h59 => HR.out.trans (sz_text S.out h hk8 G.out hh' h59))
          have e59 : (l[k]'G.out) = 59 ↔ ((l[k]'G.out).toNat : Int) = 59 := by
            constructor
            · intro e; rw [e]; rfl
            · intro e; exact UInt8.toNat_inj.1 (by show (l[k]'G.out).toNat = 59; omega)
          by_cases hb : k = 0 ∨ ¬ (l[k]'G.out) = 59
          · have RE := hide' (Z1.out hb)
            have hb' : ((k : Int) == 0) = true ∨ (((k : Int) == 0) = false ∧ ((((l[k]'G.out).toNat : Int)) != 59) = true) := by
              by_cases q : k = 0
              · left; simp [q]
              · right
                refine ⟨by simp; omega, ?_⟩
                have := hb.resolve_left q
                rw [e59] at this
                simpa using this
            clear Z1 Z2 S hh e59 hb
            generalize hexI ((l[k]'G.out).toNat : Int) = h at cH hx hh'
            have CH := hide' cH
            clear cH
            generalize (l[k]'G.out).toNat = c at x1 bb CH hb'
            rcases hb' with q | ⟨q, q2⟩
            · have k0 : (k : Int) = 0 := by simpa using q
              have x1' : w.cell? ⟨b, off, none⟩ = some (.int .u8 (c : Int)) := by
                have e0 : k = 0 := by omega
                rw [e0, Nat.add_zero] at x1
                exact x1
              rw [k0]
              have hn0' : (0 : Int) < (n : Int) := by omega
              clear q x1 hkn k0
              go_wp2_with (go_at_call 132; refine (CH.out _).mono ?_; rintro e w9 ⟨rfl, ew⟩; rw [ew]; clear ew w9)
              go_ret
              rw [RE.out]
              exact ⟨rfl, rfl⟩
            · have q3 : (c != 59) = true := by simp at q2 ⊢; omega
              go_wp2_with (go_at_call 132; refine (CH.out _).mono ?_; rintro e w9 ⟨rfl, ew⟩; rw [ew]; clear ew w9)
              go_ret
              rw [RE.out]
              exact ⟨rfl, rfl⟩
          · have hk0 : k ≠ 0 := fun e => hb (.inl e)
            have h59 : (l[k]'G.out) = 59 := Classical.byContradiction (fun e => hb (.inr e))
            have RE := hide' (Z2.out hk0 h59)
            have hc59 : ((l[k]'G.out).toNat : Int) = 59 := e59.1 h59
            have k0' : ((k : Int) == 0) = false := by simp; omega
            clear Z1 Z2 S hh e59 hb h59
            generalize hexI ((l[k]'G.out).toNat : Int) = h at cH hx hh'
            rw [hc59] at cH x1
            have CH := hide' cH
            clear cH bb hc59
            go_wp2_with (go_at_call 132; refine (CH.out _).mono ?_; rintro e w9 ⟨rfl, ew⟩; rw [ew]; clear ew w9)
            go_loop [5] (fun iv => ∃ m : Nat, k + m ≤ n ∧ iv = .int .i64 ((k + m : Nat) : Int) ∧ Hid (((l.drop k).take m).all txt = true)) (fun iv => n - (intOf iv).toNat)
            case atStart => exact ⟨0, by omega, by simp, rfl⟩
            case round =>
              obtain ⟨m, hm, rfl, HA⟩ := hrel
              by_cases hmn : k + m < n
              · have G2 : Hid (k + m < l.length) := by unfold Hid; rw [NN.out]; exact hmn
                have x2 : w.cell? ⟨b, off + (k + m), none⟩ = some (.int .u8 ((l[k + m]'G2.out).toNat : Int)) := C.out (k + m) G2.out
                have bb := byte_lt (l[k + m]'G2.out)
                have cT := fun W => textRef ((l[k + m]'G2.out).toNat : Int) bb.1 bb.2 W
                have hmd : m < (l.drop k).length := by rw [List.length_drop, NN.out]; omega
                have hel : (l.drop k)[m]'hmd = l[k + m]'G2.out := by simp
                cases ht : txt (l[k + m]'G2.out) with
                | true =>
                  have AA : Hid (((l.drop k).take (m + 1)).all txt = true) := by
                    unfold Hid
                    rw [List.take_succ_eq_append_getElem hmd, List.all_append, HA.out, hel]
                    simp [ht]
                  have ht' : txtI ((l[k + m]'G2.out).toNat : Int) = true := ht
                  rw [ht'] at cT
                  have CT := hide' cT
                  clear cT ht ht' hel hmd HA
                  generalize (l[k + m]'G2.out).toNat = c2 at x2 bb CT
                  go_wp2_with (go_at_call 76; refine (CT.out _).mono ?_; rintro e w9 ⟨rfl, ew⟩; rw [ew]; clear ew w9)
                  go_round
                  case rel => exact ⟨m + 1, by omega, by go_num, AA⟩
                  case measure => simp [intOf]; omega
                | false =>
                  have FF : Hid (R = -1) := by
                    unfold Hid
                    rw [RE.out, if_neg]
                    rw [List.all_eq_true]
                    intro h5
                    have := h5 _ (List.getElem_mem hmd)
                    rw [hel, ht] at this
                    cases this
                  have ht' : txtI ((l[k + m]'G2.out).toNat : Int) = false := ht
                  rw [ht'] at cT
                  have CT := hide' cT
                  clear cT ht ht' hel hmd HA RE
                  generalize (l[k + m]'G2.out).toNat = c2 at x2 bb CT
                  go_wp2_with (go_at_call 76; refine (CT.out _).mono ?_; rintro e w9 ⟨rfl, ew⟩; rw [ew]; clear ew w9)
                  go_ret
                  rw [FF.out]
                  exact ⟨rfl, rfl⟩
              · have FF : Hid (R = a) := by
                  unfold Hid
                  rw [RE.out, if_pos]
                  have := HA.out
                  rwa [List.take_of_length_le (by rw [List.length_drop, NN.out]; omega)] at this
                clear HA RE
                go_wp2_with fail
                go_ret
                rw [FF.out]
                exact ⟨rfl, rfl⟩
      · have hkk : k = n := by omega
        subst hkk
        have RE := hide' (HR.out.trans (sz_all S.out (by omega) hk8 NN.out.symm))
        have k0' : ((k : Int) == 0) = false := by simp; omega
        clear S C
        go_wp2_with fail
        go_rounds 1
        go_ret
        rw [RE.out]
        exact ⟨rfl, rfl⟩
end Go.Proofs.YtmikgpmnffdnnabGreatDoor
