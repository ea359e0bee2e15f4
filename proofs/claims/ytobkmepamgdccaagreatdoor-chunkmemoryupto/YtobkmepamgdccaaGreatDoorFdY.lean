/- The contract of the document's Parse. -/
import Derived.Test.YtobkmepamgdccaaGreatDoorFdR
namespace Go.Proofs.YtobkmepamgdccaaGreatDoor
open Go.RowKit
theorem step_pre (l t : List UInt8) (ha : l.any isEnd = false) : stepOf (l ++ t) = (stepOf t).map (fun p => (l ++ p.1, p.2)) := by
  induction l with
  | nil =>
    rw [List.nil_append]
    cases stepOf t with
    | none => rfl
    | some p => rfl
  | cons b l ih =>
    rw [List.any_cons, Bool.or_eq_false_iff] at ha
    obtain ⟨hb, hl⟩ := ha
    unfold isEnd at hb
    have hb := of_decide_eq_false hb
    have h13 : ¬ b = 13 := fun e => hb (.inl e)
    have h10 : ¬ b = 10 := fun e => hb (.inr e)
    rw [List.cons_append, stepOf.eq_def]
    simp only
    rw [if_neg h13, if_neg h10, ih hl]
    cases stepOf t with
    | none => rfl
    | some p => rfl
theorem step_13 (t : List UInt8) : stepOf (13 :: 10 :: t) = some ([], t) := by rw [stepOf.eq_def]; simp
theorem step_no (t : List UInt8) (h : t = [] ∨ ∃ c r, t = c :: r ∧ isEnd c = true ∧ ∀ r', ¬ t = 13 :: 10 :: r') : stepOf t = none := by
  rcases h with rfl | ⟨c, r, rfl, hc, hn⟩
  · rfl
  · rw [stepOf.eq_def]
    simp only
    unfold isEnd at hc
    by_cases h13 : c = 13
    · subst h13
      rw [if_pos rfl]
      cases r with
      | nil => rfl
      | cons d r =>
        simp only
        rw [if_neg (fun e => hn r (by rw [e]))]
    · have h10 : c = 10 := (of_decide_eq_true hc).resolve_left h13
      rw [if_neg h13, if_pos h10]
/-- the rest of a text from place k on, with a line up to place e -/
theorem rest_at (bs : List UInt8) (k e : Nat) (hk : k ≤ e) : bs.drop k = (bs.drop k).take (e - k) ++ bs.drop e := by
  conv => lhs; rw [← List.take_append_drop (e - k) (bs.drop k)]
  rw [List.drop_drop, show k + (e - k) = e by omega]
theorem cut_at (b off n cap k e : Nat) (hk : k ≤ e) (he : e ≤ n) (hkn : k < n) (hc : n ≤ cap) (w : World) : Sem.run Tryz.prog (Instr.slice 22 (.slice (some ⟨b, off, none⟩) n cap) (some (.int .i64 k)) (some (.int .i64 e)) none) w = .ok (.slice (some ⟨b, off + k, none⟩) (e - k) (cap - k)) w := by
  have hel : Tryz.prog.elem 22 = 5 := by kernel_rfl
  have h := run_slice_lh (P := Tryz.prog) w 22 (some ⟨b, off, none⟩) n cap (by rw [hel]; exact Tryz.underlying22) .i64 .i64 k e (by omega) (by omega) (by omega)
  rw [hel, Tryz.sizeOf5] at h
  simp only [Result.andThen, Int.toNat_natCast, sliced] at h
  rw [h]
  have : ¬ cap = k := by omega
  simp [Addr.add, this]
set_option maxRecDepth 20000 in
set_option maxHeartbeats 1000000 in
theorem parseRef (v : Value) (bs : List UInt8) (w : World) (hv : HoldsB w v bs) (hs : bs.length < 4294967281) :
    Calls Tryz.prog 32 #[v] w fun e w' => ∃ lv, e = .returned (.tuple #[lv, .int .i64 (parseOf bs).2]) ∧ OwnF w lv (parseOf bs).1 w' := by
  obtain ⟨ao, cap, rfl, h0, hcp, hc⟩ := hv
  have C := hide' hc
  clear hc h0
  obtain ⟨n, en⟩ : ∃ n, n = bs.length := ⟨_, rfl⟩
  have N : Hid (bs.length = n) := en.symm
  rw [N.out] at hs hcp ⊢
  clear en
  go_enter Tryz.func32, Tryz.ntmps32
  go_wp2_with fail
  go_loopw [4, 5] (fun lv iv wr => ∃ (vo : Value) (k : Nat) (acc : FL), vo = lv ∧ k ≤ n ∧ iv = .int .i64 k ∧ Hid (parseG (bs.drop k) acc = parseOf bs) ∧ acc.length ≤ 100 ∧ OwnF w vo acc wr) (fun _ iv _ => n - (intOf iv).toNat)
  case atStart => exact ⟨_, 0, [], rfl, Nat.zero_le _, rfl, rfl, by simp, ownF_empty w⟩
  case round =>
    obtain ⟨vo, k, acc, rfl, hk, rfl, HP, hacc, ho⟩ := hrel
    obtain ⟨w1, ew⟩ : ∃ w1, w1 = wr := ⟨_, rfl⟩
    subst ew
    by_cases hlt : k < n
    · obtain ⟨b, off, hao, hblt, hcell⟩ := C.out (fun e => by have := N.out; rw [e] at this; simp at this; omega)
      subst hao
      have CC := hide' hcell
      have O := hide' ho
      clear hcell ho
      go_wp2_with fail
      go_loopw [6] (fun ev wr => ∃ e : Nat, k ≤ e ∧ e ≤ n ∧ ev = .int .i64 e ∧ Hid (((bs.drop k).take (e - k)).any isEnd = false) ∧ w1 = wr) (fun ev _ => n - (intOf ev).toNat)
      case atStart => exact ⟨k, Nat.le_refl _, hk, rfl, by unfold Hid; simp, rfl⟩
      case round =>
        obtain ⟨e, hke, hen, rfl, HA, rfl⟩ := hrel
        have hrne : bs.drop k ≠ [] := by
          intro h
          have := congrArg List.length h
          rw [List.length_drop, N.out] at this
          simp at this
          omega
        have hrest := rest_at bs k e hke
        by_cases hen2 : e < n
        · have G : Hid (e < bs.length) := by unfold Hid; rw [N.out]; exact hen2
          have ck : w1.cell? ⟨b, off + e, none⟩ = some (.int .u8 ((bs[e]'G.out).toNat : Int)) := by
            rw [O.out.2.cell (p := ⟨b, off + e, none⟩) hblt]; exact CC.out e G.out
          have hbt := byte_lt (bs[e]'G.out)
          have hdr : bs.drop e = bs[e]'G.out :: bs.drop (e + 1) := List.drop_eq_getElem_cons G.out
          cases hE : isEnd (bs[e]'G.out) with
          | false =>
            have hne := of_decide_eq_false (show decide (bs[e]'G.out = 13 ∨ bs[e]'G.out = 10) = false from hE)
            have q1 : (((bs[e]'G.out).toNat : Int) != 13) = true := by
              simp
              intro x
              exact hne (.inl (UInt8.toNat_inj.1 (by show (bs[e]'G.out).toNat = 13; omega)))
            have q2 : (((bs[e]'G.out).toNat : Int) != 10) = true := by
              simp
              intro x
              exact hne (.inr (UInt8.toNat_inj.1 (by show (bs[e]'G.out).toNat = 10; omega)))
            have A2 : Hid (((bs.drop k).take (e + 1 - k)).any isEnd = false) := by
              unfold Hid
              have hx : e - k < (bs.drop k).length := by rw [List.length_drop, N.out]; omega
              rw [show e + 1 - k = (e - k) + 1 by omega, List.take_succ_eq_append_getElem hx, List.any_append, HA.out]
              have : (bs.drop k)[e - k]'hx = bs[e]'G.out := by
                rw [List.getElem_drop]
                congr 1
                omega
              rw [this]
              simp [hE]
            clear hne hE hdr hrest hrne
            generalize (bs[e]'G.out).toNat = cn at ck hbt q1 q2
            go_wp2_with fail
            go_roundw
            case rel => exact ⟨e + 1, by omega, by omega, by go_num, A2, (by first | exact rfl | trivial)⟩
            case measure => simp [intOf]; omega
          | true =>
            have hyes := of_decide_eq_true (show decide (bs[e]'G.out = 13 ∨ bs[e]'G.out = 10) = true from hE)
            by_cases h13 : bs[e]'G.out = 13
            · have q1 : (((bs[e]'G.out).toNat : Int) != 13) = false := by rw [h13]; rfl
              by_cases hn1 : e + 1 < n
              · have G1 : Hid (e + 1 < bs.length) := by unfold Hid; rw [N.out]; exact hn1
                have ck1 : w1.cell? ⟨b, off + (e + 1), none⟩ = some (.int .u8 ((bs[e + 1]'G1.out).toNat : Int)) := by
                  rw [O.out.2.cell (p := ⟨b, off + (e + 1), none⟩) hblt]; exact CC.out (e + 1) G1.out
                have hbt1 := byte_lt (bs[e + 1]'G1.out)
                have hdr1 : bs.drop (e + 1) = bs[e + 1]'G1.out :: bs.drop (e + 2) := List.drop_eq_getElem_cons G1.out
                have hge : decide ((n : Int) ≤ (e : Int) + 1) = false := decide_eq_false (by omega)
                by_cases h10 : bs[e + 1]'G1.out = 10
                · have q3 : (((bs[e + 1]'G1.out).toNat : Int) != 10) = false := by rw [h10]; rfl
                  have hst : stepOf (bs.drop k) = some ((bs.drop k).take (e - k), bs.drop (e + 2)) := by
                    have e1 := step_pre ((bs.drop k).take (e - k)) (bs.drop e) HA.out
                    rw [← hrest, hdr, hdr1, h13, h10, step_13] at e1
                    rw [e1]
                    simp
                  have hpb := parse_bad _ _ _ acc hst
                  have hpm := parse_many _ _ _ acc hst
                  have hpn := parse_next _ _ _ acc hst
                  have hll : ((bs.drop k).take (e - k)).length = e - k := by rw [List.length_take, List.length_drop, N.out]; omega
                  have LL := line_len ((bs.drop k).take (e - k))
                  have HL : HoldsB w1 (.slice (some ⟨b, off + k, none⟩) ((bs.drop k).take (e - k)).length (cap - k)) ((bs.drop k).take (e - k)) := by
                    refine ⟨_, _, rfl, (fun x => by cases x), by rw [hll]; omega, fun _ => ⟨b, off + k, rfl, Nat.lt_of_lt_of_le hblt O.out.2.size, fun j hj => ?_⟩⟩
                    have := CC.out (k + j) (by rw [N.out]; omega)
                    rw [Nat.add_assoc, O.out.2.cell (p := ⟨b, off + (k + j), none⟩) hblt, this]
                    simp
                  have cv := conv_holdsB w1 _ _ _ HL
                  have hsl := cut_at b off n cap k e hke hen hlt hcp w1
                  have KO := hide' (oneRef ⟨((bs.drop k).take (e - k)).toArray⟩ (by rw [size_l, hll]; omega) w1)
                  unfold lineV at KO
                  simp only at KO
                  rw [hll] at cv
                  obtain ⟨x, hx⟩ : ∃ x, x = (lineOf ((bs.drop k).take (e - k))).1.1 := ⟨_, rfl⟩
                  obtain ⟨y, hy⟩ : ∃ y, y = (lineOf ((bs.drop k).take (e - k))).1.2 := ⟨_, rfl⟩
                  obtain ⟨ee, hee⟩ : ∃ ee, ee = (lineOf ((bs.drop k).take (e - k))).2 := ⟨_, rfl⟩
                  rw [← hx, ← hy, ← hee] at KO
                  have hxy : (lineOf ((bs.drop k).take (e - k))).1 = (x, y) := by rw [hx, hy]
                  rw [← hee] at hpb hpm hpn
                  rw [hxy] at hpn
                  clear h13 h10 hyes hE hdr hdr1 hst hrest hrne hll LL HL hx hy hee hxy
                  generalize (bs[e]'G.out).toNat = cn at ck hbt q1
                  generalize (bs[e + 1]'G1.out).toNat = cn1 at ck1 hbt1 q3
                  generalize ((bs.drop k).take (e - k)).toArray = la at cv KO
                  obtain ⟨aa, ca, b9, o9, hlv, _⟩ := holdsF_parts (holdsF_own O.out)
                  by_cases h0 : ee = 0
                  · by_cases h100 : 100 ≤ acc.length
                    · have HPn := hide' (HP.out.symm.trans (hpm h0 h100))
                      have P2 : Hid ((parseOf bs).2 = 42) := by unfold Hid; rw [HPn.out]
                      have P1 : Hid ((parseOf bs).1 = []) := by unfold Hid; rw [HPn.out]
                      subst h0
                      have e100 : decide ((100 : Int) ≤ (acc.length : Int)) = true := decide_eq_true (by omega)
                      clear hpb hpm hpn HPn
                      rw [hlv] at O ⊢
                      clear hlv
                      go_wp2_with fail
                      refine KO.out.mono ?_
                      rintro e9 w3 ⟨rfl, b3⟩
                      have B3 := hide' (bt' O.out.2 b3)
                      clear b3
                      go_wp2_with fail
                      go_ret2
                      rw [P2.out, P1.out]
                      exact ⟨_, rfl, ownF_nil _ _ (B3.out.alloc B3.out.size _)⟩
                    · have HPn := hide' ((hpn h0 h100).symm.trans HP.out)
                      subst h0
                      have e100 : decide ((100 : Int) ≤ (acc.length : Int)) = false := decide_eq_false (by omega)
                      clear hpb hpm hpn
                      rw [hlv] at O ⊢
                      clear hlv
                      go_wp2_with fail
                      refine KO.out.mono ?_
                      rintro e9 w3 ⟨rfl, b3⟩
                      have O4 := hide' (ownF_mono (ownF_mono O.out b3) (below_alloc' w3 (.cells #[.string ⟨x.toArray⟩, .string ⟨y.toArray⟩] 51)))
                      clear b3
                      go_wp2_with (at_builtin; refine appF rfl (.tmp 70) (.tmp 72) rfl w _ _ rfl O4.out (x, y) rfl rfl rfl (by simp) (by omega) ?_; intro v5 w5 ho5)
                      go_roundw
                      case rel => exact ⟨_, e + 2, acc ++ [(x, y)], rfl, by omega, by go_num, HPn, by simp; omega, ho5⟩
                      case measure => simp [intOf]; omega
                  · have HPn := hide' (HP.out.symm.trans (hpb h0))
                    have P2 : Hid ((parseOf bs).2 = ee) := by unfold Hid; rw [HPn.out]
                    have P1 : Hid ((parseOf bs).1 = []) := by unfold Hid; rw [HPn.out]
                    have ene : (ee != 0) = true := by simpa using h0
                    clear hpb hpm hpn HPn h0 hlv
                    go_wp2_with fail
                    refine KO.out.mono ?_
                    rintro e9 w3 ⟨rfl, b3⟩
                    have B3 := hide' (bt' O.out.2 b3)
                    clear b3
                    go_wp2_with fail
                    go_ret2
                    rw [P2.out, P1.out]
                    exact ⟨_, rfl, ownF_nil _ _ (B3.out.alloc B3.out.size _)⟩
                · have q3 : (((bs[e + 1]'G1.out).toNat : Int) != 10) = true := by
                    simp
                    intro x
                    exact h10 (UInt8.toNat_inj.1 (by show (bs[e + 1]'G1.out).toNat = 10; omega))
                  have hst : stepOf (bs.drop e) = none := step_no _ (.inr ⟨_, _, hdr, hE, fun r' x => by
                    rw [hdr, hdr1] at x
                    injection x with x1 x2
                    injection x2 with x3 x4
                    exact h10 x3⟩)
                  clear h13 h10 hyes hE hdr hdr1
                  generalize (bs[e]'G.out).toNat = cn at ck hbt q1
                  generalize (bs[e + 1]'G1.out).toNat = cn1 at ck1 hbt1 q3
                  have HPn := hide' (HP.out.symm.trans (parse_none _ acc hrne (by rw [hrest, step_pre _ _ HA.out, hst]; rfl)))
                  have P2 : Hid ((parseOf bs).2 = 40) := by unfold Hid; rw [HPn.out]
                  have P1 : Hid ((parseOf bs).1 = []) := by unfold Hid; rw [HPn.out]
                  clear hst hrest hrne HPn
                  go_wp2_with fail
                  go_ret2
                  rw [P2.out, P1.out]
                  exact ⟨_, rfl, ownF_nil _ _ O.out.2⟩
              · have hge : decide ((n : Int) ≤ (e : Int) + 1) = true := decide_eq_true (by omega)
                have hst : stepOf (bs.drop e) = none := step_no _ (.inr ⟨_, _, hdr, hE, fun r' x => by
                  have := congrArg List.length x
                  rw [List.length_drop, N.out] at this
                  simp at this
                  omega⟩)
                clear h13 hyes hE hdr
                generalize (bs[e]'G.out).toNat = cn at ck hbt q1
                have HPn := hide' (HP.out.symm.trans (parse_none _ acc hrne (by rw [hrest, step_pre _ _ HA.out, hst]; rfl)))
                have P2 : Hid ((parseOf bs).2 = 40) := by unfold Hid; rw [HPn.out]
                have P1 : Hid ((parseOf bs).1 = []) := by unfold Hid; rw [HPn.out]
                clear hst hrest hrne HPn
                go_wp2_with fail
                go_ret2
                rw [P2.out, P1.out]
                exact ⟨_, rfl, ownF_nil _ _ O.out.2⟩
            · have h10 : bs[e]'G.out = 10 := hyes.resolve_left h13
              have q1 : (((bs[e]'G.out).toNat : Int) != 13) = true := by rw [h10]; rfl
              have q2 : (((bs[e]'G.out).toNat : Int) != 10) = false := by rw [h10]; rfl
              have hst : stepOf (bs.drop e) = none := step_no _ (.inr ⟨_, _, hdr, hE, fun r' x => by
                rw [hdr] at x
                injection x with x1 x2
                exact h13 x1⟩)
              clear h13 h10 hyes hE hdr
              generalize (bs[e]'G.out).toNat = cn at ck hbt q1 q2
              by_cases hn1 : e + 1 < n
              · have hge : decide ((n : Int) ≤ (e : Int) + 1) = false := decide_eq_false (by omega)
                have HPn := hide' (HP.out.symm.trans (parse_none _ acc hrne (by rw [hrest, step_pre _ _ HA.out, hst]; rfl)))
                have P2 : Hid ((parseOf bs).2 = 40) := by unfold Hid; rw [HPn.out]
                have P1 : Hid ((parseOf bs).1 = []) := by unfold Hid; rw [HPn.out]
                clear hst hrest hrne HPn
                go_wp2_with fail
                go_ret2
                rw [P2.out, P1.out]
                exact ⟨_, rfl, ownF_nil _ _ O.out.2⟩
              · have hge : decide ((n : Int) ≤ (e : Int) + 1) = true := decide_eq_true (by omega)
                have HPn := hide' (HP.out.symm.trans (parse_none _ acc hrne (by rw [hrest, step_pre _ _ HA.out, hst]; rfl)))
                have P2 : Hid ((parseOf bs).2 = 40) := by unfold Hid; rw [HPn.out]
                have P1 : Hid ((parseOf bs).1 = []) := by unfold Hid; rw [HPn.out]
                clear hst hrest hrne HPn
                go_wp2_with fail
                go_ret2
                rw [P2.out, P1.out]
                exact ⟨_, rfl, ownF_nil _ _ O.out.2⟩
        · have hst : stepOf (bs.drop e) = none := by rw [List.drop_eq_nil_of_le (by rw [N.out]; omega)]; rfl
          have hge : decide ((n : Int) ≤ (e : Int) + 1) = true := decide_eq_true (by omega)
          have HPn := hide' (HP.out.symm.trans (parse_none _ acc hrne (by rw [hrest, step_pre _ _ HA.out, hst]; rfl)))
          have P2 : Hid ((parseOf bs).2 = 40) := by unfold Hid; rw [HPn.out]
          have P1 : Hid ((parseOf bs).1 = []) := by unfold Hid; rw [HPn.out]
          clear hst hrest hrne HPn
          go_wp2_with fail
          go_ret2
          rw [P2.out, P1.out]
          exact ⟨_, rfl, ownF_nil _ _ O.out.2⟩
    · have E : Hid (bs.drop k = []) := List.drop_eq_nil_of_le (by rw [N.out]; omega)
      rw [E.out, parse_nil] at HP
      have P2 : Hid ((parseOf bs).2 = 0) := by unfold Hid; rw [← HP.out]
      have P1 : Hid ((parseOf bs).1 = acc) := by unfold Hid; rw [← HP.out]
      go_wp2_with fail
      go_ret2
      rw [P2.out, P1.out]
      exact ⟨_, rfl, ho⟩
end Go.Proofs.YtobkmepamgdccaaGreatDoor
