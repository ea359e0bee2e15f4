/- The contracts of the document's one and Parse. -/
import Derived.Test.YtobkmepamgdccaaGreatDoorBb
namespace Go.Proofs.YtobkmepamgdccaaGreatDoor
open Go.RowKit
theorem cut_to (s : ByteArray) (t : Nat) (ht : t ≤ s.size) (w : World) :
    Sem.run Tryz.prog (Instr.slice 9 (.string s) none (some (.int .i64 t)) none) w = .ok (.string ⟨(s.data.toList.take t).toArray⟩) w := by
  rw [run_slice_string_to_if w 9 s .i64 t Tryz.underlying9, if_pos ⟨by omega, by omega⟩]
  congr 2
  have : (s.extract 0 t).data.toList = s.data.toList.take t := by simp [ByteArray.data_extract, List.extract_eq_take_drop]
  simp only [Int.toNat_natCast]
  rw [← this]
theorem cut_from1 (s : ByteArray) (f : Nat) (hf : f + 1 ≤ s.size) (w : World) :
    Sem.run Tryz.prog (Instr.slice 9 (.string s) (some (.int .i64 ((f : Int) + 1))) none none) w = .ok (.string ⟨(s.data.toList.drop (f + 1)).toArray⟩) w := by
  have key : Sem.run Tryz.prog (Instr.slice 9 (.string s) (some (.int .i64 ((f + 1 : Nat) : Int))) none none) w = .ok (.string ⟨(s.data.toList.drop (f + 1)).toArray⟩) w := by
    rw [run_slice_string_from_if w 9 s .i64 ((f + 1 : Nat) : Int) Tryz.underlying9, if_pos ⟨by omega, by omega⟩]
    congr 2
    have : (s.extract (f + 1) s.size).data.toList = s.data.toList.drop (f + 1) := by
      simp [ByteArray.data_extract, List.extract_eq_take_drop]
      exact List.take_of_length_le (by simp)
    simp only [Int.toNat_natCast]
    rw [← this]
  rwa [Int.natCast_add] at key
theorem col_facts (l : List UInt8) (k : Nat) (hk : k ≤ l.length) (ha : (l.take k).all noCol = true) (h : ∀ h : k < l.length, noCol l[k] = false) :
    nameOf l = l.take k ∧ restOf l = l.drop (k + 1) ∧ l.all noCol = decide (k = l.length) := by
  have hw := while_app noCol (l.take k) (l.drop k) (fun c hc => List.all_eq_true.1 ha c hc) (fun c r e => by
    have hlt : k < l.length := by
      rcases Nat.lt_or_ge k l.length with h | h
      · exact h
      · rw [List.drop_eq_nil_of_le h] at e; cases e
    rw [List.drop_eq_getElem_cons hlt] at e
    injection e with e1 e2
    rw [← e1]; exact h hlt)
  rw [List.take_append_drop] at hw
  refine ⟨hw.1, by unfold restOf; rw [hw.2, List.drop_drop], ?_⟩
  by_cases e : k = l.length
  · rw [decide_eq_true e]
    rw [e, List.take_length] at ha
    exact ha
  · rw [decide_eq_false e]
    have hlt : k < l.length := by omega
    rw [List.all_eq_false]
    exact ⟨l[k], List.getElem_mem hlt, by rw [h hlt]; simp⟩
set_option maxRecDepth 20000 in
set_option maxHeartbeats 2000000 in
theorem oneRef (s : ByteArray) (hs : s.size < 4294967281) (w : World) :
    Calls Tryz.prog 44 #[.string s] w fun e w' => e = .returned (lineV s.data.toList) ∧ Below w.heap.size w w' := by
  have S0 := hide' (two_start w)
  have zl : s.data.toList.length = s.size := by simp
  cases hb : blankFirst s.data.toList with
  | true =>
    have R : Hid (lineV s.data.toList = .tuple #[.agg #[.string ⟨#[]⟩, .string ⟨#[]⟩], .int .i64 41]) := by
      unfold Hid lineV lineOf; rw [if_pos hb]
    rw [R.out]
    have h0 : 0 < s.size := by
      rcases Nat.eq_zero_or_pos s.size with h | h
      · have e : s.data.toList = [] := List.eq_nil_of_length_eq_zero (by rw [zl]; exact h)
        rw [e] at hb; cases hb
      · exact h
    have hne := ne_empty s h0
    have hbb : blankI ((s[0]).toNat : Int) = true := by
      have e : s.data.toList = s[0] :: s.data.toList.drop 1 := by
        have := List.drop_eq_getElem_cons (l := s.data.toList) (i := 0) (by rw [zl]; exact h0)
        rw [List.drop_zero] at this
        exact this
      rw [e] at hb; exact hb
    obtain ⟨⟨x1, c1⟩, ⟨x2, c2⟩, f1, f2, z, bel⟩ := S0.out
    have h0' : (0 : Int) < s.size := by omega
    rcases (of_decide_eq_true hbb : ((s[0]).toNat : Int) = 32 ∨ ((s[0]).toNat : Int) = 9) with hc | hc
    · have b1 : (((s[0]).toNat : Int) == 32) = true := by simp [hc]
      clear hbb hc hb R zl
      go_enter Tryz.func44, Tryz.ntmps44
      go_wp2_with fail
      exact bodyPost_ret (v := .tuple #[.agg #[.string ⟨#[]⟩, .string ⟨#[]⟩], .int .i64 41]) (by simp [results, Tryz.results44, go_sem]) rfl ⟨rfl, bel⟩
    · have b1 : (((s[0]).toNat : Int) == 32) = false := by simp [hc]
      have b2 : (((s[0]).toNat : Int) == 9) = true := by simp [hc]
      clear hbb hc hb R zl
      go_enter Tryz.func44, Tryz.ntmps44
      go_wp2_with fail
      exact bodyPost_ret (v := .tuple #[.agg #[.string ⟨#[]⟩, .string ⟨#[]⟩], .int .i64 41]) (by simp [results, Tryz.results44, go_sem]) rfl ⟨rfl, bel⟩
  | false =>
    obtain ⟨⟨x1, c1⟩, ⟨x2, c2⟩, f1, f2, z, bel⟩ := S0.out
    by_cases h0 : s.size = 0
    · obtain rfl := empty_of s h0
      have R : Hid (lineV (⟨#[]⟩ : ByteArray).data.toList = .tuple #[.agg #[.string ⟨#[]⟩, .string ⟨#[]⟩], .int .i64 40]) := rfl
      clear hb h0 hs zl
      go_enter Tryz.func44, Tryz.ntmps44
      go_wp2_with fail
      go_rounds 1
      exact bodyPost_ret (v := .tuple #[.agg #[.string ⟨#[]⟩, .string ⟨#[]⟩], .int .i64 40]) (by simp [results, Tryz.results44, go_sem]) rfl ⟨by rw [R.out], bel⟩
    · have hp : 0 < s.size := by omega
      have hne := ne_empty s hp
      have hbb : blankI ((s[0]).toNat : Int) = false := by
        have e : s.data.toList = s[0] :: s.data.toList.drop 1 := by
          have := List.drop_eq_getElem_cons (l := s.data.toList) (i := 0) (by rw [zl]; exact hp)
          rw [List.drop_zero] at this
          exact this
        rw [e] at hb; exact hb
      have b1 : (((s[0]).toNat : Int) == 32) = false := by unfold blankI at hbb; simp at hbb; simp; omega
      have b2 : (((s[0]).toNat : Int) == 9) = false := by unfold blankI at hbb; simp at hbb; simp; omega
      have hp' : (0 : Int) < s.size := by omega
      have HB := hide' hb
      clear hbb hb h0
      go_enter Tryz.func44, Tryz.ntmps44
      go_wp2_with fail
      clear b1 b2 hne
      go_loop [4] (fun i => ∃ k : Nat, k ≤ s.size ∧ i = .int .i64 k ∧ Hid ((s.data.toList.take k).all noCol = true)) (fun i => s.size - (intOf i).toNat)
      case atStart => exact ⟨0, Nat.zero_le _, rfl, by unfold Hid; simp⟩
      case round =>
        obtain ⟨k, hk, rfl, HA⟩ := hrel
        by_cases hc : ∃ h : k < s.size, noCol s[k] = true
        · obtain ⟨hlt, hc⟩ := hc
          have A2 : Hid ((s.data.toList.take (k + 1)).all noCol = true) := by
            unfold Hid; rw [take_snoc s k hlt, List.all_append, HA.out]; simp [hc]
          have q1 : (((s[k]).toNat : Int) != 58) = true := by
            unfold noCol at hc
            have hc := of_decide_eq_true hc
            simp
            intro e
            apply hc
            apply UInt8.toNat_inj.1
            have e2 : s[k].toNat = 58 := by omega
            exact e2
          clear hc
          go_wp2_with fail
          go_round
          case rel => exact ⟨k + 1, by omega, by go_num, A2⟩
          case measure => simp [intOf]; omega
        · have hcf : ∀ h : k < s.size, noCol s[k] = false := fun h => by
            cases e : noCol s[k] with
            | false => rfl
            | true => exact absurd ⟨h, e⟩ hc
          obtain ⟨n1, n2, n3⟩ := col_facts s.data.toList k (by rw [zl]; exact hk) HA.out (fun h => hcf (by rw [← zl]; exact h))
          have LO : Hid (lineV s.data.toList = if k = s.size then .tuple #[.agg #[.string ⟨#[]⟩, .string ⟨#[]⟩], .int .i64 40] else if goodF (s.data.toList.take k, trimT (s.data.toList.drop (k + 1))) = true then .tuple #[.agg #[.string ⟨(s.data.toList.take k).toArray⟩, .string ⟨(trimT (s.data.toList.drop (k + 1))).toArray⟩], .int .i64 0] else .tuple #[.agg #[.string ⟨#[]⟩, .string ⟨#[]⟩], .int .i64 40]) := by
            unfold Hid lineV lineOf
            rw [if_neg (by rw [HB.out]; simp), n3, n1, n2, zl]
            by_cases e : k = s.size
            · rw [decide_eq_true e, if_pos rfl, if_pos e]
            · rw [decide_eq_false e, if_neg (by simp), if_neg e]
              split <;> rfl
          clear n1 n2 n3 hc HB
          by_cases hlt : k < s.size
          · have q1 : (((s[k]).toNat : Int) != 58) = false := by
              have e := hcf hlt
              unfold noCol at e
              have e := of_decide_eq_false e
              simp at e
              rw [e]; rfl
            have q2 : ((k : Int) == (s.size : Int)) = false := by simp; omega
            have hct := cut_to s k hk
            have hcf1 := cut_from1 s k hlt
            rw [if_neg (by omega)] at LO
            have t1 := fun W => tokenRef ⟨(s.data.toList.take k).toArray⟩ W (by rw [size_l, List.length_take]; omega)
            have t2 := hide' (fun W => trimRef ⟨(s.data.toList.drop (k + 1)).toArray⟩ W (by rw [size_l, List.length_drop]; omega))
            have z3 := trimT_len (s.data.toList.drop (k + 1))
            rw [List.length_drop] at z3
            have t3 := fun W => valueRef ⟨(trimT (s.data.toList.drop (k + 1))).toArray⟩ W (by rw [size_l]; omega)
            have gf : goodF (s.data.toList.take k, trimT (s.data.toList.drop (k + 1))) = (isTok (s.data.toList.take k) && goodV (trimT (s.data.toList.drop (k + 1)))) := rfl
            rw [gf] at LO
            simp only at t1 t2 t3
            cases hT : isTok (s.data.toList.take k) with
            | false =>
              rw [hT] at t1 LO
              have T1 := hide' t1
              have R : Hid (lineV s.data.toList = .tuple #[.agg #[.string ⟨#[]⟩, .string ⟨#[]⟩], .int .i64 40]) := LO.out
              clear t1 t2 t3 hT gf hcf LO zl z3
              go_wp2_with (go_at_call 35; refine (T1.out _).mono ?_; rintro e w' ⟨rfl, hw⟩; rw [hw]; clear hw)
              exact bodyPost_ret (v := .tuple #[.agg #[.string ⟨#[]⟩, .string ⟨#[]⟩], .int .i64 40]) (by simp [results, Tryz.results44, go_sem]) rfl ⟨by rw [R.out], bel⟩
            | true =>
              rw [hT] at t1 LO
              have T1 := hide' t1
              cases hV : goodV (trimT (s.data.toList.drop (k + 1))) with
              | false =>
                rw [hV] at t3 LO
                have T3 := hide' t3
                have R : Hid (lineV s.data.toList = .tuple #[.agg #[.string ⟨#[]⟩, .string ⟨#[]⟩], .int .i64 40]) := LO.out
                clear t1 t3 hT hV gf hcf LO zl z3
                go_wp2_with (first
                  | (go_at_call 35; refine (T1.out _).mono ?_; rintro e w' ⟨rfl, hw⟩; rw [hw]; clear hw)
                  | (go_at_call 49; refine (t2.out _).mono ?_; rintro e w' ⟨rfl, hw⟩; rw [hw]; clear hw)
                  | (go_at_call 36; refine (T3.out _).mono ?_; rintro e w' ⟨rfl, hw⟩; rw [hw]; clear hw))
                exact bodyPost_ret (v := .tuple #[.agg #[.string ⟨#[]⟩, .string ⟨#[]⟩], .int .i64 40]) (by simp [results, Tryz.results44, go_sem]) rfl ⟨by rw [R.out], bel⟩
              | true =>
                rw [hV] at t3 LO
                have T3 := hide' t3
                have R : Hid (lineV s.data.toList = .tuple #[.agg #[.string ⟨(s.data.toList.take k).toArray⟩, .string ⟨(trimT (s.data.toList.drop (k + 1))).toArray⟩], .int .i64 0]) := LO.out
                clear t1 t3 hT hV gf hcf LO zl z3
                generalize trimT (s.data.toList.drop (k + 1)) = tv at t2 T3 R
                generalize s.data.toList.drop (k + 1) = dv at hcf1 t2
                generalize s.data.toList.take k = nv at hct T1 R HA
                go_wp2_with (first
                  | (go_at_call 35; refine (T1.out _).mono ?_; rintro e w' ⟨rfl, hw⟩; rw [hw]; clear hw)
                  | (go_at_call 49; refine (t2.out _).mono ?_; rintro e w' ⟨rfl, hw⟩; rw [hw]; clear hw)
                  | (go_at_call 36; refine (T3.out _).mono ?_; rintro e w' ⟨rfl, hw⟩; rw [hw]; clear hw))
                exact bodyPost_ret (v := .tuple #[.agg #[.string ⟨nv.toArray⟩, .string ⟨tv.toArray⟩], .int .i64 0]) (by simp [results, Tryz.results44, go_sem]) rfl ⟨by rw [R.out], (Below.refl _ _).alloc (Nat.le_refl _) _⟩
          · have ke : k = s.size := by omega
            rw [if_pos ke] at LO
            have R : Hid (lineV s.data.toList = .tuple #[.agg #[.string ⟨#[]⟩, .string ⟨#[]⟩], .int .i64 40]) := LO.out
            have q2 : ((k : Int) == (s.size : Int)) = true := by rw [ke]; simp
            clear LO ke hcf
            go_wp2_with fail
            exact bodyPost_ret (v := .tuple #[.agg #[.string ⟨#[]⟩, .string ⟨#[]⟩], .int .i64 40]) (by simp [results, Tryz.results44, go_sem]) rfl ⟨by rw [R.out], bel⟩
end Go.Proofs.YtobkmepamgdccaaGreatDoor
