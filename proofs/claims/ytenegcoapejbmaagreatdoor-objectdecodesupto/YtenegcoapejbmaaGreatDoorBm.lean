/- The document's blank, visible, version, end and split. The contracts of the document's one and Parse. The document's version. The document's end and split. The contract of the document's Parse. A response's first line by its places; the document's text and Response. -/
import Derived.Test.YtenegcoapejbmaaGreatDoorBd
import Derived.Test.YtenegcoapejbmaaGreatDoorBb
import Derived.Deep.QuietTactic
import Derived.BigQuiet
import Derived.Test.YtenegcoapejbmaaGreatDoorHdR
namespace Go.Proofs.YtenegcoapejbmaaGreatDoor
open Go.RowKit
theorem bl_take (s : ByteArray) (f k : Nat) (hf : f ≤ k) (h : k < s.size) (ha : ((s.data.toList.drop f).take (k - f)).all noBl = true) (hc : noBl s[k] = true) : ((s.data.toList.drop f).take (k + 1 - f)).all noBl = true := by
  have hk : k - f < (s.data.toList.drop f).length := by rw [List.length_drop]; simp; omega
  rw [show k + 1 - f = (k - f) + 1 by omega, List.take_succ_eq_append_getElem hk, List.all_append, ha, Bool.true_and]
  have e : (s.data.toList.drop f)[k - f] = s[k] := by
    rw [List.getElem_drop]
    show s.data.toList[f + (k - f)]'_ = s.data[k]
    have : f + (k - f) = k := by omega
    simp only [this]
    rfl
  rw [e]; simp [hc]
theorem word_at (l : List UInt8) (k : Nat) (hk : k ≤ l.length) (ha : (l.take k).all noBl = true) (he : k = l.length ∨ ∃ h : k < l.length, noBl l[k] = false) : (word l).length = k := by
  have e : l = l.take k ++ l.drop k := (List.take_append_drop k l).symm
  have h1 : ∀ c r, l.drop k = c :: r → noBl c = false := by
    intro c r hr
    rcases he with he | ⟨h, hb⟩
    · rw [he, List.drop_length] at hr; cases hr
    · rw [List.drop_eq_getElem_cons h] at hr
      simp only [List.cons.injEq] at hr
      rw [← hr.1]; exact hb
  have := (while_app noBl (l.take k) (l.drop k) (fun c hc => List.all_eq_true.1 ha c hc) h1).1
  rw [← e] at this
  unfold word
  rw [this, List.length_take]; omega
theorem goodT_bad (s : ByteArray) (k : Nat) (h : k < s.size) (hc : vis s[k] = false) : goodT s.data.toList = false := by
  unfold goodT; rw [ev_bad vis s k h hc, Bool.and_false]
end Go.Proofs.YtenegcoapejbmaaGreatDoor
namespace Go.Proofs.YtenegcoapejbmaaGreatDoor
open Go.RowKit
theorem cut_to (s : ByteArray) (t : Nat) (ht : t ≤ s.size) (w : World) :
    Sem.run Tryz.prog (Instr.slice 9 (.string s) none (some (.int .i64 t)) none) w = .ok (.string ⟨(s.data.toList.take t).toArray⟩) w := by
  rw [run_slice_string_to_if w 9 s .i64 t Tryz.underlying9, if_pos ⟨by omega, by omega⟩]
  congr 2
  have : (s.extract 0 t).data.toList = s.data.toList.take t := by simp [ByteArray.data_extract, List.extract_eq_take_drop]
  simp only [Int.toNat_natCast]
  rw [← this]
theorem cut_from1 (s : ByteArray) (f : Nat) (hf : f + 1 ≤ s.size) (w : World) :
    Sem.run Tryz.prog (Instr.slice 9 (.string s) (some (.int .i64 ((f : Int) + 1))) none none) w = .ok (.string ⟨(s.data.toList.drop (f + 1)).toArray⟩) w := by
  have key : Sem.run Tryz.prog (Instr.slice 9 (.string s) (some (.int .i64 ((f + 1 : Nat) : Int))) none none) w = .ok (.string ⟨(s.data.toList.drop (f + 1)).toArray⟩) w := by
    rw [run_slice_string_from_if w 9 s .i64 ((f + 1 : Nat) : Int) Tryz.underlying9, if_pos ⟨by omega, by omega⟩]
    congr 2
    have : (s.extract (f + 1) s.size).data.toList = s.data.toList.drop (f + 1) := by
      simp [ByteArray.data_extract, List.extract_eq_take_drop]
      exact List.take_of_length_le (by simp)
    simp only [Int.toNat_natCast]
    rw [← this]
  rwa [Int.natCast_add] at key
theorem col_facts (l : List UInt8) (k : Nat) (hk : k ≤ l.length) (ha : (l.take k).all noCol = true) (h : ∀ h : k < l.length, noCol l[k] = false) :
    nameOf l = l.take k ∧ restOf l = l.drop (k + 1) ∧ l.all noCol = decide (k = l.length) := by
  have hw := while_app noCol (l.take k) (l.drop k) (fun c hc => List.all_eq_true.1 ha c hc) (fun c r e => by
    have hlt : k < l.length := by
      rcases Nat.lt_or_ge k l.length with h | h
      · exact h
      · rw [List.drop_eq_nil_of_le h] at e; cases e
    rw [List.drop_eq_getElem_cons hlt] at e
    injection e with e1 e2
    rw [← e1]; exact h hlt)
  rw [List.take_append_drop] at hw
  refine ⟨hw.1, by unfold restOf; rw [hw.2, List.drop_drop], ?_⟩
  by_cases e : k = l.length
  · rw [decide_eq_true e]
    rw [e, List.take_length] at ha
    exact ha
  · rw [decide_eq_false e]
    have hlt : k < l.length := by omega
    rw [List.all_eq_false]
    exact ⟨l[k], List.getElem_mem hlt, by rw [h hlt]; simp⟩
set_option maxRecDepth 20000 in
set_option maxHeartbeats 2000000 in
theorem oneRef (s : ByteArray) (hs : s.size < 4294967281) (w : World) :
    Calls Tryz.prog 51 #[.string s] w fun e w' => e = .returned (lineV s.data.toList) ∧ Below w.heap.size w w' := by
  have S0 := hide' (two_start w)
  have zl : s.data.toList.length = s.size := by simp
  cases hb : blankFirst s.data.toList with
  | true =>
    have R : Hid (lineV s.data.toList = .tuple #[.agg #[.string ⟨#[]⟩, .string ⟨#[]⟩], .int .i64 41]) := by
      unfold Hid lineV lineOf; rw [if_pos hb]
    rw [R.out]
    have h0 : 0 < s.size := by
      rcases Nat.eq_zero_or_pos s.size with h | h
      · have e : s.data.toList = [] := List.eq_nil_of_length_eq_zero (by rw [zl]; exact h)
        rw [e] at hb; cases hb
      · exact h
    have hne := ne_empty s h0
    have hbb : blankI ((s[0]).toNat : Int) = true := by
      have e : s.data.toList = s[0] :: s.data.toList.drop 1 := by
        have := List.drop_eq_getElem_cons (l := s.data.toList) (i := 0) (by rw [zl]; exact h0)
        rw [List.drop_zero] at this
        exact this
      rw [e] at hb; exact hb
    obtain ⟨⟨x1, c1⟩, ⟨x2, c2⟩, f1, f2, z, bel⟩ := S0.out
    have h0' : (0 : Int) < s.size := by omega
    rcases (of_decide_eq_true hbb : ((s[0]).toNat : Int) = 32 ∨ ((s[0]).toNat : Int) = 9) with hc | hc
    · have b1 : (((s[0]).toNat : Int) == 32) = true := by simp [hc]
      clear hbb hc hb R zl
      go_enter Tryz.func51, Tryz.ntmps51
      go_wp2_with fail
      exact bodyPost_ret (v := .tuple #[.agg #[.string ⟨#[]⟩, .string ⟨#[]⟩], .int .i64 41]) (by simp [results, Tryz.results51, go_sem]) rfl ⟨rfl, bel⟩
    · have b1 : (((s[0]).toNat : Int) == 32) = false := by simp [hc]
      have b2 : (((s[0]).toNat : Int) == 9) = true := by simp [hc]
      clear hbb hc hb R zl
      go_enter Tryz.func51, Tryz.ntmps51
      go_wp2_with fail
      exact bodyPost_ret (v := .tuple #[.agg #[.string ⟨#[]⟩, .string ⟨#[]⟩], .int .i64 41]) (by simp [results, Tryz.results51, go_sem]) rfl ⟨rfl, bel⟩
  | false =>
    obtain ⟨⟨x1, c1⟩, ⟨x2, c2⟩, f1, f2, z, bel⟩ := S0.out
    by_cases h0 : s.size = 0
    · obtain rfl := empty_of s h0
      have R : Hid (lineV (⟨#[]⟩ : ByteArray).data.toList = .tuple #[.agg #[.string ⟨#[]⟩, .string ⟨#[]⟩], .int .i64 40]) := rfl
      clear hb h0 hs zl
      go_enter Tryz.func51, Tryz.ntmps51
      go_wp2_with fail
      go_rounds 1
      exact bodyPost_ret (v := .tuple #[.agg #[.string ⟨#[]⟩, .string ⟨#[]⟩], .int .i64 40]) (by simp [results, Tryz.results51, go_sem]) rfl ⟨by rw [R.out], bel⟩
    · have hp : 0 < s.size := by omega
      have hne := ne_empty s hp
      have hbb : blankI ((s[0]).toNat : Int) = false := by
        have e : s.data.toList = s[0] :: s.data.toList.drop 1 := by
          have := List.drop_eq_getElem_cons (l := s.data.toList) (i := 0) (by rw [zl]; exact hp)
          rw [List.drop_zero] at this
          exact this
        rw [e] at hb; exact hb
      have b1 : (((s[0]).toNat : Int) == 32) = false := by unfold blankI at hbb; simp at hbb; simp; omega
      have b2 : (((s[0]).toNat : Int) == 9) = false := by unfold blankI at hbb; simp at hbb; simp; omega
      have hp' : (0 : Int) < s.size := by omega
      have HB := hide' hb
      clear hbb hb h0
      go_enter Tryz.func51, Tryz.ntmps51
      go_wp2_with fail
      clear b1 b2 hne
      go_loop [4] (fun i => ∃ k : Nat, k ≤ s.size ∧ i = .int .i64 k ∧ Hid ((s.data.toList.take k).all noCol = true)) (fun i => s.size - (intOf i).toNat)
      case atStart => exact ⟨0, Nat.zero_le _, rfl, by unfold Hid; simp⟩
      case round =>
        obtain ⟨k, hk, rfl, HA⟩ := hrel
        by_cases hc : ∃ h : k < s.size, noCol s[k] = true
        · obtain ⟨hlt, hc⟩ := hc
          have A2 : Hid ((s.data.toList.take (k + 1)).all noCol = true) := by
            unfold Hid; rw [take_snoc s k hlt, List.all_append, HA.out]; simp [hc]
          have q1 : (((s[k]).toNat : Int) != 58) = true := by
            unfold noCol at hc
            have hc := of_decide_eq_true hc
            simp
            intro e
            apply hc
            apply UInt8.toNat_inj.1
            have e2 : s[k].toNat = 58 := by omega
            exact e2
          clear hc
          go_wp2_with fail
          go_round
          case rel => exact ⟨k + 1, by omega, by go_num, A2⟩
          case measure => simp [intOf]; omega
        · have hcf : ∀ h : k < s.size, noCol s[k] = false := fun h => by
            cases e : noCol s[k] with
            | false => rfl
            | true => exact absurd ⟨h, e⟩ hc
          obtain ⟨n1, n2, n3⟩ := col_facts s.data.toList k (by rw [zl]; exact hk) HA.out (fun h => hcf (by rw [← zl]; exact h))
          have LO : Hid (lineV s.data.toList = if k = s.size then .tuple #[.agg #[.string ⟨#[]⟩, .string ⟨#[]⟩], .int .i64 40] else if goodF (s.data.toList.take k, trimT (s.data.toList.drop (k + 1))) = true then .tuple #[.agg #[.string ⟨(s.data.toList.take k).toArray⟩, .string ⟨(trimT (s.data.toList.drop (k + 1))).toArray⟩], .int .i64 0] else .tuple #[.agg #[.string ⟨#[]⟩, .string ⟨#[]⟩], .int .i64 40]) := by
            unfold Hid lineV lineOf
            rw [if_neg (by rw [HB.out]; simp), n3, n1, n2, zl]
            by_cases e : k = s.size
            · rw [decide_eq_true e, if_pos rfl, if_pos e]
            · rw [decide_eq_false e, if_neg (by simp), if_neg e]
              split <;> rfl
          clear n1 n2 n3 hc HB
          by_cases hlt : k < s.size
          · have q1 : (((s[k]).toNat : Int) != 58) = false := by
              have e := hcf hlt
              unfold noCol at e
              have e := of_decide_eq_false e
              simp at e
              rw [e]; rfl
            have q2 : ((k : Int) == (s.size : Int)) = false := by simp; omega
            have hct := cut_to s k hk
            have hcf1 := cut_from1 s k hlt
            rw [if_neg (by omega)] at LO
            have t1 := fun W => tokenRef ⟨(s.data.toList.take k).toArray⟩ W (by rw [size_l, List.length_take]; omega)
            have t2 := hide' (fun W => trimRef ⟨(s.data.toList.drop (k + 1)).toArray⟩ W (by rw [size_l, List.length_drop]; omega))
            have z3 := trimT_len (s.data.toList.drop (k + 1))
            rw [List.length_drop] at z3
            have t3 := fun W => valueRef ⟨(trimT (s.data.toList.drop (k + 1))).toArray⟩ W (by rw [size_l]; omega)
            have gf : goodF (s.data.toList.take k, trimT (s.data.toList.drop (k + 1))) = (isTok (s.data.toList.take k) && goodV (trimT (s.data.toList.drop (k + 1)))) := rfl
            rw [gf] at LO
            simp only at t1 t2 t3
            cases hT : isTok (s.data.toList.take k) with
            | false =>
              rw [hT] at t1 LO
              have T1 := hide' t1
              have R : Hid (lineV s.data.toList = .tuple #[.agg #[.string ⟨#[]⟩, .string ⟨#[]⟩], .int .i64 40]) := LO.out
              clear t1 t2 t3 hT gf hcf LO zl z3
              go_wp2_with (go_at_call 66; refine (T1.out _).mono ?_; rintro e w' ⟨rfl, hw⟩; rw [hw]; clear hw)
              exact bodyPost_ret (v := .tuple #[.agg #[.string ⟨#[]⟩, .string ⟨#[]⟩], .int .i64 40]) (by simp [results, Tryz.results51, go_sem]) rfl ⟨by rw [R.out], bel⟩
            | true =>
              rw [hT] at t1 LO
              have T1 := hide' t1
              cases hV : goodV (trimT (s.data.toList.drop (k + 1))) with
              | false =>
                rw [hV] at t3 LO
                have T3 := hide' t3
                have R : Hid (lineV s.data.toList = .tuple #[.agg #[.string ⟨#[]⟩, .string ⟨#[]⟩], .int .i64 40]) := LO.out
                clear t1 t3 hT hV gf hcf LO zl z3
                go_wp2_with (first
                  | (go_at_call 66; refine (T1.out _).mono ?_; rintro e w' ⟨rfl, hw⟩; rw [hw]; clear hw)
                  | (go_at_call 67; refine (t2.out _).mono ?_; rintro e w' ⟨rfl, hw⟩; rw [hw]; clear hw)
                  | (go_at_call 68; refine (T3.out _).mono ?_; rintro e w' ⟨rfl, hw⟩; rw [hw]; clear hw))
                exact bodyPost_ret (v := .tuple #[.agg #[.string ⟨#[]⟩, .string ⟨#[]⟩], .int .i64 40]) (by simp [results, Tryz.results51, go_sem]) rfl ⟨by rw [R.out], bel⟩
              | true =>
                rw [hV] at t3 LO
                have T3 := hide' t3
                have R : Hid (lineV s.data.toList = .tuple #[.agg #[.string ⟨(s.data.toList.take k).toArray⟩, .string ⟨(trimT (s.data.toList.drop (k + 1))).toArray⟩], .int .i64 0]) := LO.out
                clear t1 t3 hT hV gf hcf LO zl z3
                generalize trimT (s.data.toList.drop (k + 1)) = tv at t2 T3 R
                generalize s.data.toList.drop (k + 1) = dv at hcf1 t2
                generalize s.data.toList.take k = nv at hct T1 R HA
                go_wp2_with (first
                  | (go_at_call 66; refine (T1.out _).mono ?_; rintro e w' ⟨rfl, hw⟩; rw [hw]; clear hw)
                  | (go_at_call 67; refine (t2.out _).mono ?_; rintro e w' ⟨rfl, hw⟩; rw [hw]; clear hw)
                  | (go_at_call 68; refine (T3.out _).mono ?_; rintro e w' ⟨rfl, hw⟩; rw [hw]; clear hw))
                exact bodyPost_ret (v := .tuple #[.agg #[.string ⟨nv.toArray⟩, .string ⟨tv.toArray⟩], .int .i64 0]) (by simp [results, Tryz.results51, go_sem]) rfl ⟨by rw [R.out], (Below.refl _ _).alloc (Nat.le_refl _) _⟩
          · have ke : k = s.size := by omega
            rw [if_pos ke] at LO
            have R : Hid (lineV s.data.toList = .tuple #[.agg #[.string ⟨#[]⟩, .string ⟨#[]⟩], .int .i64 40]) := LO.out
            have q2 : ((k : Int) == (s.size : Int)) = true := by rw [ke]; simp
            clear LO ke hcf
            go_wp2_with fail
            exact bodyPost_ret (v := .tuple #[.agg #[.string ⟨#[]⟩, .string ⟨#[]⟩], .int .i64 40]) (by simp [results, Tryz.results51, go_sem]) rfl ⟨by rw [R.out], bel⟩
end Go.Proofs.YtenegcoapejbmaaGreatDoor
namespace Go.Proofs.YtenegcoapejbmaaGreatDoor
open Go.RowKit
def verM (l : List UInt8) : Int × Int := if isVer l = true then minOf l else (0, 50)
theorem ext5 (s : ByteArray) : s.extract 0 5 = ⟨(s.data.toList.take 5).toArray⟩ := by
  have : (s.extract 0 5).data.toList = s.data.toList.take 5 := by simp [ByteArray.data_extract, List.extract_eq_take_drop]
  rw [← this]
theorem ver_eight (s : ByteArray) (h : s.size = 8) (z5 : 5 < s.size) (z6 : 6 < s.size) (z7 : 7 < s.size) : isVer s.data.toList = (decide (s.data.toList.take 5 = P5) && (digI ((s[5]'z5).toNat : Int) && (decide (((s[6]'z6).toNat : Int) = 46) && digI ((s[7]'z7).toNat : Int)))) := by
  have hl : s.data.toList.length = 8 := by simpa using h
  have g : ∀ k (hk : k < s.size), s.data.toList.getD k 0 = s[k]'hk := by
    intro k hk
    rw [List.getD_eq_getElem?_getD, List.getElem?_eq_getElem (by simpa using hk)]
    rfl
  unfold isVer dig
  rw [g 5 z5, g 6 z6, g 7 z7, decide_eq_true hl]
  have hb : decide (s[6]'z6 = (46 : UInt8)) = decide (((s[6]'z6).toNat : Int) = 46) := by
    by_cases h : s[6]'z6 = (46 : UInt8)
    · rw [h]; rfl
    · rw [decide_eq_false h, decide_eq_false]
      intro h2
      exact h (UInt8.toNat_inj.1 (by show (s[6]'z6).toNat = 46; omega))
  have hp : P5.isPrefixOf s.data.toList = decide (s.data.toList.take 5 = P5) := by
    rw [Bool.eq_iff_iff, List.isPrefixOf_iff_prefix, decide_eq_true_iff]
    constructor
    · rintro ⟨t, ht⟩; rw [← ht]; rfl
    · intro h; exact ⟨s.data.toList.drop 5, by rw [← h, List.take_append_drop]⟩
  rw [hb, hp]; rfl
set_option maxRecDepth 20000 in
set_option maxHeartbeats 2000000 in
theorem versionRef (s : ByteArray) (hs : s.size ≤ 140737488351232) (w : World) :
    Calls Tryz.prog 31 #[.string s] w fun e w' => e = .returned (.tuple #[.int .i64 (verM s.data.toList).1, .int .i64 (verM s.data.toList).2]) ∧ w' = w := by
  by_cases h0 : s.data.toList = V10
  · obtain rfl := ba_mk h0
    have R : Hid (verM (⟨V10.toArray⟩ : ByteArray).data.toList = (0, 0)) := by unfold Hid; decide
    rw [R.out]
    unfold V10
    have x5 : (⟨#[72, 84, 84, 80, 47, 49, 46, 48]⟩ : ByteArray).extract 0 5 = ⟨#[72, 84, 84, 80, 47]⟩ := ext5 _
    clear h0 R hs
    go_enter Tryz.func31, Tryz.ntmps31
    go_wp2
    go_ret2
    exact ⟨rfl, rfl⟩
  by_cases h1 : s.data.toList = V11
  · obtain rfl := ba_mk h1
    have R : Hid (verM (⟨V11.toArray⟩ : ByteArray).data.toList = (1, 0)) := by unfold Hid; decide
    rw [R.out]
    unfold V11
    have x5 : (⟨#[72, 84, 84, 80, 47, 49, 46, 49]⟩ : ByteArray).extract 0 5 = ⟨#[72, 84, 84, 80, 47]⟩ := ext5 _
    clear h0 h1 R hs
    go_enter Tryz.func31, Tryz.ntmps31
    go_wp2
    go_ret2
    exact ⟨rfl, rfl⟩
  have n0 := ba_ne s V10 h0
  unfold V10 at n0
  obtain ⟨n1, n2⟩ := n0
  have n3 := ba_ne s V11 h1
  unfold V11 at n3
  obtain ⟨n3, n4⟩ := n3
  have M : minOf s.data.toList = (0, 52) := by unfold minOf; rw [if_neg h0, if_neg h1]
  have bad : isVer s.data.toList = false → Hid (verM s.data.toList = (0, 50)) := by intro h; unfold Hid verM; rw [h]; rfl
  by_cases h8 : s.size = 8
  · have z5 : 5 < s.size := by omega
    have z6 : 6 < s.size := by omega
    have z7 : 7 < s.size := by omega
    have V := ver_eight s h8 z5 z6 z7
    have t8 : ((s.size : Int) != 8) = false := by rw [h8]; decide
    have sl : ∀ W, Sem.run Tryz.prog (Instr.slice 9 (.string s) none (some (.int .i64 5)) none) W = .ok (.string ⟨(s.data.toList.take 5).toArray⟩) W := fun W => cut_to s 5 (by omega) W
    have b5 := byte_lt s[5]
    have b6 := byte_lt s[6]
    have b7 := byte_lt s[7]
    have xx := ext5 s
    by_cases hp : s.data.toList.take 5 = P5
    · rw [decide_eq_true hp, Bool.true_and] at V
      rw [hp] at sl xx
      unfold P5 at sl xx
      clear h8 hp h0 h1
      by_cases d5 : digI (s[5].toNat : Int) = true
      · have e5 : 48 ≤ (s[5].toNat : Int) ∧ (s[5].toNat : Int) ≤ 57 := by unfold digI at d5; simpa using d5
        have u1 : decide ((s[5].toNat : Int) < 48) = false := by simp; omega
        have u2 : decide ((57 : Int) < (s[5].toNat : Int)) = false := by simp; omega
        by_cases d6 : (s[6].toNat : Int) = 46
        · have u3 : ((s[6].toNat : Int) != 46) = false := by rw [d6]; decide
          have u3b : (s[6].toNat != 46) = false := by simp; omega
          by_cases d7 : digI (s[7].toNat : Int) = true
          · have e7 : 48 ≤ (s[7].toNat : Int) ∧ (s[7].toNat : Int) ≤ 57 := by unfold digI at d7; simpa using d7
            have u4 : decide ((s[7].toNat : Int) < 48) = false := by simp; omega
            have u5 : decide ((57 : Int) < (s[7].toNat : Int)) = false := by simp; omega
            have R : Hid (verM s.data.toList = (0, 52)) := by unfold Hid verM; rw [V, d5, d7, decide_eq_true d6]; exact M
            rw [R.out]
            clear d5 d6 d7 e5 e7 R V bad M
            go_enter Tryz.func31, Tryz.ntmps31
            go_wp2_with fail
            go_ret2
            exact ⟨rfl, rfl⟩
          · have d7f : digI (s[7].toNat : Int) = false := by simpa using d7
            by_cases e7 : (s[7].toNat : Int) < 48
            · have u4 : decide ((s[7].toNat : Int) < 48) = true := by simpa using e7
              have R := bad (by rw [V]; rw [d7f]; simp)
              rw [R.out]
              clear d5 d6 d7 d7f e5 e7 R V bad M
              go_enter Tryz.func31, Tryz.ntmps31
              go_wp2_with fail
              go_ret2
              exact ⟨rfl, rfl⟩
            · have e8 : (57 : Int) < (s[7].toNat : Int) := by unfold digI at d7f; simp at d7f; omega
              have u4 : decide ((s[7].toNat : Int) < 48) = false := by simpa using e7
              have u5 : decide ((57 : Int) < (s[7].toNat : Int)) = true := by simpa using e8
              have R := bad (by rw [V]; rw [d7f]; simp)
              rw [R.out]
              clear d5 d6 d7 d7f e5 e7 e8 R V bad M
              go_enter Tryz.func31, Tryz.ntmps31
              go_wp2_with fail
              go_ret2
              exact ⟨rfl, rfl⟩
        · have u3 : ((s[6].toNat : Int) != 46) = true := by simpa using d6
          have u3b : (s[6].toNat != 46) = true := by simp; omega
          have R := bad (by rw [V]; rw [decide_eq_false d6]; simp)
          rw [R.out]
          clear d5 d6 e5 R V bad M
          go_enter Tryz.func31, Tryz.ntmps31
          go_wp2_with fail
          go_ret2
          exact ⟨rfl, rfl⟩
      · have d5f : digI (s[5].toNat : Int) = false := by simpa using d5
        by_cases e5 : (s[5].toNat : Int) < 48
        · have u1 : decide ((s[5].toNat : Int) < 48) = true := by simpa using e5
          have R := bad (by rw [V]; rw [d5f]; simp)
          rw [R.out]
          clear d5 d5f e5 R V bad M
          go_enter Tryz.func31, Tryz.ntmps31
          go_wp2_with fail
          go_ret2
          exact ⟨rfl, rfl⟩
        · have e6 : (57 : Int) < (s[5].toNat : Int) := by unfold digI at d5f; simp at d5f; omega
          have u1 : decide ((s[5].toNat : Int) < 48) = false := by simpa using e5
          have u2 : decide ((57 : Int) < (s[5].toNat : Int)) = true := by simpa using e6
          have R := bad (by rw [V]; rw [d5f]; simp)
          rw [R.out]
          clear d5 d5f e5 e6 R V bad M
          go_enter Tryz.func31, Tryz.ntmps31
          go_wp2_with fail
          go_ret2
          exact ⟨rfl, rfl⟩
    · rw [decide_eq_false hp, Bool.false_and] at V
      have R := bad V
      rw [R.out]
      have m1 := ba_ne ⟨(s.data.toList.take 5).toArray⟩ P5 hp
      have m5 : (s.data.toList.take 5 == P5) = false := by simpa using hp
      unfold P5 at m1 m5
      obtain ⟨m1, m2⟩ := m1
      generalize s.data.toList.take 5 = pp at sl xx m1 m2 m5
      clear h8 hp h0 h1 R V bad M b5 b6 b7
      go_enter Tryz.func31, Tryz.ntmps31
      go_wp2_with fail
      go_ret2
      exact ⟨rfl, rfl⟩
  · have hn : ¬ s.data.toList.length = 8 := by simpa using h8
    have R := bad (by unfold isVer; rw [decide_eq_false hn]; simp)
    rw [R.out]
    have t8 : ((s.size : Int) != 8) = true := by simp; omega
    clear h8 hn h0 h1 R bad M
    go_enter Tryz.func31, Tryz.ntmps31
    go_wp2_with fail
    go_ret2
    exact ⟨rfl, rfl⟩
end Go.Proofs.YtenegcoapejbmaaGreatDoor
namespace Go.Proofs.YtenegcoapejbmaaGreatDoor
open Go.RowKit
theorem end_next (bs : List UInt8) (i : Nat) (h : i < bs.length) (ho : E4.isPrefixOf (bs.drop i) = false) : endOf bs (i + 1) = endOf bs i := by
  have hd : bs.drop i = bs[i] :: bs.drop (i + 1) := List.drop_eq_getElem_cons h
  have hi : Lib.index (bs.drop i) E4 = if Lib.index (bs.drop (i + 1)) E4 == -1 then -1 else Lib.index (bs.drop (i + 1)) E4 + 1 := by
    rw [hd] at ho ⊢
    rw [Lib.index, if_neg (by rw [ho]; simp)]
  rcases index_cases (bs.drop (i + 1)) E4 with h1 | ⟨j, h1⟩
  · rw [h1] at hi
    rw [end_none _ _ h1, end_none _ _ (by rw [hi]; rfl)]
  · rw [h1, if_neg (by simp)] at hi
    rw [end_some _ _ _ h1, end_some bs i (j + 1) (by rw [hi]; rfl), show i + 1 + j + 4 = i + (j + 1) + 4 by omega]
theorem end_here (bs : List UInt8) (i : Nat) (ho : E4.isPrefixOf (bs.drop i) = true) : endOf bs i = if 8192 < i + 4 then (0, 51) else (i + 4, 0) := by
  have := end_some bs i 0 (Lib.index_first (i := 0) (Nat.zero_le _) (by unfold Lib.occAt; rw [List.drop_zero]; exact ho) (fun j hj => absurd hj (Nat.not_lt_zero _)))
  rwa [Nat.add_zero] at this
theorem end_short' (bs : List UInt8) (i : Nat) (h : bs.length ≤ i + 3) : endOf bs i = if 8192 ≤ bs.length then (0, 51) else (0, 0) := by
  apply end_none
  rcases index_cases (bs.drop i) E4 with h1 | ⟨j, h1⟩
  · exact h1
  · have := occ_len _ _ _ (by decide) (index_is _ _ _ h1).2.1
    rw [List.length_drop, show E4.length = 4 from rfl] at this
    omega
theorem four_pre (bs : List UInt8) (i : Nat) (h0 : i < bs.length) (h1 : i + 1 < bs.length) (h2 : i + 2 < bs.length) (h3 : i + 3 < bs.length) : E4.isPrefixOf (bs.drop i) = (((bs[i].toNat : Int) == 13) && (((bs[i + 1].toNat : Int) == 10) && (((bs[i + 2].toNat : Int) == 13) && ((bs[i + 3].toNat : Int) == 10)))) := by
  rw [List.drop_eq_getElem_cons h0, List.drop_eq_getElem_cons h1, List.drop_eq_getElem_cons h2, List.drop_eq_getElem_cons h3]
  have e : ∀ (c d : UInt8), (c == d) = ((d.toNat : Int) == (c.toNat : Int)) := by
    intro c d
    rw [Bool.eq_iff_iff, beq_iff_eq, beq_iff_eq]
    constructor
    · rintro rfl; rfl
    · intro h; exact UInt8.toNat_inj.1 (by omega)
  unfold E4
  simp only [List.isPrefixOf, Bool.and_true]
  rw [e, e, e, e]
  rfl
set_option maxRecDepth 20000 in
set_option maxHeartbeats 2000000 in
theorem endRef (v : Value) (bs : List UInt8) (p : Nat) (w : World) (hv : HoldsB w v bs) (hp : p ≤ bs.length) (hs : bs.length < 4294967281) :
    Calls Tryz.prog 28 #[v, .int .i64 (p : Int)] w fun e w' => e = .returned (.tuple #[.int .i64 (((endOf bs p).1 : Nat) : Int), .int .i64 (endOf bs p).2]) ∧ w' = w := by
  obtain ⟨ao, cap, rfl, h0, hcp, hc⟩ := hv
  have C := hide' hc
  clear hc h0
  obtain ⟨n, en⟩ : ∃ n, n = bs.length := ⟨_, rfl⟩
  have N : Hid (bs.length = n) := en.symm
  rw [N.out] at hs hcp hp ⊢
  obtain ⟨r1, hr1⟩ : ∃ r1, r1 = (endOf bs p).1 := ⟨_, rfl⟩
  obtain ⟨r2, hr2⟩ : ∃ r2, r2 = (endOf bs p).2 := ⟨_, rfl⟩
  rw [← hr1, ← hr2]
  have HR : Hid (endOf bs p = (r1, r2)) := by unfold Hid; rw [hr1, hr2]
  clear en hr1 hr2
  go_enter Tryz.func28, Tryz.ntmps28
  go_wp2_with fail
  go_loop [6] (fun iv => ∃ i : Nat, i ≤ n ∧ iv = .int .i64 i ∧ Hid (endOf bs i = (r1, r2))) (fun iv => n - (intOf iv).toNat)
  case atStart => exact ⟨p, hp, rfl, HR⟩
  case round =>
    obtain ⟨i, hi, rfl, HE⟩ := hrel
    by_cases hlt : i + 3 < n
    · obtain ⟨b, off, hao, hblt, hcell⟩ := C.out (fun e => by have := N.out; rw [e] at this; simp at this; omega)
      subst hao
      have G0 : Hid (i < bs.length) := by unfold Hid; rw [N.out]; omega
      have G1 : Hid (i + 1 < bs.length) := by unfold Hid; rw [N.out]; omega
      have G2 : Hid (i + 2 < bs.length) := by unfold Hid; rw [N.out]; omega
      have G3 : Hid (i + 3 < bs.length) := by unfold Hid; rw [N.out]; omega
      have ck0 : w.cell? ⟨b, off + i, none⟩ = some (.int .u8 ((bs[i]'G0.out).toNat : Int)) := hcell i G0.out
      have ck1 : w.cell? ⟨b, off + (i + 1), none⟩ = some (.int .u8 ((bs[i + 1]'G1.out).toNat : Int)) := hcell (i + 1) G1.out
      have ck2 : w.cell? ⟨b, off + (i + 2), none⟩ = some (.int .u8 ((bs[i + 2]'G2.out).toNat : Int)) := hcell (i + 2) G2.out
      have ck3 : w.cell? ⟨b, off + (i + 3), none⟩ = some (.int .u8 ((bs[i + 3]'G3.out).toNat : Int)) := hcell (i + 3) G3.out
      have b0 := byte_lt (bs[i]'G0.out)
      have b1 := byte_lt (bs[i + 1]'G1.out)
      have b2 := byte_lt (bs[i + 2]'G2.out)
      have b3 := byte_lt (bs[i + 3]'G3.out)
      have FP := four_pre bs i G0.out G1.out G2.out G3.out
      have tl : decide ((i : Int) + 3 < (n : Int)) = true := decide_eq_true (by omega)
      have NX := fun ho => hide' ((end_next bs i G0.out ho).trans HE.out)
      have HH := fun ho => (end_here bs i ho).symm.trans HE.out
      generalize (bs[i]'G0.out).toNat = c0 at ck0 b0 FP
      generalize (bs[i + 1]'G1.out).toNat = c1 at ck1 b1 FP
      generalize (bs[i + 2]'G2.out).toNat = c2 at ck2 b2 FP
      generalize (bs[i + 3]'G3.out).toNat = c3 at ck3 b3 FP
      clear hcell
      cases q0 : ((c0 : Int) == 13) with
      | false =>
        have NE := NX (by rw [FP, q0]; simp)
        clear NX HH FP
        go_wp2_with fail
        go_round
        case rel => exact ⟨i + 1, by omega, by go_num, NE⟩
        case measure => simp [intOf]; omega
      | true =>
        cases q1 : ((c1 : Int) == 10) with
        | false =>
          have NE := NX (by rw [FP, q1]; simp)
          clear NX HH FP
          go_wp2_with fail
          go_round
          case rel => exact ⟨i + 1, by omega, by go_num, NE⟩
          case measure => simp [intOf]; omega
        | true =>
          cases q2 : ((c2 : Int) == 13) with
          | false =>
            have NE := NX (by rw [FP, q2]; simp)
            clear NX HH FP
            go_wp2_with fail
            go_round
            case rel => exact ⟨i + 1, by omega, by go_num, NE⟩
            case measure => simp [intOf]; omega
          | true =>
            cases q3 : ((c3 : Int) == 10) with
            | false =>
              have NE := NX (by rw [FP, q3]; simp)
              clear NX HH FP
              go_wp2_with fail
              go_round
              case rel => exact ⟨i + 1, by omega, by go_num, NE⟩
              case measure => simp [intOf]; omega
            | true =>
              have EH := HH (by rw [FP, q0, q1, q2, q3]; rfl)
              clear NX HH FP
              by_cases h8 : 8192 < i + 4
              · rw [if_pos h8] at EH
                have e1 : Hid (r1 = 0) := (congrArg Prod.fst EH).symm
                have e2 : Hid (r2 = 51) := (congrArg Prod.snd EH).symm
                have t8 : decide ((8192 : Int) < (i : Int) + 4) = true := decide_eq_true (by omega)
                clear EH
                go_wp2_with fail
                go_ret2
                rw [e1.out, e2.out]
                exact ⟨rfl, rfl⟩
              · rw [if_neg h8] at EH
                have e1 : Hid (r1 = i + 4) := (congrArg Prod.fst EH).symm
                have e2 : Hid (r2 = 0) := (congrArg Prod.snd EH).symm
                have t8 : decide ((8192 : Int) < (i : Int) + 4) = false := decide_eq_false (by omega)
                have H8 := hide' h8
                clear EH h8
                go_wp2_with fail
                go_ret2
                rw [e1.out, e2.out]
                exact ⟨rfl, rfl⟩
    · have EH := (end_short' bs i (by rw [N.out]; omega)).symm.trans HE.out
      rw [N.out] at EH
      have tl : decide ((i : Int) + 3 < (n : Int)) = false := decide_eq_false (by omega)
      have HL := hide' hlt
      clear hlt
      by_cases h8 : 8192 ≤ n
      · rw [if_pos h8] at EH
        have e1 : Hid (r1 = 0) := (congrArg Prod.fst EH).symm
        have e2 : Hid (r2 = 51) := (congrArg Prod.snd EH).symm
        have t8 : decide ((8192 : Int) ≤ (n : Int)) = true := decide_eq_true (by omega)
        clear EH
        go_wp2_with fail
        go_ret2
        rw [e1.out, e2.out]
        exact ⟨rfl, rfl⟩
      · rw [if_neg h8] at EH
        have e1 : Hid (r1 = 0) := (congrArg Prod.fst EH).symm
        have e2 : Hid (r2 = 0) := (congrArg Prod.snd EH).symm
        have t8 : decide ((8192 : Int) ≤ (n : Int)) = false := decide_eq_false (by omega)
        have H8 := hide' h8
        clear EH h8
        go_wp2_with fail
        go_ret2
        rw [e1.out, e2.out]
        exact ⟨rfl, rfl⟩
theorem two_pre (H : List UInt8) (k : Nat) (h0 : k < H.length) (h1 : k + 1 < H.length) : Lib.occAt H E2 k = (((H[k].toNat : Int) == 13) && ((H[k + 1].toNat : Int) == 10)) := by
  unfold Lib.occAt
  rw [List.drop_eq_getElem_cons h0, List.drop_eq_getElem_cons h1]
  have e : ∀ (c d : UInt8), (c == d) = ((d.toNat : Int) == (c.toNat : Int)) := by
    intro c d
    rw [Bool.eq_iff_iff, beq_iff_eq, beq_iff_eq]
    constructor
    · rintro rfl; rfl
    · intro h; exact UInt8.toNat_inj.1 (by omega)
  unfold E2
  simp only [List.isPrefixOf, Bool.and_true]
  rw [e, e]
  rfl
set_option maxRecDepth 20000 in
set_option maxHeartbeats 2000000 in
theorem splitRef (v : Value) (H : List UInt8) (j : Nat) (w : World) (hv : HoldsB w v H) (hj : Lib.index H E2 = j) (hs : H.length < 4294967281) :
    Calls Tryz.prog 29 #[v] w fun e w' => ∃ bv, e = .returned (.tuple #[.string ⟨(H.take j).toArray⟩, bv]) ∧ HoldsB w' bv (H.drop (j + 2)) ∧ Below w.heap.size w w' := by
  have HV := hide' hv
  obtain ⟨ao, cap, rfl, h0, hcp, hc⟩ := hv
  obtain ⟨i1, i2, i3⟩ := index_is _ _ _ hj
  have hjl := occ_len _ _ _ (by decide) i2
  rw [show E2.length = 2 from rfl] at hjl
  obtain ⟨b, off, rfl, hblt, hcell⟩ := hc (fun e => by rw [e] at hjl; simp at hjl)
  have HP := holdsB_pre HV.out j (by omega)
  have hpl : (H.take j).length = j := by rw [List.length_take]; omega
  have CV := fun m => conv_holdsB (w.drewN m) (some ⟨b, off, none⟩) cap (H.take j) (by rw [hpl]; exact holdsB_mono HP (below_drewN w m))
  rw [hpl] at CV
  have HB := holdsB_suf HV.out (j + 2) (by omega)
  have s2 := fun W => from_run (some ⟨b, off, none⟩) H.length cap (j + 2) (by omega) hcp W
  obtain ⟨vb, hvb⟩ : ∃ vb, vb = Lib.fromV (some ⟨b, off, none⟩) H.length cap (j + 2) := ⟨_, rfl⟩
  rw [← hvb] at HB s2
  have HBH := hide' HB
  have s1 : ∀ W, Sem.run Tryz.prog (Instr.slice 22 (.slice (some ⟨b, off, none⟩) H.length cap) none (some (.int .i64 (j : Int))) none) W = .ok (.slice (some ⟨b, off, none⟩) j cap) W := by
    intro W
    have hel : Tryz.prog.elem 22 = 5 := by kernel_rfl
    have h := run_slice_h (P := Tryz.prog) W 22 (some ⟨b, off, none⟩) H.length cap (by rw [hel]; exact Tryz.underlying22) .i64 j (by omega) (by omega)
    rw [hel, Tryz.sizeOf5] at h
    simp only [Result.andThen, Int.toNat_natCast, sliced] at h
    rw [h]
    by_cases hz : cap = 0
    · omega
    · simp [Addr.add]
  obtain ⟨n, en⟩ : ∃ n, n = H.length := ⟨_, rfl⟩
  have N : Hid (H.length = n) := en.symm
  rw [N.out] at hs hcp hjl s1 s2 ⊢
  have I3 := hide' i3
  have I2 := hide' i2
  have HC := hide' hcell
  generalize H.take j = ll at CV ⊢
  have s3 : ∀ W, Sem.run Tryz.prog (Instr.slice 22 (.slice (some ⟨b, off, none⟩) n cap) (some (.int .i64 ((j : Int) + 2))) none none) W = .ok vb W := fun W => s2 W
  clear HB hvb HP hpl i1 i2 i3 hj h0 hc en HV hcell s2
  go_enter Tryz.func29, Tryz.ntmps29
  go_wp2_with fail
  go_loop [4] (fun iv => ∃ k : Nat, k ≤ j ∧ iv = .int .i64 k) (fun iv => j - (intOf iv).toNat)
  case atStart => exact ⟨0, by omega, rfl⟩
  case round =>
    obtain ⟨k, hk, rfl⟩ := hrel
    have G0 : Hid (k < H.length) := by unfold Hid; rw [N.out]; omega
    have G1 : Hid (k + 1 < H.length) := by unfold Hid; rw [N.out]; omega
    have ck0 : w.cell? ⟨b, off + k, none⟩ = some (.int .u8 ((H[k]'G0.out).toNat : Int)) := HC.out k G0.out
    have ck1 : w.cell? ⟨b, off + (k + 1), none⟩ = some (.int .u8 ((H[k + 1]'G1.out).toNat : Int)) := HC.out (k + 1) G1.out
    have b0 := byte_lt (H[k]'G0.out)
    have b1 := byte_lt (H[k + 1]'G1.out)
    have TP := two_pre H k G0.out G1.out
    have kn0 : k < n := by omega
    have kn1 : k + 1 < n := by omega
    generalize (H[k]'G0.out).toNat = c0 at ck0 b0 TP
    generalize (H[k + 1]'G1.out).toNat = c1 at ck1 b1 TP
    by_cases hkj : k = j
    · subst hkj
      rw [I2.out] at TP
      have q0 : ((c0 : Int) != 13) = false := by
        have := TP.symm; simp only [Bool.and_eq_true] at this
        rw [bne, this.1]; rfl
      have q1 : ((c1 : Int) != 10) = false := by
        have := TP.symm; simp only [Bool.and_eq_true] at this
        rw [bne, this.2]; rfl
      clear TP
      go_wp2_with fail
      go_quiet (fail)
      go_wp2_with fail
      go_ret2
      exact ⟨vb, rfl, holdsB_mono HBH.out (below_drewN w _), below_drewN w _⟩
    · have hkj' : k < j := by omega
      rw [I3.out k hkj'] at TP
      cases q0 : ((c0 : Int) == 13) with
      | false =>
        have q0' : ((c0 : Int) != 13) = true := by rw [bne, q0]; rfl
        clear TP q0 hkj
        go_wp2_with fail
        go_round
        case rel => exact ⟨k + 1, by omega, by go_num⟩
        case measure => simp [intOf]; omega
      | true =>
        have q0' : ((c0 : Int) != 13) = false := by rw [bne, q0]; rfl
        have q1' : ((c1 : Int) != 10) = true := by
          rw [q0, Bool.true_and] at TP
          rw [bne, ← TP]; rfl
        clear TP q0 hkj
        go_wp2_with fail
        go_round
        case rel => exact ⟨k + 1, by omega, by go_num⟩
        case measure => simp [intOf]; omega
theorem pair_two (bs : List UInt8) (k : Nat) (h0 : k < bs.length) (h1 : k + 1 < bs.length) : pairB (bs.drop k) = (((bs[k].toNat : Int) == 13) && ((bs[k + 1].toNat : Int) == 10)) := two_pre bs k h0 h1
theorem pair_end (bs : List UInt8) (k : Nat) (h : bs.length ≤ k + 1) : pairB (bs.drop k) = false := by
  cases e : pairB (bs.drop k) with
  | false => rfl
  | true =>
    obtain ⟨t, ht⟩ := (pair_iff _).1 e
    have := congrArg List.length ht
    rw [List.length_drop] at this
    simp at this
    omega
end Go.Proofs.YtenegcoapejbmaaGreatDoor
namespace Go.Proofs.YtenegcoapejbmaaGreatDoor
open Go.RowKit
theorem step_pre (l t : List UInt8) (ha : l.any isEnd = false) : stepOf (l ++ t) = (stepOf t).map (fun p => (l ++ p.1, p.2)) := by
  induction l with
  | nil =>
    rw [List.nil_append]
    cases stepOf t with
    | none => rfl
    | some p => rfl
  | cons b l ih =>
    rw [List.any_cons, Bool.or_eq_false_iff] at ha
    obtain ⟨hb, hl⟩ := ha
    unfold isEnd at hb
    have hb := of_decide_eq_false hb
    have h13 : ¬ b = 13 := fun e => hb (.inl e)
    have h10 : ¬ b = 10 := fun e => hb (.inr e)
    rw [List.cons_append, stepOf.eq_def]
    simp only
    rw [if_neg h13, if_neg h10, ih hl]
    cases stepOf t with
    | none => rfl
    | some p => rfl
theorem step_13 (t : List UInt8) : stepOf (13 :: 10 :: t) = some ([], t) := by rw [stepOf.eq_def]; simp
theorem step_no (t : List UInt8) (h : t = [] ∨ ∃ c r, t = c :: r ∧ isEnd c = true ∧ ∀ r', ¬ t = 13 :: 10 :: r') : stepOf t = none := by
  rcases h with rfl | ⟨c, r, rfl, hc, hn⟩
  · rfl
  · rw [stepOf.eq_def]
    simp only
    unfold isEnd at hc
    by_cases h13 : c = 13
    · subst h13
      rw [if_pos rfl]
      cases r with
      | nil => rfl
      | cons d r =>
        simp only
        rw [if_neg (fun e => hn r (by rw [e]))]
    · have h10 : c = 10 := (of_decide_eq_true hc).resolve_left h13
      rw [if_neg h13, if_pos h10]
/-- the rest of a text from place k on, with a line up to place e -/
theorem rest_at (bs : List UInt8) (k e : Nat) (hk : k ≤ e) : bs.drop k = (bs.drop k).take (e - k) ++ bs.drop e := by
  conv => lhs; rw [← List.take_append_drop (e - k) (bs.drop k)]
  rw [List.drop_drop, show k + (e - k) = e by omega]
theorem cut_at (b off n cap k e : Nat) (hk : k ≤ e) (he : e ≤ n) (hkn : k < n) (hc : n ≤ cap) (w : World) : Sem.run Tryz.prog (Instr.slice 22 (.slice (some ⟨b, off, none⟩) n cap) (some (.int .i64 k)) (some (.int .i64 e)) none) w = .ok (.slice (some ⟨b, off + k, none⟩) (e - k) (cap - k)) w := by
  have hel : Tryz.prog.elem 22 = 5 := by kernel_rfl
  have h := run_slice_lh (P := Tryz.prog) w 22 (some ⟨b, off, none⟩) n cap (by rw [hel]; exact Tryz.underlying22) .i64 .i64 k e (by omega) (by omega) (by omega)
  rw [hel, Tryz.sizeOf5] at h
  simp only [Result.andThen, Int.toNat_natCast, sliced] at h
  rw [h]
  have : ¬ cap = k := by omega
  simp [Addr.add, this]
set_option maxRecDepth 20000 in
set_option maxHeartbeats 1000000 in
theorem parseRef (v : Value) (bs : List UInt8) (w : World) (hv : HoldsB w v bs) (hs : bs.length < 4294967281) :
    Calls Tryz.prog 32 #[v] w fun e w' => ∃ lv, e = .returned (.tuple #[lv, .int .i64 (parseOf bs).2]) ∧ OwnF w lv (parseOf bs).1 w' := by
  obtain ⟨ao, cap, rfl, h0, hcp, hc⟩ := hv
  have C := hide' hc
  clear hc h0
  obtain ⟨n, en⟩ : ∃ n, n = bs.length := ⟨_, rfl⟩
  have N : Hid (bs.length = n) := en.symm
  rw [N.out] at hs hcp ⊢
  clear en
  go_enter Tryz.func32, Tryz.ntmps32
  go_wp2_with fail
  go_loopw [4, 5] (fun lv iv wr => ∃ (vo : Value) (k : Nat) (acc : FL), vo = lv ∧ k ≤ n ∧ iv = .int .i64 k ∧ Hid (parseG (bs.drop k) acc = parseOf bs) ∧ acc.length ≤ 100 ∧ OwnF w vo acc wr) (fun _ iv _ => n - (intOf iv).toNat)
  case atStart => exact ⟨_, 0, [], rfl, Nat.zero_le _, rfl, rfl, by simp, ownF_empty w⟩
  case round =>
    obtain ⟨vo, k, acc, rfl, hk, rfl, HP, hacc, ho⟩ := hrel
    obtain ⟨w1, ew⟩ : ∃ w1, w1 = wr := ⟨_, rfl⟩
    subst ew
    by_cases hlt : k < n
    · obtain ⟨b, off, hao, hblt, hcell⟩ := C.out (fun e => by have := N.out; rw [e] at this; simp at this; omega)
      subst hao
      have CC := hide' hcell
      have O := hide' ho
      clear hcell ho
      go_wp2_with fail
      go_loopw [6] (fun ev wr => ∃ e : Nat, k ≤ e ∧ e ≤ n ∧ ev = .int .i64 e ∧ Hid (((bs.drop k).take (e - k)).any isEnd = false) ∧ w1 = wr) (fun ev _ => n - (intOf ev).toNat)
      case atStart => exact ⟨k, Nat.le_refl _, hk, rfl, by unfold Hid; simp, rfl⟩
      case round =>
        obtain ⟨e, hke, hen, rfl, HA, rfl⟩ := hrel
        have hrne : bs.drop k ≠ [] := by
          intro h
          have := congrArg List.length h
          rw [List.length_drop, N.out] at this
          simp at this
          omega
        have hrest := rest_at bs k e hke
        by_cases hen2 : e < n
        · have G : Hid (e < bs.length) := by unfold Hid; rw [N.out]; exact hen2
          have ck : w1.cell? ⟨b, off + e, none⟩ = some (.int .u8 ((bs[e]'G.out).toNat : Int)) := by
            rw [O.out.2.cell (p := ⟨b, off + e, none⟩) hblt]; exact CC.out e G.out
          have hbt := byte_lt (bs[e]'G.out)
          have hdr : bs.drop e = bs[e]'G.out :: bs.drop (e + 1) := List.drop_eq_getElem_cons G.out
          cases hE : isEnd (bs[e]'G.out) with
          | false =>
            have hne := of_decide_eq_false (show decide (bs[e]'G.out = 13 ∨ bs[e]'G.out = 10) = false from hE)
            have q1 : (((bs[e]'G.out).toNat : Int) != 13) = true := by
              simp
              intro x
              exact hne (.inl (UInt8.toNat_inj.1 (by show (bs[e]'G.out).toNat = 13; omega)))
            have q2 : (((bs[e]'G.out).toNat : Int) != 10) = true := by
              simp
              intro x
              exact hne (.inr (UInt8.toNat_inj.1 (by show (bs[e]'G.out).toNat = 10; omega)))
            have A2 : Hid (((bs.drop k).take (e + 1 - k)).any isEnd = false) := by
              unfold Hid
              have hx : e - k < (bs.drop k).length := by rw [List.length_drop, N.out]; omega
              rw [show e + 1 - k = (e - k) + 1 by omega, List.take_succ_eq_append_getElem hx, List.any_append, HA.out]
              have : (bs.drop k)[e - k]'hx = bs[e]'G.out := by
                rw [List.getElem_drop]
                congr 1
                omega
              rw [this]
              simp [hE]
            clear hne hE hdr hrest hrne
            generalize (bs[e]'G.out).toNat = cn at ck hbt q1 q2
            go_wp2_with fail
            go_roundw
            case rel => exact ⟨e + 1, by omega, by omega, by go_num, A2, (by first | exact rfl | trivial)⟩
            case measure => simp [intOf]; omega
          | true =>
            have hyes := of_decide_eq_true (show decide (bs[e]'G.out = 13 ∨ bs[e]'G.out = 10) = true from hE)
            by_cases h13 : bs[e]'G.out = 13
            · have q1 : (((bs[e]'G.out).toNat : Int) != 13) = false := by rw [h13]; rfl
              by_cases hn1 : e + 1 < n
              · have G1 : Hid (e + 1 < bs.length) := by unfold Hid; rw [N.out]; exact hn1
                have ck1 : w1.cell? ⟨b, off + (e + 1), none⟩ = some (.int .u8 ((bs[e + 1]'G1.out).toNat : Int)) := by
                  rw [O.out.2.cell (p := ⟨b, off + (e + 1), none⟩) hblt]; exact CC.out (e + 1) G1.out
                have hbt1 := byte_lt (bs[e + 1]'G1.out)
                have hdr1 : bs.drop (e + 1) = bs[e + 1]'G1.out :: bs.drop (e + 2) := List.drop_eq_getElem_cons G1.out
                have hge : decide ((n : Int) ≤ (e : Int) + 1) = false := decide_eq_false (by omega)
                by_cases h10 : bs[e + 1]'G1.out = 10
                · have q3 : (((bs[e + 1]'G1.out).toNat : Int) != 10) = false := by rw [h10]; rfl
                  have hst : stepOf (bs.drop k) = some ((bs.drop k).take (e - k), bs.drop (e + 2)) := by
                    have e1 := step_pre ((bs.drop k).take (e - k)) (bs.drop e) HA.out
                    rw [← hrest, hdr, hdr1, h13, h10, step_13] at e1
                    rw [e1]
                    simp
                  have hpb := parse_bad _ _ _ acc hst
                  have hpm := parse_many _ _ _ acc hst
                  have hpn := parse_next _ _ _ acc hst
                  have hll : ((bs.drop k).take (e - k)).length = e - k := by rw [List.length_take, List.length_drop, N.out]; omega
                  have LL := line_len ((bs.drop k).take (e - k))
                  have HL : HoldsB w1 (.slice (some ⟨b, off + k, none⟩) ((bs.drop k).take (e - k)).length (cap - k)) ((bs.drop k).take (e - k)) := by
                    refine ⟨_, _, rfl, (fun x => by cases x), by rw [hll]; omega, fun _ => ⟨b, off + k, rfl, Nat.lt_of_lt_of_le hblt O.out.2.size, fun j hj => ?_⟩⟩
                    have := CC.out (k + j) (by rw [N.out]; omega)
                    rw [Nat.add_assoc, O.out.2.cell (p := ⟨b, off + (k + j), none⟩) hblt, this]
                    simp
                  have cv := conv_holdsB w1 _ _ _ HL
                  have hsl := cut_at b off n cap k e hke hen hlt hcp w1
                  have KO := hide' (oneRef ⟨((bs.drop k).take (e - k)).toArray⟩ (by rw [size_l, hll]; omega) w1)
                  unfold lineV at KO
                  simp only at KO
                  rw [hll] at cv
                  obtain ⟨x, hx⟩ : ∃ x, x = (lineOf ((bs.drop k).take (e - k))).1.1 := ⟨_, rfl⟩
                  obtain ⟨y, hy⟩ : ∃ y, y = (lineOf ((bs.drop k).take (e - k))).1.2 := ⟨_, rfl⟩
                  obtain ⟨ee, hee⟩ : ∃ ee, ee = (lineOf ((bs.drop k).take (e - k))).2 := ⟨_, rfl⟩
                  rw [← hx, ← hy, ← hee] at KO
                  have hxy : (lineOf ((bs.drop k).take (e - k))).1 = (x, y) := by rw [hx, hy]
                  rw [← hee] at hpb hpm hpn
                  rw [hxy] at hpn
                  clear h13 h10 hyes hE hdr hdr1 hst hrest hrne hll LL HL hx hy hee hxy
                  generalize (bs[e]'G.out).toNat = cn at ck hbt q1
                  generalize (bs[e + 1]'G1.out).toNat = cn1 at ck1 hbt1 q3
                  generalize ((bs.drop k).take (e - k)).toArray = la at cv KO
                  obtain ⟨aa, ca, b9, o9, hlv, _⟩ := holdsF_parts (holdsF_own O.out)
                  by_cases h0 : ee = 0
                  · by_cases h100 : 100 ≤ acc.length
                    · have HPn := hide' (HP.out.symm.trans (hpm h0 h100))
                      have P2 : Hid ((parseOf bs).2 = 42) := by unfold Hid; rw [HPn.out]
                      have P1 : Hid ((parseOf bs).1 = []) := by unfold Hid; rw [HPn.out]
                      subst h0
                      have e100 : decide ((100 : Int) ≤ (acc.length : Int)) = true := decide_eq_true (by omega)
                      clear hpb hpm hpn HPn
                      rw [hlv] at O ⊢
                      clear hlv
                      go_wp2_with fail
                      refine KO.out.mono ?_
                      rintro e9 w3 ⟨rfl, b3⟩
                      have B3 := hide' (bt' O.out.2 b3)
                      clear b3
                      go_wp2_with fail
                      go_ret2
                      rw [P2.out, P1.out]
                      exact ⟨_, rfl, ownF_nil _ _ (B3.out.alloc B3.out.size _)⟩
                    · have HPn := hide' ((hpn h0 h100).symm.trans HP.out)
                      subst h0
                      have e100 : decide ((100 : Int) ≤ (acc.length : Int)) = false := decide_eq_false (by omega)
                      clear hpb hpm hpn
                      rw [hlv] at O ⊢
                      clear hlv
                      go_wp2_with fail
                      refine KO.out.mono ?_
                      rintro e9 w3 ⟨rfl, b3⟩
                      have O4 := hide' (ownF_mono (ownF_mono O.out b3) (below_alloc' w3 (.cells #[.string ⟨x.toArray⟩, .string ⟨y.toArray⟩] 76)))
                      clear b3
                      go_wp2_with (at_builtin; refine appF rfl (.tmp 70) (.tmp 72) rfl w _ _ rfl O4.out (x, y) rfl rfl rfl (by simp) (by omega) ?_; intro v5 w5 ho5)
                      go_roundw
                      case rel => exact ⟨_, e + 2, acc ++ [(x, y)], rfl, by omega, by go_num, HPn, by simp; omega, ho5⟩
                      case measure => simp [intOf]; omega
                  · have HPn := hide' (HP.out.symm.trans (hpb h0))
                    have P2 : Hid ((parseOf bs).2 = ee) := by unfold Hid; rw [HPn.out]
                    have P1 : Hid ((parseOf bs).1 = []) := by unfold Hid; rw [HPn.out]
                    have ene : (ee != 0) = true := by simpa using h0
                    clear hpb hpm hpn HPn h0 hlv
                    go_wp2_with fail
                    refine KO.out.mono ?_
                    rintro e9 w3 ⟨rfl, b3⟩
                    have B3 := hide' (bt' O.out.2 b3)
                    clear b3
                    go_wp2_with fail
                    go_ret2
                    rw [P2.out, P1.out]
                    exact ⟨_, rfl, ownF_nil _ _ (B3.out.alloc B3.out.size _)⟩
                · have q3 : (((bs[e + 1]'G1.out).toNat : Int) != 10) = true := by
                    simp
                    intro x
                    exact h10 (UInt8.toNat_inj.1 (by show (bs[e + 1]'G1.out).toNat = 10; omega))
                  have hst : stepOf (bs.drop e) = none := step_no _ (.inr ⟨_, _, hdr, hE, fun r' x => by
                    rw [hdr, hdr1] at x
                    injection x with x1 x2
                    injection x2 with x3 x4
                    exact h10 x3⟩)
                  clear h13 h10 hyes hE hdr hdr1
                  generalize (bs[e]'G.out).toNat = cn at ck hbt q1
                  generalize (bs[e + 1]'G1.out).toNat = cn1 at ck1 hbt1 q3
                  have HPn := hide' (HP.out.symm.trans (parse_none _ acc hrne (by rw [hrest, step_pre _ _ HA.out, hst]; rfl)))
                  have P2 : Hid ((parseOf bs).2 = 40) := by unfold Hid; rw [HPn.out]
                  have P1 : Hid ((parseOf bs).1 = []) := by unfold Hid; rw [HPn.out]
                  clear hst hrest hrne HPn
                  go_wp2_with fail
                  go_ret2
                  rw [P2.out, P1.out]
                  exact ⟨_, rfl, ownF_nil _ _ O.out.2⟩
              · have hge : decide ((n : Int) ≤ (e : Int) + 1) = true := decide_eq_true (by omega)
                have hst : stepOf (bs.drop e) = none := step_no _ (.inr ⟨_, _, hdr, hE, fun r' x => by
                  have := congrArg List.length x
                  rw [List.length_drop, N.out] at this
                  simp at this
                  omega⟩)
                clear h13 hyes hE hdr
                generalize (bs[e]'G.out).toNat = cn at ck hbt q1
                have HPn := hide' (HP.out.symm.trans (parse_none _ acc hrne (by rw [hrest, step_pre _ _ HA.out, hst]; rfl)))
                have P2 : Hid ((parseOf bs).2 = 40) := by unfold Hid; rw [HPn.out]
                have P1 : Hid ((parseOf bs).1 = []) := by unfold Hid; rw [HPn.out]
                clear hst hrest hrne HPn
                go_wp2_with fail
                go_ret2
                rw [P2.out, P1.out]
                exact ⟨_, rfl, ownF_nil _ _ O.out.2⟩
            · have h10 : bs[e]'G.out = 10 := hyes.resolve_left h13
              have q1 : (((bs[e]'G.out).toNat : Int) != 13) = true := by rw [h10]; rfl
              have q2 : (((bs[e]'G.out).toNat : Int) != 10) = false := by rw [h10]; rfl
              have hst : stepOf (bs.drop e) = none := step_no _ (.inr ⟨_, _, hdr, hE, fun r' x => by
                rw [hdr] at x
                injection x with x1 x2
                exact h13 x1⟩)
              clear h13 h10 hyes hE hdr
              generalize (bs[e]'G.out).toNat = cn at ck hbt q1 q2
              by_cases hn1 : e + 1 < n
              · have hge : decide ((n : Int) ≤ (e : Int) + 1) = false := decide_eq_false (by omega)
                have HPn := hide' (HP.out.symm.trans (parse_none _ acc hrne (by rw [hrest, step_pre _ _ HA.out, hst]; rfl)))
                have P2 : Hid ((parseOf bs).2 = 40) := by unfold Hid; rw [HPn.out]
                have P1 : Hid ((parseOf bs).1 = []) := by unfold Hid; rw [HPn.out]
                clear hst hrest hrne HPn
                go_wp2_with fail
                go_ret2
                rw [P2.out, P1.out]
                exact ⟨_, rfl, ownF_nil _ _ O.out.2⟩
              · have hge : decide ((n : Int) ≤ (e : Int) + 1) = true := decide_eq_true (by omega)
                have HPn := hide' (HP.out.symm.trans (parse_none _ acc hrne (by rw [hrest, step_pre _ _ HA.out, hst]; rfl)))
                have P2 : Hid ((parseOf bs).2 = 40) := by unfold Hid; rw [HPn.out]
                have P1 : Hid ((parseOf bs).1 = []) := by unfold Hid; rw [HPn.out]
                clear hst hrest hrne HPn
                go_wp2_with fail
                go_ret2
                rw [P2.out, P1.out]
                exact ⟨_, rfl, ownF_nil _ _ O.out.2⟩
        · have hst : stepOf (bs.drop e) = none := by rw [List.drop_eq_nil_of_le (by rw [N.out]; omega)]; rfl
          have hge : decide ((n : Int) ≤ (e : Int) + 1) = true := decide_eq_true (by omega)
          have HPn := hide' (HP.out.symm.trans (parse_none _ acc hrne (by rw [hrest, step_pre _ _ HA.out, hst]; rfl)))
          have P2 : Hid ((parseOf bs).2 = 40) := by unfold Hid; rw [HPn.out]
          have P1 : Hid ((parseOf bs).1 = []) := by unfold Hid; rw [HPn.out]
          clear hst hrest hrne HPn
          go_wp2_with fail
          go_ret2
          rw [P2.out, P1.out]
          exact ⟨_, rfl, ownF_nil _ _ O.out.2⟩
    · have E : Hid (bs.drop k = []) := List.drop_eq_nil_of_le (by rw [N.out]; omega)
      rw [E.out, parse_nil] at HP
      have P2 : Hid ((parseOf bs).2 = 0) := by unfold Hid; rw [← HP.out]
      have P1 : Hid ((parseOf bs).1 = acc) := by unfold Hid; rw [← HP.out]
      go_wp2_with fail
      go_ret2
      rw [P2.out, P1.out]
      exact ⟨_, rfl, ho⟩
end Go.Proofs.YtenegcoapejbmaaGreatDoor
namespace Go.Proofs.YtenegcoapejbmaaGreatDoor
open Go.RowKit
def condR (l : List UInt8) : Bool := isVer (word l) && (decide ((word (past l)).length = 3) && ((word (past l)).all dig && (past (past l)).all txt))
theorem lineR_cond (l : List UInt8) (h : condR l = false) : lineR l = (Rs.zero, 50) := by
  unfold lineR; unfold condR at h; rw [if_pos h]
theorem eight_of (l : List UInt8) (h : l.length = 8) : ∃ a b c d e f g i, l = [a, b, c, d, e, f, g, i] := by
  match l, h with
  | [a, b, c, d, e, f, g, i], _ => exact ⟨a, b, c, d, e, f, g, i, rfl⟩
theorem word_cut (l : List UInt8) : l = word l ∨ l = word l ++ 32 :: past l := by
  have e := while_app2 noBl l
  unfold word past
  cases hd : l.dropWhile noBl with
  | nil => left; rw [hd, List.append_nil] at e; exact e.symm
  | cons c r =>
    right
    have hc : noBl c = false := by
      have := List.head?_dropWhile_not noBl l
      rw [hd] at this
      simpa using this
    rw [hd] at e
    rw [(noBl_iff c).1 hc] at e
    exact e.symm
theorem past_nil (l : List UInt8) (h : l = word l) : past l = [] := by
  have e := while_app2 noBl l
  have hl := congrArg List.length e
  have hw := congrArg List.length h
  unfold word at hw
  rw [List.length_append] at hl
  have : (l.dropWhile noBl).length = 0 := by omega
  unfold past
  rw [List.eq_nil_of_length_eq_zero this]; rfl
/-- a line that is good opens with eight bytes, a blank and three digits -/
theorem cond_form (l : List UInt8) (h : condR l = true) : ∃ a x y z t, l = a ++ 32 :: x :: y :: z :: t ∧ a.length = 8 ∧ dig x = true ∧ dig y = true ∧ dig z = true ∧ (t = [] ∨ ∃ u, t = 32 :: u ∧ u.all txt = true) := by
  unfold condR at h
  simp only [Bool.and_eq_true, decide_eq_true_eq] at h
  obtain ⟨h1, h2, h3, h4⟩ := h
  have h8 := (ver_facts h1).1
  obtain ⟨x, y, z, e3⟩ := three_of' _ h2
  rw [e3] at h3
  simp only [List.all_cons, List.all_nil, Bool.and_true, Bool.and_eq_true] at h3
  rcases word_cut l with hl | hl
  · rw [past_nil l hl] at h2
    exact absurd h2 (by decide)
  · rcases word_cut (past l) with hp | hp
    · refine ⟨word l, x, y, z, [], ?_, h8, h3.1, h3.2.1, h3.2.2, .inl rfl⟩
      rw [e3] at hp
      rw [hp] at hl
      exact hl
    · refine ⟨word l, x, y, z, 32 :: past (past l), ?_, h8, h3.1, h3.2.1, h3.2.2, .inr ⟨_, rfl, h4⟩⟩
      rw [e3] at hp
      rw [hp] at hl
      exact hl
theorem ver_noBl (a : List UInt8) (h : isVer a = true) : ∀ c ∈ a, noBl c = true := by
  have h8 := (ver_facts h).1
  obtain ⟨a0, a1, a2, a3, a4, a5, a6, a7, rfl⟩ := eight_of a h8
  unfold isVer at h
  simp only [Bool.and_eq_true, decide_eq_true_eq] at h
  obtain ⟨hp, _, h5, h6, h7⟩ := h
  have e := pre5 _ hp
  have e' : [a0, a1, a2, a3, a4, a5, a6, a7] = [72, 84, 84, 80, 47, a5, a6, a7] := e
  simp only [List.cons.injEq, and_true] at e'
  obtain ⟨rfl, rfl, rfl, rfl, rfl⟩ := e'
  have h5' : dig a5 = true := h5
  have h6' : a6 = 46 := h6
  have h7' : dig a7 = true := h7
  subst h6'
  have nd : ∀ c : UInt8, dig c = true → noBl c = true := by
    intro c hc
    cases hn : noBl c with
    | true => rfl
    | false => rw [(noBl_iff c).1 hn] at hc; exact absurd hc (by decide)
  intro c hc
  simp only [List.mem_cons, List.not_mem_nil, or_false] at hc
  rcases hc with rfl | rfl | rfl | rfl | rfl | rfl | rfl | rfl
  · decide
  · decide
  · decide
  · decide
  · decide
  · exact nd _ h5'
  · decide
  · exact nd _ h7'
theorem word_app8 (a b : List UInt8) (ha : ∀ c ∈ a, noBl c = true) : word (a ++ 32 :: b) = a ∧ past (a ++ 32 :: b) = b := by
  have := while_app noBl a (32 :: b) ha (fun c r e => by simp only [List.cons.injEq] at e; rw [← e.1]; rfl)
  unfold word past
  rw [this.1, this.2]
  exact ⟨rfl, rfl⟩
/-- what such a line says -/
theorem lineR_form (a : List UInt8) (x y z : UInt8) (t u : List UInt8) (ha : a.length = 8) (hx : dig x = true) (hy : dig y = true) (hz : dig z = true) (ht : (t = [] ∧ u = []) ∨ t = 32 :: u) (hu : u.all txt = true) :
    lineR (a ++ 32 :: x :: y :: z :: t) = if (verM a).2 = 0 then (if goodS (num3 [x, y, z]) = true then (⟨num3 [x, y, z], u, (verM a).1, []⟩, 0) else (Rs.zero, 53)) else (Rs.zero, (verM a).2) := by
  have nd : ∀ c : UInt8, dig c = true → noBl c = true := by
    intro c hc
    cases hn : noBl c with
    | true => rfl
    | false => rw [(noBl_iff c).1 hn] at hc; exact absurd hc (by decide)
  cases hv : isVer a with
  | false =>
    have e : verM a = (0, 50) := by unfold verM; rw [hv]; rfl
    rw [e]
    show _ = (Rs.zero, 50)
    apply lineR_ver
    cases hw : isVer (word (a ++ 32 :: x :: y :: z :: t)) with
    | false => rfl
    | true =>
      have h8 := (ver_facts hw).1
      have h1 : (a ++ 32 :: x :: y :: z :: t).take (word (a ++ 32 :: x :: y :: z :: t)).length = word (a ++ 32 :: x :: y :: z :: t) := while_take noBl _
      rw [h8, List.take_append_of_le_length (by omega), List.take_of_length_le (by omega)] at h1
      rw [← h1, hv] at hw
      cases hw
  | true =>
    obtain ⟨w1, w2⟩ := word_app8 a (x :: y :: z :: t) (ver_noBl a hv)
    have hw3 : word (x :: y :: z :: t) = [x, y, z] ∧ past (x :: y :: z :: t) = u := by
      rcases ht with ⟨rfl, rfl⟩ | rfl
      · have hw : word [x, y, z] = [x, y, z] := by
          unfold word
          simp [nd x hx, nd y hy, nd z hz]
        exact ⟨hw, past_nil _ hw.symm⟩
      · exact word_app8 [x, y, z] u (by
          intro c hc
          simp only [List.mem_cons, List.not_mem_nil, or_false] at hc
          rcases hc with rfl | rfl | rfl
          · exact nd _ hx
          · exact nd _ hy
          · exact nd _ hz)
    have e : verM a = minOf a := by unfold verM; rw [if_pos hv]
    rw [lineR_all _ (by rw [w1]; exact hv) (by rw [w2, hw3.1]; rfl) (by rw [w2, hw3.1]; simp [hx, hy, hz]) (by rw [w2, hw3.2]; exact hu), w1, w2, hw3.1, hw3.2, e]
    rcases min_facts a with ⟨m2, _⟩ | ⟨m2, _⟩
    · rw [if_pos m2, if_pos m2]
    · rw [if_neg (by rw [m2]; decide), if_neg (by rw [m2]; decide), m2]
theorem get_app8 (a : List UInt8) (r : List UInt8) (c : UInt8) (k : Nat) (ha : a.length = 8) (hr : r[k]? = some c) : (a ++ r)[8 + k]? = some c := by
  rw [List.getElem?_append_right (by omega), ha, show 8 + k - 8 = k by omega]; exact hr
theorem ba_get (s : ByteArray) (k : Nat) (h : k < s.size) : s.data.toList[k]? = some s[k] := by
  rw [List.getElem?_eq_getElem (by simpa using h)]; rfl
theorem no_short (s : ByteArray) (h : s.size < 12) : lineR s.data.toList = (Rs.zero, 50) := by
  apply lineR_cond
  cases hc : condR s.data.toList with
  | false => rfl
  | true =>
    obtain ⟨a, x, y, z, t, e, ha, _⟩ := cond_form _ hc
    have := congrArg List.length e
    simp at this
    omega
theorem no_blank (s : ByteArray) (h : 8 < s.size) (hb : s[8] ≠ 32) : lineR s.data.toList = (Rs.zero, 50) := by
  apply lineR_cond
  cases hc : condR s.data.toList with
  | false => rfl
  | true =>
    obtain ⟨a, x, y, z, t, e, ha, _⟩ := cond_form _ hc
    have := ba_get s 8 h
    rw [e, get_app8 a _ 32 0 ha rfl] at this
    exact absurd (Option.some.inj this).symm hb
theorem no_digit (s : ByteArray) (k : Nat) (hk : k < 3) (h : 9 + k < s.size) (hb : dig s[9 + k] = false) : lineR s.data.toList = (Rs.zero, 50) := by
  apply lineR_cond
  cases hc : condR s.data.toList with
  | false => rfl
  | true =>
    obtain ⟨a, x, y, z, t, e, ha, hx, hy, hz, _⟩ := cond_form _ hc
    have := ba_get s (9 + k) h
    rw [e] at this
    rcases (by omega : k = 0 ∨ k = 1 ∨ k = 2) with rfl | rfl | rfl
    · rw [get_app8 a _ x 1 ha rfl] at this; rw [← Option.some.inj this, hx] at hb; cases hb
    · rw [get_app8 a _ y 2 ha rfl] at this; rw [← Option.some.inj this, hy] at hb; cases hb
    · rw [get_app8 a _ z 3 ha rfl] at this; rw [← Option.some.inj this, hz] at hb; cases hb
theorem no_gap (s : ByteArray) (h : 12 < s.size) (hb : s[12] ≠ 32) : lineR s.data.toList = (Rs.zero, 50) := by
  apply lineR_cond
  cases hc : condR s.data.toList with
  | false => rfl
  | true =>
    obtain ⟨a, x, y, z, t, e, ha, hx, hy, hz, ht⟩ := cond_form _ hc
    have hl := congrArg List.length e
    have := ba_get s 12 h
    rcases ht with rfl | ⟨u, rfl, hu⟩
    · simp at hl; omega
    · rw [e, get_app8 a _ 32 4 ha rfl] at this
      exact absurd (Option.some.inj this).symm hb
theorem no_text (s : ByteArray) (h : 12 < s.size) (hb : (s.data.toList.drop 13).all txt = false) : lineR s.data.toList = (Rs.zero, 50) := by
  apply lineR_cond
  cases hc : condR s.data.toList with
  | false => rfl
  | true =>
    obtain ⟨a, x, y, z, t, e, ha, hx, hy, hz, ht⟩ := cond_form _ hc
    have hl := congrArg List.length e
    rcases ht with rfl | ⟨u, rfl, hu⟩
    · simp at hl; omega
    · rw [e, show (13 : Nat) = 8 + 5 from rfl, ← List.drop_drop, List.drop_append_of_le_length (by omega), List.drop_of_length_le (Nat.le_of_eq ha)] at hb
      rw [show ([] ++ 32 :: x :: y :: z :: 32 :: u : List UInt8).drop 5 = u from rfl, hu] at hb
      cases hb
theorem num_three (s : ByteArray) (h9 : 9 < s.size) (h10 : 10 < s.size) (h11 : 11 < s.size) : num3 [s[9], s[10], s[11]] = (s[9].toNat : Int) * 100 + (s[10].toNat : Int) * 10 + (s[11].toNat : Int) - 5328 := rfl
theorem good_line (s : ByteArray) (h : 12 ≤ s.size) (h8 : s[8] = 32) (h9 : dig s[9] = true) (h10 : dig s[10] = true) (h11 : dig s[11] = true) (u : List UInt8) (ht : (s.size = 12 ∧ u = []) ∨ (∃ h12 : 12 < s.size, s[12] = 32 ∧ u = s.data.toList.drop 13)) (hu : u.all txt = true) :
    lineR s.data.toList = if (verM (s.data.toList.take 8)).2 = 0 then (if goodS (num3 [s[9], s[10], s[11]]) = true then (⟨num3 [s[9], s[10], s[11]], u, (verM (s.data.toList.take 8)).1, []⟩, 0) else (Rs.zero, 53)) else (Rs.zero, (verM (s.data.toList.take 8)).2) := by
  have hl : s.data.toList.length = s.size := by simp
  have g : ∀ k (hk : k < s.size), s.data.toList.drop k = s[k] :: s.data.toList.drop (k + 1) := fun k hk => List.drop_eq_getElem_cons (by rw [hl]; exact hk)
  have e : s.data.toList = s.data.toList.take 8 ++ (32 : UInt8) :: s[9] :: s[10] :: s[11] :: s.data.toList.drop 12 := by
    rw [← h8, ← g 11 (by omega), ← g 10 (by omega), ← g 9 (by omega), ← g 8 (by omega), List.take_append_drop]
  have := lineR_form (s.data.toList.take 8) s[9] s[10] s[11] (s.data.toList.drop 12) u (by rw [List.length_take]; omega) h9 h10 h11 (by
    rcases ht with ⟨h1, h2⟩ | ⟨h12, h1, h2⟩
    · left; exact ⟨List.drop_of_length_le (by omega), h2⟩
    · right; rw [g 12 h12, h1, h2]) hu
  rw [← e] at this
  exact this
set_option maxRecDepth 20000 in
set_option maxHeartbeats 1000000 in
theorem textsRef (s : ByteArray) (hs : s.size ≤ 140737488351232) (w : World) :
    Calls Tryz.prog 30 #[.string s] w fun e w' => e = .returned (.bool (s.data.toList.all txt)) ∧ w' = w := by
  obtain ⟨r, hr⟩ : ∃ r, r = s.data.toList.all txt := ⟨_, rfl⟩
  rw [← hr]
  have HR := hide' hr
  clear hr
  go_enter Tryz.func30, Tryz.ntmps30
  go_wp2_with fail
  go_loop [3] (fun i => ∃ k : Nat, k ≤ s.size ∧ i = .int .i64 k ∧ Hid ((s.data.toList.take k).all txt = true)) (fun i => s.size - (intOf i).toNat)
  case atStart => exact ⟨0, by omega, rfl, by unfold Hid; simp⟩
  case round =>
    obtain ⟨k, hk, rfl, ha⟩ := hrel
    by_cases hlt : k < s.size
    · have hb := byte_lt s[k]
      cases ht : txtI (s[k].toNat : Int) with
      | true =>
        have A := hide' (ev_step txt s k hlt ht ha.out)
        go_wp2_with (go_at_call 50; refine (textRef _ (by omega) (by omega) _).mono ?_; rintro e w' ⟨rfl, rfl⟩)
        go_round
        case rel => exact ⟨k + 1, by omega, by go_num, A⟩
        case measure => simp [intOf]; omega
      | false =>
        have F := hide' (ev_bad txt s k hlt ht)
        go_wp2_with (go_at_call 50; refine (textRef _ (by omega) (by omega) _).mono ?_; rintro e w' ⟨rfl, rfl⟩)
        go_ret
        rw [HR.out, F.out]
        exact ⟨rfl, rfl⟩
    · have F := hide' (ev_end txt s k (by omega) ha.out)
      go_wp2_with fail
      go_ret
      rw [HR.out, F.out]
      exact ⟨rfl, rfl⟩
end Go.Proofs.YtenegcoapejbmaaGreatDoor
