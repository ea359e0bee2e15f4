/- The document's blank, visible, version, end and split. The contracts of the document's one and Parse. The document's version. The document's end and split. The contract of the document's Parse. A response's first line by its places; the document's text and Response. -/
import Derived.Test.YtnlehfondhegbaaDoorBd
import Derived.Test.YtnlehfondhegbaaDoorBb
import Derived.Deep.QuietTactic
import Derived.BigQuiet
import Derived.Test.YtnlehfondhegbaaDoorHdR
namespace Go.Proofs.YtnlehfondhegbaaDoor
open Go.RowKit
theorem bl_take (s : ByteArray) (f k : Nat) (hf : f ≤ k) (h : k < s.size) (ha : ((s.data.toList.drop f).take (k - f)).all noBl = true) (hc : noBl s[k] = true) : ((s.data.toList.drop f).take (k + 1 - f)).all noBl = true := by
  have hk : k - f < (s.data.toList.drop f).length := by rw [List.length_drop]; simp; omega
  rw [show k + 1 - f = (k - f) + 1 by omega, List.take_succ_eq_append_getElem hk, List.all_append, ha, Bool.true_and]
  have e : (s.data.toList.drop f)[k - f] = s[k] := by
    rw [List.getElem_drop]
    show s.data.toList[f + (k - f)]'_ = s.data[k]
    have : f + (k - f) = k := by omega
    simp only [this]
    rfl
  rw [e]; simp [hc]
theorem word_at (l : List UInt8) (k : Nat) (hk : k ≤ l.length) (ha : (l.take k).all noBl = true) (he : k = l.length ∨ ∃ h : k < l.length, noBl l[k] = false) : (word l).length = k := by
  have e : l = l.take k ++ l.drop k := (List.take_append_drop k l).symm
  have h1 : ∀ c r, l.drop k = c :: r → noBl c = false := by
    intro c r hr
    rcases he with he | ⟨h, hb⟩
    · rw [he, List.drop_length] at hr; cases hr
    · rw [List.drop_eq_getElem_cons h] at hr
      simp only [List.cons.injEq] at hr
      rw [← hr.1]; exact hb
  have := (while_app noBl (l.take k) (l.drop k) (fun c hc => List.all_eq_true.1 ha c hc) h1).1
  rw [← e] at this
  unfold word
  rw [this, List.length_take]; omega
theorem goodT_bad (s : ByteArray) (k : Nat) (h : k < s.size) (hc : vis s[k] = false) : goodT s.data.toList = false := by
  unfold goodT; rw [ev_bad vis s k h hc, Bool.and_false]
end Go.Proofs.YtnlehfondhegbaaDoor
namespace Go.Proofs.YtnlehfondhegbaaDoor
open Go.RowKit
theorem cut_to (s : ByteArray) (t : Nat) (ht : t ≤ s.size) (w : World) :
    Sem.run Tryd.prog (Instr.slice 9 (.string s) none (some (.int .i64 t)) none) w = .ok (.string ⟨(s.data.toList.take t).toArray⟩) w := by
  rw [run_slice_string_to_if w 9 s .i64 t Tryd.underlying9, if_pos ⟨by omega, by omega⟩]
  congr 2
  have : (s.extract 0 t).data.toList = s.data.toList.take t := by simp [ByteArray.data_extract, List.extract_eq_take_drop]
  simp only [Int.toNat_natCast]
  rw [← this]
theorem cut_from1 (s : ByteArray) (f : Nat) (hf : f + 1 ≤ s.size) (w : World) :
    Sem.run Tryd.prog (Instr.slice 9 (.string s) (some (.int .i64 ((f : Int) + 1))) none none) w = .ok (.string ⟨(s.data.toList.drop (f + 1)).toArray⟩) w := by
  have key : Sem.run Tryd.prog (Instr.slice 9 (.string s) (some (.int .i64 ((f + 1 : Nat) : Int))) none none) w = .ok (.string ⟨(s.data.toList.drop (f + 1)).toArray⟩) w := by
    rw [run_slice_string_from_if w 9 s .i64 ((f + 1 : Nat) : Int) Tryd.underlying9, if_pos ⟨by omega, by omega⟩]
    congr 2
    have : (s.extract (f + 1) s.size).data.toList = s.data.toList.drop (f + 1) := by
      simp [ByteArray.data_extract, List.extract_eq_take_drop]
      exact List.take_of_length_le (by simp)
    simp only [Int.toNat_natCast]
    rw [← this]
  rwa [Int.natCast_add] at key
theorem col_facts (l : List UInt8) (k : Nat) (hk : k ≤ l.length) (ha : (l.take k).all noCol = true) (h : ∀ h : k < l.length, noCol l[k] = false) :
    nameOf l = l.take k ∧ restOf l = l.drop (k + 1) ∧ l.all noCol = decide (k = l.length) := by
  have hw := while_app noCol (l.take k) (l.drop k) (fun c hc => List.all_eq_true.1 ha c hc) (fun c r e => by
    have hlt : k < l.length := by
      rcases Nat.lt_or_ge k l.length with h | h
      · exact h
      · rw [List.drop_eq_nil_of_le h] at e; cases e
    rw [List.drop_eq_getElem_cons hlt] at e
    injection e with e1 e2
    rw [← e1]; exact h hlt)
  rw [List.take_append_drop] at hw
  refine ⟨hw.1, by unfold restOf; rw [hw.2, List.drop_drop], ?_⟩
  by_cases e : k = l.length
  · rw [decide_eq_true e]
    rw [e, List.take_length] at ha
    exact ha
  · rw [decide_eq_false e]
    have hlt : k < l.length := by omega
    rw [List.all_eq_false]
    exact ⟨l[k], List.getElem_mem hlt, by rw [h hlt]; simp⟩
end Go.Proofs.YtnlehfondhegbaaDoor
namespace Go.Proofs.YtnlehfondhegbaaDoor
open Go.RowKit
def verM (l : List UInt8) : Int × Int := if isVer l = true then minOf l else (0, 50)
theorem ext5 (s : ByteArray) : s.extract 0 5 = ⟨(s.data.toList.take 5).toArray⟩ := by
  have : (s.extract 0 5).data.toList = s.data.toList.take 5 := by simp [ByteArray.data_extract, List.extract_eq_take_drop]
  rw [← this]
theorem ver_eight (s : ByteArray) (h : s.size = 8) (z5 : 5 < s.size) (z6 : 6 < s.size) (z7 : 7 < s.size) : isVer s.data.toList = (decide (s.data.toList.take 5 = P5) && (digI ((s[5]'z5).toNat : Int) && (decide (((s[6]'z6).toNat : Int) = 46) && digI ((s[7]'z7).toNat : Int)))) := by
  have hl : s.data.toList.length = 8 := by simpa using h
  have g : ∀ k (hk : k < s.size), s.data.toList.getD k 0 = s[k]'hk := by
    intro k hk
    rw [List.getD_eq_getElem?_getD, List.getElem?_eq_getElem (by simpa using hk)]
    rfl
  unfold isVer dig
  rw [g 5 z5, g 6 z6, g 7 z7, decide_eq_true hl]
  have hb : decide (s[6]'z6 = (46 : UInt8)) = decide (((s[6]'z6).toNat : Int) = 46) := by
    by_cases h : s[6]'z6 = (46 : UInt8)
    · rw [h]; rfl
    · rw [decide_eq_false h, decide_eq_false]
      intro h2
      exact h (UInt8.toNat_inj.1 (by show (s[6]'z6).toNat = 46; omega))
  have hp : P5.isPrefixOf s.data.toList = decide (s.data.toList.take 5 = P5) := by
    rw [Bool.eq_iff_iff, List.isPrefixOf_iff_prefix, decide_eq_true_iff]
    constructor
    · rintro ⟨t, ht⟩; rw [← ht]; rfl
    · intro h; exact ⟨s.data.toList.drop 5, by rw [← h, List.take_append_drop]⟩
  rw [hb, hp]; rfl
end Go.Proofs.YtnlehfondhegbaaDoor
namespace Go.Proofs.YtnlehfondhegbaaDoor
open Go.RowKit
theorem end_next (bs : List UInt8) (i : Nat) (h : i < bs.length) (ho : E4.isPrefixOf (bs.drop i) = false) : endOf bs (i + 1) = endOf bs i := by
  have hd : bs.drop i = bs[i] :: bs.drop (i + 1) := List.drop_eq_getElem_cons h
  have hi : Lib.index (bs.drop i) E4 = if Lib.index (bs.drop (i + 1)) E4 == -1 then -1 else Lib.index (bs.drop (i + 1)) E4 + 1 := by
    rw [hd] at ho ⊢
    rw [Lib.index, if_neg (by rw [ho]; simp)]
  rcases index_cases (bs.drop (i + 1)) E4 with h1 | ⟨j, h1⟩
  · rw [h1] at hi
    rw [end_none _ _ h1, end_none _ _ (by rw [hi]; rfl)]
  · rw [h1, if_neg (by simp)] at hi
    rw [end_some _ _ _ h1, end_some bs i (j + 1) (by rw [hi]; rfl), show i + 1 + j + 4 = i + (j + 1) + 4 by omega]
theorem end_here (bs : List UInt8) (i : Nat) (ho : E4.isPrefixOf (bs.drop i) = true) : endOf bs i = if 8192 < i + 4 then (0, 51) else (i + 4, 0) := by
  have := end_some bs i 0 (Lib.index_first (i := 0) (Nat.zero_le _) (by unfold Lib.occAt; rw [List.drop_zero]; exact ho) (fun j hj => absurd hj (Nat.not_lt_zero _)))
  rwa [Nat.add_zero] at this
theorem end_short' (bs : List UInt8) (i : Nat) (h : bs.length ≤ i + 3) : endOf bs i = if 8192 ≤ bs.length then (0, 51) else (0, 0) := by
  apply end_none
  rcases index_cases (bs.drop i) E4 with h1 | ⟨j, h1⟩
  · exact h1
  · have := occ_len _ _ _ (by decide) (index_is _ _ _ h1).2.1
    rw [List.length_drop, show E4.length = 4 from rfl] at this
    omega
theorem four_pre (bs : List UInt8) (i : Nat) (h0 : i < bs.length) (h1 : i + 1 < bs.length) (h2 : i + 2 < bs.length) (h3 : i + 3 < bs.length) : E4.isPrefixOf (bs.drop i) = (((bs[i].toNat : Int) == 13) && (((bs[i + 1].toNat : Int) == 10) && (((bs[i + 2].toNat : Int) == 13) && ((bs[i + 3].toNat : Int) == 10)))) := by
  rw [List.drop_eq_getElem_cons h0, List.drop_eq_getElem_cons h1, List.drop_eq_getElem_cons h2, List.drop_eq_getElem_cons h3]
  have e : ∀ (c d : UInt8), (c == d) = ((d.toNat : Int) == (c.toNat : Int)) := by
    intro c d
    rw [Bool.eq_iff_iff, beq_iff_eq, beq_iff_eq]
    constructor
    · rintro rfl; rfl
    · intro h; exact UInt8.toNat_inj.1 (by omega)
  unfold E4
  simp only [List.isPrefixOf, Bool.and_true]
  rw [e, e, e, e]
  rfl
theorem two_pre (H : List UInt8) (k : Nat) (h0 : k < H.length) (h1 : k + 1 < H.length) : Lib.occAt H E2 k = (((H[k].toNat : Int) == 13) && ((H[k + 1].toNat : Int) == 10)) := by
  unfold Lib.occAt
  rw [List.drop_eq_getElem_cons h0, List.drop_eq_getElem_cons h1]
  have e : ∀ (c d : UInt8), (c == d) = ((d.toNat : Int) == (c.toNat : Int)) := by
    intro c d
    rw [Bool.eq_iff_iff, beq_iff_eq, beq_iff_eq]
    constructor
    · rintro rfl; rfl
    · intro h; exact UInt8.toNat_inj.1 (by omega)
  unfold E2
  simp only [List.isPrefixOf, Bool.and_true]
  rw [e, e]
  rfl
theorem pair_two (bs : List UInt8) (k : Nat) (h0 : k < bs.length) (h1 : k + 1 < bs.length) : pairB (bs.drop k) = (((bs[k].toNat : Int) == 13) && ((bs[k + 1].toNat : Int) == 10)) := two_pre bs k h0 h1
theorem pair_end (bs : List UInt8) (k : Nat) (h : bs.length ≤ k + 1) : pairB (bs.drop k) = false := by
  cases e : pairB (bs.drop k) with
  | false => rfl
  | true =>
    obtain ⟨t, ht⟩ := (pair_iff _).1 e
    have := congrArg List.length ht
    rw [List.length_drop] at this
    simp at this
    omega
end Go.Proofs.YtnlehfondhegbaaDoor
namespace Go.Proofs.YtnlehfondhegbaaDoor
open Go.RowKit
theorem step_pre (l t : List UInt8) (ha : l.any isEnd = false) : stepOf (l ++ t) = (stepOf t).map (fun p => (l ++ p.1, p.2)) := by
  induction l with
  | nil =>
    rw [List.nil_append]
    cases stepOf t with
    | none => rfl
    | some p => rfl
  | cons b l ih =>
    rw [List.any_cons, Bool.or_eq_false_iff] at ha
    obtain ⟨hb, hl⟩ := ha
    unfold isEnd at hb
    have hb := of_decide_eq_false hb
    have h13 : ¬ b = 13 := fun e => hb (.inl e)
    have h10 : ¬ b = 10 := fun e => hb (.inr e)
    rw [List.cons_append, stepOf.eq_def]
    simp only
    rw [if_neg h13, if_neg h10, ih hl]
    cases stepOf t with
    | none => rfl
    | some p => rfl
theorem step_13 (t : List UInt8) : stepOf (13 :: 10 :: t) = some ([], t) := by rw [stepOf.eq_def]; simp
theorem step_no (t : List UInt8) (h : t = [] ∨ ∃ c r, t = c :: r ∧ isEnd c = true ∧ ∀ r', ¬ t = 13 :: 10 :: r') : stepOf t = none := by
  rcases h with rfl | ⟨c, r, rfl, hc, hn⟩
  · rfl
  · rw [stepOf.eq_def]
    simp only
    unfold isEnd at hc
    by_cases h13 : c = 13
    · subst h13
      rw [if_pos rfl]
      cases r with
      | nil => rfl
      | cons d r =>
        simp only
        rw [if_neg (fun e => hn r (by rw [e]))]
    · have h10 : c = 10 := (of_decide_eq_true hc).resolve_left h13
      rw [if_neg h13, if_pos h10]
/-- the rest of a text from place k on, with a line up to place e -/
theorem rest_at (bs : List UInt8) (k e : Nat) (hk : k ≤ e) : bs.drop k = (bs.drop k).take (e - k) ++ bs.drop e := by
  conv => lhs; rw [← List.take_append_drop (e - k) (bs.drop k)]
  rw [List.drop_drop, show k + (e - k) = e by omega]
theorem cut_at (b off n cap k e : Nat) (hk : k ≤ e) (he : e ≤ n) (hkn : k < n) (hc : n ≤ cap) (w : World) : Sem.run Tryd.prog (Instr.slice 25 (.slice (some ⟨b, off, none⟩) n cap) (some (.int .i64 k)) (some (.int .i64 e)) none) w = .ok (.slice (some ⟨b, off + k, none⟩) (e - k) (cap - k)) w := by
  have hel : Tryd.prog.elem 25 = 5 := by kernel_rfl
  have h := run_slice_lh (P := Tryd.prog) w 25 (some ⟨b, off, none⟩) n cap (by rw [hel]; exact Tryd.underlying25) .i64 .i64 k e (by omega) (by omega) (by omega)
  rw [hel, Tryd.sizeOf5] at h
  simp only [Result.andThen, Int.toNat_natCast, sliced] at h
  rw [h]
  have : ¬ cap = k := by omega
  simp [Addr.add, this]
end Go.Proofs.YtnlehfondhegbaaDoor
namespace Go.Proofs.YtnlehfondhegbaaDoor
open Go.RowKit
def condR (l : List UInt8) : Bool := isVer (word l) && (decide ((word (past l)).length = 3) && ((word (past l)).all dig && (past (past l)).all txt))
theorem lineR_cond (l : List UInt8) (h : condR l = false) : lineR l = (Rs.zero, 50) := by
  unfold lineR; unfold condR at h; rw [if_pos h]
theorem eight_of (l : List UInt8) (h : l.length = 8) : ∃ a b c d e f g i, l = [a, b, c, d, e, f, g, i] := by
  match l, h with
  | [a, b, c, d, e, f, g, i], _ => exact ⟨a, b, c, d, e, f, g, i, rfl⟩
theorem word_cut (l : List UInt8) : l = word l ∨ l = word l ++ 32 :: past l := by
  have e := while_app2 noBl l
  unfold word past
  cases hd : l.dropWhile noBl with
  | nil => left; rw [hd, List.append_nil] at e; exact e.symm
  | cons c r =>
    right
    have hc : noBl c = false := by
      have := List.head?_dropWhile_not noBl l
      rw [hd] at this
      simpa using this
    rw [hd] at e
    rw [(noBl_iff c).1 hc] at e
    exact e.symm
theorem past_nil (l : List UInt8) (h : l = word l) : past l = [] := by
  have e := while_app2 noBl l
  have hl := congrArg List.length e
  have hw := congrArg List.length h
  unfold word at hw
  rw [List.length_append] at hl
  have : (l.dropWhile noBl).length = 0 := by omega
  unfold past
  rw [List.eq_nil_of_length_eq_zero this]; rfl
/-- a line that is good opens with eight bytes, a blank and three digits -/
theorem cond_form (l : List UInt8) (h : condR l = true) : ∃ a x y z t, l = a ++ 32 :: x :: y :: z :: t ∧ a.length = 8 ∧ dig x = true ∧ dig y = true ∧ dig z = true ∧ (t = [] ∨ ∃ u, t = 32 :: u ∧ u.all txt = true) := by
  unfold condR at h
  simp only [Bool.and_eq_true, decide_eq_true_eq] at h
  obtain ⟨h1, h2, h3, h4⟩ := h
  have h8 := (ver_facts h1).1
  obtain ⟨x, y, z, e3⟩ := three_of' _ h2
  rw [e3] at h3
  simp only [List.all_cons, List.all_nil, Bool.and_true, Bool.and_eq_true] at h3
  rcases word_cut l with hl | hl
  · rw [past_nil l hl] at h2
    exact absurd h2 (by decide)
  · rcases word_cut (past l) with hp | hp
    · refine ⟨word l, x, y, z, [], ?_, h8, h3.1, h3.2.1, h3.2.2, .inl rfl⟩
      rw [e3] at hp
      rw [hp] at hl
      exact hl
    · refine ⟨word l, x, y, z, 32 :: past (past l), ?_, h8, h3.1, h3.2.1, h3.2.2, .inr ⟨_, rfl, h4⟩⟩
      rw [e3] at hp
      rw [hp] at hl
      exact hl
theorem ver_noBl (a : List UInt8) (h : isVer a = true) : ∀ c ∈ a, noBl c = true := by
  have h8 := (ver_facts h).1
  obtain ⟨a0, a1, a2, a3, a4, a5, a6, a7, rfl⟩ := eight_of a h8
  unfold isVer at h
  simp only [Bool.and_eq_true, decide_eq_true_eq] at h
  obtain ⟨hp, _, h5, h6, h7⟩ := h
  have e := pre5 _ hp
  have e' : [a0, a1, a2, a3, a4, a5, a6, a7] = [72, 84, 84, 80, 47, a5, a6, a7] := e
  simp only [List.cons.injEq, and_true] at e'
  obtain ⟨rfl, rfl, rfl, rfl, rfl⟩ := e'
  have h5' : dig a5 = true := h5
  have h6' : a6 = 46 := h6
  have h7' : dig a7 = true := h7
  subst h6'
  have nd : ∀ c : UInt8, dig c = true → noBl c = true := by
    intro c hc
    cases hn : noBl c with
    | true => rfl
    | false => rw [(noBl_iff c).1 hn] at hc; exact absurd hc (by decide)
  intro c hc
  simp only [List.mem_cons, List.not_mem_nil, or_false] at hc
  rcases hc with rfl | rfl | rfl | rfl | rfl | rfl | rfl | rfl
  · decide
  · decide
  · decide
  · decide
  · decide
  · exact nd _ h5'
  · decide
  · exact nd _ h7'
theorem word_app8 (a b : List UInt8) (ha : ∀ c ∈ a, noBl c = true) : word (a ++ 32 :: b) = a ∧ past (a ++ 32 :: b) = b := by
  have := while_app noBl a (32 :: b) ha (fun c r e => by simp only [List.cons.injEq] at e; rw [← e.1]; rfl)
  unfold word past
  rw [this.1, this.2]
  exact ⟨rfl, rfl⟩
/-- what such a line says -/
theorem lineR_form (a : List UInt8) (x y z : UInt8) (t u : List UInt8) (ha : a.length = 8) (hx : dig x = true) (hy : dig y = true) (hz : dig z = true) (ht : (t = [] ∧ u = []) ∨ t = 32 :: u) (hu : u.all txt = true) :
    lineR (a ++ 32 :: x :: y :: z :: t) = if (verM a).2 = 0 then (if goodS (num3 [x, y, z]) = true then (⟨num3 [x, y, z], u, (verM a).1, []⟩, 0) else (Rs.zero, 53)) else (Rs.zero, (verM a).2) := by
  have nd : ∀ c : UInt8, dig c = true → noBl c = true := by
    intro c hc
    cases hn : noBl c with
    | true => rfl
    | false => rw [(noBl_iff c).1 hn] at hc; exact absurd hc (by decide)
  cases hv : isVer a with
  | false =>
    have e : verM a = (0, 50) := by unfold verM; rw [hv]; rfl
    rw [e]
    show _ = (Rs.zero, 50)
    apply lineR_ver
    cases hw : isVer (word (a ++ 32 :: x :: y :: z :: t)) with
    | false => rfl
    | true =>
      have h8 := (ver_facts hw).1
      have h1 : (a ++ 32 :: x :: y :: z :: t).take (word (a ++ 32 :: x :: y :: z :: t)).length = word (a ++ 32 :: x :: y :: z :: t) := while_take noBl _
      rw [h8, List.take_append_of_le_length (by omega), List.take_of_length_le (by omega)] at h1
      rw [← h1, hv] at hw
      cases hw
  | true =>
    obtain ⟨w1, w2⟩ := word_app8 a (x :: y :: z :: t) (ver_noBl a hv)
    have hw3 : word (x :: y :: z :: t) = [x, y, z] ∧ past (x :: y :: z :: t) = u := by
      rcases ht with ⟨rfl, rfl⟩ | rfl
      · have hw : word [x, y, z] = [x, y, z] := by
          unfold word
          simp [nd x hx, nd y hy, nd z hz]
        exact ⟨hw, past_nil _ hw.symm⟩
      · exact word_app8 [x, y, z] u (by
          intro c hc
          simp only [List.mem_cons, List.not_mem_nil, or_false] at hc
          rcases hc with rfl | rfl | rfl
          · exact nd _ hx
          · exact nd _ hy
          · exact nd _ hz)
    have e : verM a = minOf a := by unfold verM; rw [if_pos hv]
    rw [lineR_all _ (by rw [w1]; exact hv) (by rw [w2, hw3.1]; rfl) (by rw [w2, hw3.1]; simp [hx, hy, hz]) (by rw [w2, hw3.2]; exact hu), w1, w2, hw3.1, hw3.2, e]
    rcases min_facts a with ⟨m2, _⟩ | ⟨m2, _⟩
    · rw [if_pos m2, if_pos m2]
    · rw [if_neg (by rw [m2]; decide), if_neg (by rw [m2]; decide), m2]
theorem get_app8 (a : List UInt8) (r : List UInt8) (c : UInt8) (k : Nat) (ha : a.length = 8) (hr : r[k]? = some c) : (a ++ r)[8 + k]? = some c := by
  rw [List.getElem?_append_right (by omega), ha, show 8 + k - 8 = k by omega]; exact hr
theorem ba_get (s : ByteArray) (k : Nat) (h : k < s.size) : s.data.toList[k]? = some s[k] := by
  rw [List.getElem?_eq_getElem (by simpa using h)]; rfl
theorem no_short (s : ByteArray) (h : s.size < 12) : lineR s.data.toList = (Rs.zero, 50) := by
  apply lineR_cond
  cases hc : condR s.data.toList with
  | false => rfl
  | true =>
    obtain ⟨a, x, y, z, t, e, ha, _⟩ := cond_form _ hc
    have := congrArg List.length e
    simp at this
    omega
theorem no_blank (s : ByteArray) (h : 8 < s.size) (hb : s[8] ≠ 32) : lineR s.data.toList = (Rs.zero, 50) := by
  apply lineR_cond
  cases hc : condR s.data.toList with
  | false => rfl
  | true =>
    obtain ⟨a, x, y, z, t, e, ha, _⟩ := cond_form _ hc
    have := ba_get s 8 h
    rw [e, get_app8 a _ 32 0 ha rfl] at this
    exact absurd (Option.some.inj this).symm hb
theorem no_digit (s : ByteArray) (k : Nat) (hk : k < 3) (h : 9 + k < s.size) (hb : dig s[9 + k] = false) : lineR s.data.toList = (Rs.zero, 50) := by
  apply lineR_cond
  cases hc : condR s.data.toList with
  | false => rfl
  | true =>
    obtain ⟨a, x, y, z, t, e, ha, hx, hy, hz, _⟩ := cond_form _ hc
    have := ba_get s (9 + k) h
    rw [e] at this
    rcases (by omega : k = 0 ∨ k = 1 ∨ k = 2) with rfl | rfl | rfl
    · rw [get_app8 a _ x 1 ha rfl] at this; rw [← Option.some.inj this, hx] at hb; cases hb
    · rw [get_app8 a _ y 2 ha rfl] at this; rw [← Option.some.inj this, hy] at hb; cases hb
    · rw [get_app8 a _ z 3 ha rfl] at this; rw [← Option.some.inj this, hz] at hb; cases hb
theorem no_gap (s : ByteArray) (h : 12 < s.size) (hb : s[12] ≠ 32) : lineR s.data.toList = (Rs.zero, 50) := by
  apply lineR_cond
  cases hc : condR s.data.toList with
  | false => rfl
  | true =>
    obtain ⟨a, x, y, z, t, e, ha, hx, hy, hz, ht⟩ := cond_form _ hc
    have hl := congrArg List.length e
    have := ba_get s 12 h
    rcases ht with rfl | ⟨u, rfl, hu⟩
    · simp at hl; omega
    · rw [e, get_app8 a _ 32 4 ha rfl] at this
      exact absurd (Option.some.inj this).symm hb
theorem no_text (s : ByteArray) (h : 12 < s.size) (hb : (s.data.toList.drop 13).all txt = false) : lineR s.data.toList = (Rs.zero, 50) := by
  apply lineR_cond
  cases hc : condR s.data.toList with
  | false => rfl
  | true =>
    obtain ⟨a, x, y, z, t, e, ha, hx, hy, hz, ht⟩ := cond_form _ hc
    have hl := congrArg List.length e
    rcases ht with rfl | ⟨u, rfl, hu⟩
    · simp at hl; omega
    · rw [e, show (13 : Nat) = 8 + 5 from rfl, ← List.drop_drop, List.drop_append_of_le_length (by omega), List.drop_of_length_le (Nat.le_of_eq ha)] at hb
      rw [show ([] ++ 32 :: x :: y :: z :: 32 :: u : List UInt8).drop 5 = u from rfl, hu] at hb
      cases hb
theorem num_three (s : ByteArray) (h9 : 9 < s.size) (h10 : 10 < s.size) (h11 : 11 < s.size) : num3 [s[9], s[10], s[11]] = (s[9].toNat : Int) * 100 + (s[10].toNat : Int) * 10 + (s[11].toNat : Int) - 5328 := rfl
theorem good_line (s : ByteArray) (h : 12 ≤ s.size) (h8 : s[8] = 32) (h9 : dig s[9] = true) (h10 : dig s[10] = true) (h11 : dig s[11] = true) (u : List UInt8) (ht : (s.size = 12 ∧ u = []) ∨ (∃ h12 : 12 < s.size, s[12] = 32 ∧ u = s.data.toList.drop 13)) (hu : u.all txt = true) :
    lineR s.data.toList = if (verM (s.data.toList.take 8)).2 = 0 then (if goodS (num3 [s[9], s[10], s[11]]) = true then (⟨num3 [s[9], s[10], s[11]], u, (verM (s.data.toList.take 8)).1, []⟩, 0) else (Rs.zero, 53)) else (Rs.zero, (verM (s.data.toList.take 8)).2) := by
  have hl : s.data.toList.length = s.size := by simp
  have g : ∀ k (hk : k < s.size), s.data.toList.drop k = s[k] :: s.data.toList.drop (k + 1) := fun k hk => List.drop_eq_getElem_cons (by rw [hl]; exact hk)
  have e : s.data.toList = s.data.toList.take 8 ++ (32 : UInt8) :: s[9] :: s[10] :: s[11] :: s.data.toList.drop 12 := by
    rw [← h8, ← g 11 (by omega), ← g 10 (by omega), ← g 9 (by omega), ← g 8 (by omega), List.take_append_drop]
  have := lineR_form (s.data.toList.take 8) s[9] s[10] s[11] (s.data.toList.drop 12) u (by rw [List.length_take]; omega) h9 h10 h11 (by
    rcases ht with ⟨h1, h2⟩ | ⟨h12, h1, h2⟩
    · left; exact ⟨List.drop_of_length_le (by omega), h2⟩
    · right; rw [g 12 h12, h1, h2]) hu
  rw [← e] at this
  exact this
set_option maxRecDepth 20000 in
set_option maxHeartbeats 1000000 in
theorem textsRef (s : ByteArray) (hs : s.size ≤ 140737488351232) (w : World) :
    Calls Tryd.prog 35 #[.string s] w fun e w' => e = .returned (.bool (s.data.toList.all txt)) ∧ w' = w := by
  obtain ⟨r, hr⟩ : ∃ r, r = s.data.toList.all txt := ⟨_, rfl⟩
  rw [← hr]
  have HR := hide' hr
  clear hr
  go_enter Tryd.func35, Tryd.ntmps35
  go_wp2_with fail
  go_loop [3] (fun i => ∃ k : Nat, k ≤ s.size ∧ i = .int .i64 k ∧ Hid ((s.data.toList.take k).all txt = true)) (fun i => s.size - (intOf i).toNat)
  case atStart => exact ⟨0, by omega, rfl, by unfold Hid; simp⟩
  case round =>
    obtain ⟨k, hk, rfl, ha⟩ := hrel
    by_cases hlt : k < s.size
    · have hb := byte_lt s[k]
      cases ht : txtI (s[k].toNat : Int) with
      | true =>
        have A := hide' (ev_step txt s k hlt ht ha.out)
        go_wp2_with (go_at_call 42; refine (textRef _ (by omega) (by omega) _).mono ?_; rintro e w' ⟨rfl, rfl⟩)
        go_round
        case rel => exact ⟨k + 1, by omega, by go_num, A⟩
        case measure => simp [intOf]; omega
      | false =>
        have F := hide' (ev_bad txt s k hlt ht)
        go_wp2_with (go_at_call 42; refine (textRef _ (by omega) (by omega) _).mono ?_; rintro e w' ⟨rfl, rfl⟩)
        go_ret
        rw [HR.out, F.out]
        exact ⟨rfl, rfl⟩
    · have F := hide' (ev_end txt s k (by omega) ha.out)
      go_wp2_with fail
      go_ret
      rw [HR.out, F.out]
      exact ⟨rfl, rfl⟩
end Go.Proofs.YtnlehfondhegbaaDoor
