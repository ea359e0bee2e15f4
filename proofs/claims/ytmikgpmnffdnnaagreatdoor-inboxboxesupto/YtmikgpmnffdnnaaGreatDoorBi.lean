/- Plain lemmas on how a text is cut into pieces outside of quoted stretches; nothing of the program is named here. The contracts of pieces and of the document's Pieces. The contract of pieces: what the document's Pieces answers, each trimmed. The contract of SameTexts: it answers whether the texts are the same. The contracts of List and of the document's List. Plain: the words of values, and their bulk. The contracts of Get and of the document's Get. The contracts of Tokens and of the document's Tokens. Plain: the number that an element tells; the lengths' rule, the codings', the fields'; what folding leaves of a number. Nothing of the program is named here. The contracts of slices.Index and slices.Contains over texts, of Last, and of the document's Has and Last. -/
import Derived.Test.YtmikgpmnffdnnaaGreatDoorBa
import Derived.Lib.Bytealg
import Derived.Test.YtmikgpmnffdnnaaGreatDoorBh
import Derived.Test.YtmikgpmnffdnnaaGreatDoorBc
import Derived.Test.YtmikgpmnffdnnaaGreatDoorBb
import Derived.Maps.AppendAt
namespace Go.Proofs.YtmikgpmnffdnnaaGreatDoor
open Go.RowKit
/-- the pieces of cur ++ l, cur being read already; q: within quotes -/
def pcs (c : Int) (q : Bool) (cur : List UInt8) : List UInt8 → List (List UInt8)
  | [] => [cur]
  | [x] => if (x.toNat : Int) = 34 then [cur ++ [x]] else if q = true ∧ (x.toNat : Int) = 92 then [cur ++ [x]] else if q = false ∧ (x.toNat : Int) = c then [cur, []] else [cur ++ [x]]
  | x :: y :: r => if (x.toNat : Int) = 34 then pcs c (!q) (cur ++ [x]) (y :: r) else if q = true ∧ (x.toNat : Int) = 92 then pcs c q (cur ++ [x, y]) r else if q = false ∧ (x.toNat : Int) = c then cur :: pcs c q [] (y :: r) else pcs c q (cur ++ [x]) (y :: r)
section
variable (c : Int) (q : Bool) (cur : List UInt8) (x : UInt8) (r : List UInt8)
theorem pcs_quote (h : (x.toNat : Int) = 34) : pcs c q cur (x :: r) = pcs c (!q) (cur ++ [x]) r := by
  cases r with
  | nil => rw [pcs, pcs, if_pos h]
  | cons y r => rw [pcs, if_pos h]
theorem pcs_esc (h : (x.toNat : Int) = 92) (y : UInt8) : pcs c true cur (x :: y :: r) = pcs c true (cur ++ [x, y]) r := by
  rw [pcs, if_neg (by omega), if_pos ⟨rfl, h⟩]
theorem pcs_esc_end (h : (x.toNat : Int) = 92) : pcs c true cur [x] = [cur ++ [x]] := by
  rw [pcs, if_neg (by omega), if_pos ⟨rfl, h⟩]
theorem pcs_cut (h34 : ¬ (x.toNat : Int) = 34) (h : (x.toNat : Int) = c) : pcs c false cur (x :: r) = cur :: pcs c false [] r := by
  cases r with
  | nil => rw [pcs, pcs, if_neg h34, if_neg (by simp), if_pos ⟨rfl, h⟩]
  | cons y r => rw [pcs, if_neg h34, if_neg (by simp), if_pos ⟨rfl, h⟩]
theorem pcs_plain (h34 : ¬ (x.toNat : Int) = 34) (h92 : ¬ (q = true ∧ (x.toNat : Int) = 92)) (hc : ¬ (q = false ∧ (x.toNat : Int) = c)) : pcs c q cur (x :: r) = pcs c q (cur ++ [x]) r := by
  cases r with
  | nil => rw [pcs, pcs, if_neg h34, if_neg h92, if_neg hc]
  | cons y r => rw [pcs, if_neg h34, if_neg h92, if_neg hc]
end
def pieces (c : Int) (L : List UInt8) : List (List UInt8) := pcs c false [] L
/-- behind some rounds: i the next byte's place, f where the piece begins -/
def RelP (c : Int) (L : List UInt8) (i f : Nat) (q : Bool) (out : List (List UInt8)) : Prop :=
  f ≤ i ∧ f ≤ L.length ∧ i ≤ L.length + 1 ∧ out.length ≤ f ∧ pieces c L = out ++ pcs c q ((L.drop f).take (i - f)) (L.drop i)
section
variable {c : Int} {L : List UInt8} {i f : Nat} {q : Bool} {out : List (List UInt8)}
theorem relP_start (c : Int) (L : List UInt8) : RelP c L 0 0 false [] := ⟨Nat.le_refl _, Nat.zero_le _, Nat.zero_le _, Nat.le_refl _, by simp [pieces]⟩
theorem seg_snoc (hf : f ≤ i) (hi : i < L.length) : (L.drop f).take (i + 1 - f) = (L.drop f).take (i - f) ++ [L[i]] := by
  rw [show i + 1 - f = (i - f) + 1 by omega, List.take_succ_eq_append_getElem (by rw [List.length_drop]; omega), List.getElem_drop]
  congr 2
  congr 1
  omega
theorem drop_cons (hi : i < L.length) : L.drop i = L[i] :: L.drop (i + 1) := List.drop_eq_getElem_cons hi
theorem relP_quote (h : RelP c L i f q out) (hi : i < L.length) (h34 : (L[i].toNat : Int) = 34) : RelP c L (i + 1) f (!q) out := by
  obtain ⟨a, b, d, e, g⟩ := h
  refine ⟨by omega, b, by omega, e, ?_⟩
  rw [g, drop_cons hi, pcs_quote _ _ _ _ _ h34, seg_snoc a hi]
theorem relP_esc (h : RelP c L i f true out) (hi : i < L.length) (h92 : (L[i].toNat : Int) = 92) : RelP c L (i + 2) f true out := by
  obtain ⟨a, b, d, e, g⟩ := h
  refine ⟨by omega, b, by omega, e, ?_⟩
  by_cases hi2 : i + 1 < L.length
  · rw [g, drop_cons hi, drop_cons hi2, pcs_esc _ _ _ _ h92, seg_snoc (i := i + 1) (by omega) hi2, seg_snoc a hi]
    simp
  · have hl : L.length = i + 1 := by omega
    rw [g, drop_cons hi, List.drop_of_length_le (by omega : L.length ≤ i + 1), pcs_esc_end _ _ _ h92, List.drop_of_length_le (by omega : L.length ≤ i + 2), pcs]
    rw [← seg_snoc a hi, List.take_of_length_le (by rw [List.length_drop]; omega), List.take_of_length_le (by rw [List.length_drop]; omega)]
theorem relP_cut (h : RelP c L i f false out) (hi : i < L.length) (h34 : ¬ (L[i].toNat : Int) = 34) (hc : (L[i].toNat : Int) = c) : RelP c L (i + 1) (i + 1) false (out ++ [(L.drop f).take (i - f)]) := by
  obtain ⟨a, b, d, e, g⟩ := h
  refine ⟨by omega, by omega, by omega, by simp; omega, ?_⟩
  rw [g, drop_cons hi, pcs_cut _ _ _ _ h34 hc]
  simp
theorem relP_plain (h : RelP c L i f q out) (hi : i < L.length) (h34 : ¬ (L[i].toNat : Int) = 34) (h92 : ¬ (q = true ∧ (L[i].toNat : Int) = 92)) (hc : ¬ (q = false ∧ (L[i].toNat : Int) = c)) : RelP c L (i + 1) f q out := by
  obtain ⟨a, b, d, e, g⟩ := h
  refine ⟨by omega, b, by omega, e, ?_⟩
  rw [g, drop_cons hi, pcs_plain _ _ _ _ _ h34 h92 hc, seg_snoc a hi]
theorem relP_done (h : RelP c L i f q out) (hi : L.length ≤ i) : pieces c L = out ++ [L.drop f] := by
  obtain ⟨a, b, d, e, g⟩ := h
  rw [g, List.drop_of_length_le hi, pcs, List.take_of_length_le (by rw [List.length_drop]; omega)]
theorem seg_len (L : List UInt8) (i f : Nat) : ((L.drop f).take (i - f)).length ≤ L.length := by
  rw [List.length_take, List.length_drop]; omega
end
theorem pcs_len (c : Int) : ∀ (n : Nat) (q : Bool) (cur L : List UInt8), L.length ≤ n → (pcs c q cur L).length ≤ L.length + 1 := by
  intro n
  induction n with
  | zero =>
    intro q cur L h
    obtain rfl : L = [] := List.eq_nil_of_length_eq_zero (by omega)
    simp [pcs]
  | succ n ih =>
    intro q cur L h
    match L, h with
    | [], _ => simp [pcs]
    | [x], _ =>
      rw [pcs]
      split
      · simp
      · split
        · simp
        · split <;> simp
    | x :: y :: r, h =>
      have h1 : (y :: r).length ≤ n := by simp at h ⊢; omega
      have h2 : r.length ≤ n := by simp at h; omega
      rw [pcs]
      split
      · have := ih (!q) (cur ++ [x]) (y :: r) h1; simp at this ⊢; omega
      · split
        · have := ih q (cur ++ [x, y]) r h2; simp at this ⊢; omega
        · split
          · have := ih q [] (y :: r) h1; simp at this ⊢; omega
          · have := ih q (cur ++ [x]) (y :: r) h1; simp at this ⊢; omega
theorem pieces_len (c : Int) (L : List UInt8) : (pieces c L).length ≤ L.length + 1 := pcs_len c L.length false [] L (Nat.le_refl _)
theorem pcs_mem (c : Int) : ∀ (n : Nat) (q : Bool) (cur L : List UInt8), L.length ≤ n → ∀ p ∈ pcs c q cur L, p.length ≤ cur.length + L.length := by
  intro n
  induction n with
  | zero =>
    intro q cur L h p hp
    obtain rfl : L = [] := List.eq_nil_of_length_eq_zero (by omega)
    simp [pcs] at hp; subst hp; simp
  | succ n ih =>
    intro q cur L h p
    match L, h with
    | [], _ => simp [pcs]; rintro rfl; exact Nat.le_refl _
    | [x], _ =>
      rw [pcs]
      split
      · simp; rintro rfl; simp
      · split
        · simp; rintro rfl; simp
        · split
          · simp; rintro (rfl | rfl) <;> simp
          · simp; rintro rfl; simp
    | x :: y :: r, h =>
      have h1 : (y :: r).length ≤ n := by simp at h ⊢; omega
      have h2 : r.length ≤ n := by simp at h; omega
      rw [pcs]
      split
      · intro hp; have := ih (!q) (cur ++ [x]) (y :: r) h1 p hp; simp at this ⊢; omega
      · split
        · intro hp; have := ih q (cur ++ [x, y]) r h2 p hp; simp at this ⊢; omega
        · split
          · intro hp
            rcases List.mem_cons.1 hp with rfl | hp
            · simp
            · have := ih q [] (y :: r) h1 p hp; simp at this ⊢; omega
          · intro hp; have := ih q (cur ++ [x]) (y :: r) h1 p hp; simp at this ⊢; omega
theorem pieces_mem (c : Int) (L p : List UInt8) (h : p ∈ pieces c L) : p.length ≤ L.length := by
  have := pcs_mem c L.length false [] L (Nat.le_refl _) p h; simpa using this
end Go.Proofs.YtmikgpmnffdnnaaGreatDoor
namespace Go.Proofs.YtmikgpmnffdnnaaGreatDoor
open Go.RowKit
set_option maxRecDepth 20000
theorem list_get (s : ByteArray) (i : Nat) (h : i < s.size) : ∃ hk : i < s.data.toList.length, s.data.toList[i] = s[i] := ⟨by simpa using h, rfl⟩
theorem len_list (s : ByteArray) : s.data.toList.length = s.size := by simp
theorem seg_size (s : ByteArray) (i f : Nat) : (⟨((s.data.toList.drop f).take (i - f)).toArray⟩ : ByteArray).size ≤ s.size := by
  show ((s.data.toList.drop f).take (i - f)).toArray.size ≤ s.size
  rw [List.size_toArray, ← len_list s]; exact seg_len _ _ _
theorem cut_from (s : ByteArray) (f : Nat) (hf : f ≤ s.size) (w : World) :
    Sem.run Tryz.prog (Instr.slice 9 (.string s) (some (.int .i64 f)) none none) w = .ok (.string ⟨(s.data.toList.drop f).toArray⟩) w := by
  rw [run_slice_string_from_if w 9 s .i64 f Tryz.underlying9, if_pos ⟨by omega, by omega⟩]
  congr 2
  have : (s.extract f s.size).data.toList = s.data.toList.drop f := by
    have h : s.size = s.data.toList.length := by simp
    simp [ByteArray.data_extract, List.extract_eq_take_drop]
    exact List.take_of_length_le (by simp)
  simp only [Int.toNat_natCast]
  rw [← this]
section
variable {c : Int} {s : ByteArray} {i f : Nat} {q : Bool} {out : List (List UInt8)}
theorem relB_quote (h : RelP c s.data.toList i f q out) (hi : i < s.size) (h34 : (s[i].toNat : Int) = 34) : RelP c s.data.toList (i + 1) f (!q) out := by
  obtain ⟨hk, e⟩ := list_get s i hi
  exact relP_quote h hk (by rw [e]; exact h34)
theorem relB_esc (h : RelP c s.data.toList i f true out) (hi : i < s.size) (h92 : (s[i].toNat : Int) = 92) : RelP c s.data.toList (i + 2) f true out := by
  obtain ⟨hk, e⟩ := list_get s i hi
  exact relP_esc h hk (by rw [e]; exact h92)
theorem relB_cut (h : RelP c s.data.toList i f false out) (hi : i < s.size) (h34 : ¬ (s[i].toNat : Int) = 34) (hc : (s[i].toNat : Int) = c) : RelP c s.data.toList (i + 1) (i + 1) false (out ++ [(s.data.toList.drop f).take (i - f)]) := by
  obtain ⟨hk, e⟩ := list_get s i hi
  exact relP_cut h hk (by rw [e]; exact h34) (by rw [e]; exact hc)
theorem relB_plain (h : RelP c s.data.toList i f q out) (hi : i < s.size) (h34 : ¬ (s[i].toNat : Int) = 34) (h92 : ¬ (q = true ∧ (s[i].toNat : Int) = 92)) (hc : ¬ (q = false ∧ (s[i].toNat : Int) = c)) : RelP c s.data.toList (i + 1) f q out := by
  obtain ⟨hk, e⟩ := list_get s i hi
  exact relP_plain h hk (by rw [e]; exact h34) (by rw [e]; exact h92) (by rw [e]; exact hc)
end
set_option maxHeartbeats 2000000 in
theorem piecesRef (s : ByteArray) (c : Int) (w : World) (hs : s.size ≤ 4194304) :
    Calls Tryz.prog 124 #[.string s, .int .u8 c] w fun e w' => ∃ v, e = .returned v ∧ OwnS w v (pieces c s.data.toList) w' := by
  go_enter Tryz.func124, Tryz.ntmps124
  go_wp2
  go_loopw [5, 6, 7, 8] (fun v fv qv iv wr => ∃ (i f : Nat) (q : Bool) (out : List (List UInt8)), iv = .int .i64 i ∧ fv = .int .i64 f ∧ qv = .bool q ∧ Hid (RelP c s.data.toList i f q out) ∧ OwnS w v out wr) (fun _ _ _ iv _ => s.size + 2 - (intOf iv).toNat)
  case atStart => exact ⟨0, 0, false, [], rfl, rfl, rfl, relP_start _ _, ownS_empty w⟩
  case round =>
    obtain ⟨i, f, q, out, rfl, rfl, rfl, hR, hown⟩ := hrel
    have r1 : f ≤ i := hR.out.1
    have r2 : f ≤ s.size := by have := hR.out.2.1; rwa [len_list] at this
    have r3 : i ≤ s.size + 1 := by have := hR.out.2.2.1; rwa [len_list] at this
    have r4 : out.length ≤ f := hR.out.2.2.2.1
    by_cases hlt : i < s.size
    · have hb := byte_lt s[i]
      by_cases x34 : (s[i].toNat : Int) = 34
      · have R : Hid (RelP c s.data.toList (i + 1) f (!q) out) := relB_quote hR.out hlt x34
        have b34 : ((s[i].toNat : Int) == 34) = true := by simp [x34]
        have b92 : ((s[i].toNat : Int) == 92) = false := by simp [x34]
        clear x34
        cases q with
        | false =>
          go_wp2
          go_roundw
          case rel => exact ⟨i + 1, f, true, out, by go_num, rfl, rfl, R, hown⟩
          case measure => simp [intOf]; omega
        | true =>
          go_wp2
          go_roundw
          case rel => exact ⟨i + 1, f, false, out, by go_num, rfl, rfl, R, hown⟩
          case measure => simp [intOf]; omega
      · have b34 : ((s[i].toNat : Int) == 34) = false := by simp [x34]
        cases q with
        | true =>
          by_cases x92 : (s[i].toNat : Int) = 92
          · have R : Hid (RelP c s.data.toList (i + 2) f true out) := relB_esc hR.out hlt x92
            have b92 : ((s[i].toNat : Int) == 92) = true := by simp [x92]
            clear x34 x92
            go_wp2
            go_roundw
            case rel => exact ⟨i + 2, f, true, out, by go_num, rfl, rfl, R, hown⟩
            case measure => simp [intOf]; omega
          · have R : Hid (RelP c s.data.toList (i + 1) f true out) := relB_plain hR.out hlt x34 (by simp [x92]) (by simp)
            have b92 : ((s[i].toNat : Int) == 92) = false := by simp [x92]
            clear x34 x92
            cases bc : ((s[i].toNat : Int) == c) with
            | true =>
              go_wp2
              go_roundw
              case rel => exact ⟨i + 1, f, true, out, by go_num, rfl, rfl, R, hown⟩
              case measure => simp [intOf]; omega
            | false =>
              go_wp2
              go_roundw
              case rel => exact ⟨i + 1, f, true, out, by go_num, rfl, rfl, R, hown⟩
              case measure => simp [intOf]; omega
        | false =>
          by_cases xc : (s[i].toNat : Int) = c
          · have R : Hid (RelP c s.data.toList (i + 1) (i + 1) false (out ++ [(s.data.toList.drop f).take (i - f)])) := relB_cut hR.out hlt x34 xc
            have bc : ((s[i].toNat : Int) == c) = true := by simp [xc]
            have hcut := cut_is s f i r1 (by omega) wr
            clear x34 xc
            go_wp2_with (at_builtin; refine appS rfl (.tmp 40) (.tmp 45) rfl w _ _ rfl hown _ rfl rfl (by omega) ?_; intro v2 w2 hown2)
            go_roundw
            case rel => exact ⟨i + 1, i + 1, false, _, by go_num, by go_num, rfl, R, hown2⟩
            case measure => simp [intOf]; omega
          · have R : Hid (RelP c s.data.toList (i + 1) f false out) := relB_plain hR.out hlt x34 (by simp) (by simp [xc])
            have bc : ((s[i].toNat : Int) == c) = false := by simp [xc]
            clear x34 xc
            go_wp2
            go_roundw
            case rel => exact ⟨i + 1, f, false, out, by go_num, rfl, rfl, R, hown⟩
            case measure => simp [intOf]; omega
    · have F : Hid (pieces c s.data.toList = out ++ [s.data.toList.drop f]) := relP_done hR.out (by rw [len_list]; omega)
      have hcut := cut_from s f r2 wr
      go_wp2_with (at_builtin; refine appS rfl (.tmp 49) (.tmp 53) rfl w _ _ rfl hown _ rfl rfl (by omega) ?_; intro v2 w2 hown2)
      go_ret
      refine ⟨_, rfl, ?_⟩
      rw [F.out]
      exact hown2
end Go.Proofs.YtmikgpmnffdnnaaGreatDoor
namespace Go.Proofs.YtmikgpmnffdnnaaGreatDoor
open Go.RowKit
set_option maxRecDepth 20000
theorem trimmedL (l : List UInt8) (w : World) (hl : l.length ≤ 140737488351232) :
    Calls Tryz.prog 129 #[.string ⟨l.toArray⟩] w fun e w' => e = .returned (.string ⟨(trimT l).toArray⟩) ∧ Below w.heap.size w w' :=
  trimmed ⟨l.toArray⟩ w (by show l.toArray.size ≤ _; rw [List.size_toArray]; exact hl)
theorem seg_small (s : ByteArray) (i f : Nat) (hs : s.size ≤ 4194304) : ((s.data.toList.drop f).take (i - f)).length ≤ 140737488351232 := by
  have := seg_len s.data.toList i f
  rw [len_list] at this
  omega
theorem rest_small (s : ByteArray) (f : Nat) (hs : s.size ≤ 4194304) : (s.data.toList.drop f).length ≤ 140737488351232 := by
  rw [List.length_drop, len_list]; omega
set_option maxHeartbeats 2000000 in
theorem piecesTok (s : ByteArray) (c : Int) (w : World) (hs : s.size ≤ 4194304) :
    Calls Tryz.prog 102 #[.string s, .int .u8 c] w fun e w' => ∃ v, e = .returned v ∧ OwnS w v ((pieces c s.data.toList).map trimT) w' := by
  go_enter Tryz.func102, Tryz.ntmps102
  go_wp2
  go_loopw [5, 6, 7, 8] (fun v fv qv iv wr => ∃ (i f : Nat) (q : Bool) (out : List (List UInt8)), iv = .int .i64 i ∧ fv = .int .i64 f ∧ qv = .bool q ∧ Hid (RelP c s.data.toList i f q out) ∧ OwnS w v (out.map trimT) wr) (fun _ _ _ iv _ => s.size + 2 - (intOf iv).toNat)
  case atStart => exact ⟨0, 0, false, [], rfl, rfl, rfl, relP_start _ _, ownS_nil _ _ (Below.refl _ _)⟩
  case round =>
    obtain ⟨i, f, q, out, rfl, rfl, rfl, hR, hown⟩ := hrel
    have r1 : f ≤ i := hR.out.1
    have r2 : f ≤ s.size := by have := hR.out.2.1; rwa [len_list] at this
    have r3 : i ≤ s.size + 1 := by have := hR.out.2.2.1; rwa [len_list] at this
    have r4 : (out.map trimT).length ≤ f := by rw [List.length_map]; exact hR.out.2.2.2.1
    by_cases hlt : i < s.size
    · have hb := byte_lt s[i]
      by_cases x34 : (s[i].toNat : Int) = 34
      · have R : Hid (RelP c s.data.toList (i + 1) f (!q) out) := relB_quote hR.out hlt x34
        have b34 : ((s[i].toNat : Int) == 34) = true := by simp [x34]
        clear x34
        cases q with
        | false =>
          go_wp2
          go_roundw
          case rel => exact ⟨i + 1, f, true, out, by go_num, rfl, rfl, R, hown⟩
          case measure => simp [intOf]; omega
        | true =>
          go_wp2
          go_roundw
          case rel => exact ⟨i + 1, f, false, out, by go_num, rfl, rfl, R, hown⟩
          case measure => simp [intOf]; omega
      · have b34 : ((s[i].toNat : Int) == 34) = false := by simp [x34]
        cases q with
        | true =>
          by_cases x92 : (s[i].toNat : Int) = 92
          · have R : Hid (RelP c s.data.toList (i + 2) f true out) := relB_esc hR.out hlt x92
            have b92 : ((s[i].toNat : Int) == 92) = true := by simp [x92]
            clear x34 x92
            go_wp2
            go_roundw
            case rel => exact ⟨i + 2, f, true, out, by go_num, rfl, rfl, R, hown⟩
            case measure => simp [intOf]; omega
          · have R : Hid (RelP c s.data.toList (i + 1) f true out) := relB_plain hR.out hlt x34 (by simp [x92]) (by simp)
            have b92 : ((s[i].toNat : Int) == 92) = false := by simp [x92]
            clear x34 x92
            go_wp2
            go_roundw
            case rel => exact ⟨i + 1, f, true, out, by go_num, rfl, rfl, R, hown⟩
            case measure => simp [intOf]; omega
        | false =>
          by_cases xc : (s[i].toNat : Int) = c
          · have R : Hid (RelP c s.data.toList (i + 1) (i + 1) false (out ++ [(s.data.toList.drop f).take (i - f)])) := relB_cut hR.out hlt x34 xc
            have bc : ((s[i].toNat : Int) == c) = true := by simp [xc]
            have hcut := cut_is s f i r1 (by omega) wr
            have hsm := seg_small s i f hs
            clear x34 xc
            generalize (s.data.toList.drop f).take (i - f) = p at R hcut hsm
            go_wp2_with (first
              | (go_at_call 129; refine (trimmedL p _ hsm).mono ?_; rintro e w1 ⟨rfl, hb1⟩; have hown1 := ownS_mono hown hb1; clear hown)
              | (at_builtin; refine appS rfl (.tmp 42) (.tmp 48) rfl w _ _ rfl hown1 (trimT p) rfl rfl (by omega) ?_; intro v2 w2 hown2))
            go_roundw
            case rel => exact ⟨i + 1, i + 1, false, _, by go_num, by go_num, rfl, R, by rw [List.map_append]; exact hown2⟩
            case measure => simp [intOf]; omega
          · have R : Hid (RelP c s.data.toList (i + 1) f false out) := relB_plain hR.out hlt x34 (by simp) (by simp [xc])
            have bc : ((s[i].toNat : Int) == c) = false := by simp [xc]
            clear x34 xc
            go_wp2
            go_roundw
            case rel => exact ⟨i + 1, f, false, out, by go_num, rfl, rfl, R, hown⟩
            case measure => simp [intOf]; omega
    · have F : Hid (pieces c s.data.toList = out ++ [s.data.toList.drop f]) := relP_done hR.out (by rw [len_list]; omega)
      have hcut := cut_from s f r2 wr
      have hsm := rest_small s f hs
      generalize s.data.toList.drop f = p at F hcut hsm
      go_wp2_with (first
        | (go_at_call 129; refine (trimmedL p _ hsm).mono ?_; rintro e w1 ⟨rfl, hb1⟩; have hown1 := ownS_mono hown hb1; clear hown)
        | (at_builtin; refine appS rfl (.tmp 52) (.tmp 57) rfl w _ _ rfl hown1 (trimT p) rfl rfl (by omega) ?_; intro v2 w2 hown2))
      go_ret
      refine ⟨_, rfl, ?_⟩
      rw [F.out, List.map_append]
      exact hown2
end Go.Proofs.YtmikgpmnffdnnaaGreatDoor
namespace Go.Proofs.YtmikgpmnffdnnaaGreatDoor
open Go.RowKit
end Go.Proofs.YtmikgpmnffdnnaaGreatDoor
namespace Go.Proofs.YtmikgpmnffdnnaaGreatDoor
open Go.RowKit
set_option maxRecDepth 20000
def filt (ps : List (List UInt8)) : List (List UInt8) := ps.filter (fun l => !l.isEmpty)
def listOf (L : List UInt8) : List (List UInt8) := filt ((pieces 44 L).map trimT)
theorem filt_snoc_nil (ps : List (List UInt8)) (p : List UInt8) (h : p.isEmpty = true) : filt (ps ++ [p]) = filt ps := by simp [filt, h]
theorem filt_snoc_some (ps : List (List UInt8)) (p : List UInt8) (h : p.isEmpty = false) : filt (ps ++ [p]) = filt ps ++ [p] := by simp [filt, h]
theorem filt_len (ps : List (List UInt8)) : (filt ps).length ≤ ps.length := List.length_filter_le _ _
theorem pcs_ne (c : Int) : ∀ (n : Nat) (q : Bool) (cur L : List UInt8), L.length ≤ n → pcs c q cur L ≠ [] := by
  intro n q cur L h e
  have : ∀ (n : Nat) (q : Bool) (cur L : List UInt8), L.length ≤ n → 0 < (pcs c q cur L).length := by
    intro n
    induction n with
    | zero =>
      intro q cur L h
      obtain rfl : L = [] := List.eq_nil_of_length_eq_zero (by omega)
      simp [pcs]
    | succ n ih =>
      intro q cur L h
      match L, h with
      | [], _ => simp [pcs]
      | [x], _ =>
        rw [pcs]
        split
        · simp
        · split
          · simp
          · split <;> simp
      | x :: y :: r, h =>
        have h1 : (y :: r).length ≤ n := by simp at h ⊢; omega
        have h2 : r.length ≤ n := by simp at h; omega
        rw [pcs]
        split
        · exact ih _ _ _ h1
        · split
          · exact ih _ _ _ h2
          · split
            · simp
            · exact ih _ _ _ h1
  have h3 := this n q cur L h
  rw [e] at h3
  simp at h3
theorem pieces_ne (c : Int) (L : List UInt8) : pieces c L ≠ [] := pcs_ne c L.length false [] L (Nat.le_refl _)
theorem cloneL (l : List UInt8) (w : World) (hl : l.length ≤ 140737488351232) :
    Calls Tryz.prog 87 #[.string ⟨l.toArray⟩] w fun e w' => e = .returned (.string ⟨l.toArray⟩) ∧ Below w.heap.size w w' :=
  clone ⟨l.toArray⟩ w (by show l.toArray.size ≤ _; rw [List.size_toArray]; exact hl)
theorem trimRefL (l : List UInt8) (w : World) (hl : l.length ≤ 140737488351232) :
    Calls Tryz.prog 122 #[.string ⟨l.toArray⟩] w fun e w' => e = .returned (.string ⟨(trimT l).toArray⟩) ∧ w' = w :=
  trimRef ⟨l.toArray⟩ w (by show l.toArray.size ≤ _; rw [List.size_toArray]; exact hl)
set_option maxHeartbeats 2000000 in
theorem listTok (s : ByteArray) (w : World) (hs : s.size ≤ 4194304) :
    Calls Tryz.prog 72 #[.string s] w fun e w' => ∃ v, e = .returned v ∧ OwnS w v (listOf s.data.toList) w' := by
  have L : Hid (listOf s.data.toList = filt ((pieces 44 s.data.toList).map trimT)) := rfl
  have hc := piecesTok s 44 w hs
  have hn : ((pieces 44 s.data.toList).map trimT).length ≤ 4194305 := by rw [List.length_map]; have := pieces_len 44 s.data.toList; rw [len_list] at this; omega
  have hm : Hid (∀ p ∈ (pieces 44 s.data.toList).map trimT, p.length ≤ 140737488351232) := by
    intro p hp
    obtain ⟨p0, h0, rfl⟩ := List.mem_map.1 hp
    have h1 := pieces_mem 44 _ _ h0
    have h2 := trimT_len p0
    rw [len_list] at h1
    omega
  have hne : Hid ((pieces 44 s.data.toList).map trimT ≠ []) := by intro e; exact pieces_ne 44 s.data.toList (List.map_eq_nil_iff.1 e)
  generalize (pieces 44 s.data.toList).map trimT = ps at L hc hn hm hne
  go_enter Tryz.func72, Tryz.ntmps72
  go_wp2_with fail
  refine hc.mono ?_
  rintro e w1 ⟨v, rfl, hown⟩
  obtain ⟨ao, cap, hv, hcell⟩ := holds_own hown
  obtain ⟨b, off, hao, hblt, hcells⟩ := hcell hne.out
  have C : Hid _ := hcells
  have B1 : Hid (Below w.heap.size w w1) := hown.2
  rw [hv, hao]
  clear hcell hcells hc hown hv hao
  obtain ⟨n, en⟩ : ∃ n, n = ps.length := ⟨_, rfl⟩
  have N : Hid (ps.length = n) := en.symm
  rw [N.out]
  rw [N.out] at hn
  clear en
  go_wp2_with fail
  go_loopw [3, 9] (fun v i wr => ∃ k : Nat, k ≤ n ∧ i = .int .i64 k ∧ OwnS w1 v (filt (ps.take k)) wr) (fun _ i _ => n - (intOf i).toNat)
  case atStart => exact ⟨0, by omega, rfl, ownS_nil _ _ (Below.refl _ _)⟩
  case round =>
    obtain ⟨k, hk, rfl, ho⟩ := hrel
    by_cases hlt : k < n
    · have G : Hid (k < ps.length) := by unfold Hid; rw [N.out]; exact hlt
      have ck : wr.cell? ⟨b, off + k, none⟩ = some (.string ⟨(ps[k]'G.out).toArray⟩) := (ho.2.cell (p := ⟨b, off + k, none⟩) hblt).trans (C.out k G.out)
      have hl2 : (filt (ps.take k)).length ≤ k := Nat.le_trans (filt_len _) (List.length_take_le _ _)
      have T : Hid (ps.take (k + 1) = ps.take k ++ [ps[k]'G.out]) := List.take_succ_eq_append_getElem G.out
      have hpm := hm.out _ (List.getElem_mem G.out)
      generalize ps[k]'G.out = p at ck T hpm
      cases he : p.isEmpty with
      | true =>
        have F : Hid (filt (ps.take (k + 1)) = filt (ps.take k)) := by unfold Hid; rw [T.out, filt_snoc_nil _ _ he]
        go_wp2_with fail
        go_roundw
        case rel => exact ⟨k + 1, by omega, by go_num, by rw [F.out]; exact ho⟩
        case measure => simp [intOf]; omega
      | false =>
        have F : Hid (filt (ps.take (k + 1)) = filt (ps.take k) ++ [p]) := by unfold Hid; rw [T.out, filt_snoc_some _ _ he]
        go_wp2_with (first
          | (go_at_call 87; refine (cloneL p _ hpm).mono ?_; rintro e w2 ⟨rfl, hb2⟩; have ho1 := ownS_mono ho hb2; clear ho)
          | (at_builtin; refine appS rfl (.tmp 15) (.tmp 18) rfl w1 _ _ rfl ho1 p rfl rfl (by omega) ?_; intro v3 w3 ho3))
        go_roundw
        case rel => exact ⟨k + 1, by omega, by go_num, by rw [F.out]; exact ho3⟩
        case measure => simp [intOf]; omega
    · have F : Hid (ps.take k = ps) := List.take_of_length_le (by rw [N.out]; omega)
      go_wp2_with fail
      go_ret
      refine ⟨_, rfl, ?_⟩
      rw [L.out, ← F.out]
      exact ownS_base ho B1.out
set_option maxHeartbeats 2000000 in
theorem listRef (s : ByteArray) (w : World) (hs : s.size ≤ 4194304) :
    Calls Tryz.prog 95 #[.string s] w fun e w' => ∃ v, e = .returned v ∧ OwnS w v (listOf s.data.toList) w' := by
  have L : Hid (listOf s.data.toList = filt ((pieces 44 s.data.toList).map trimT)) := rfl
  have hc := piecesRef s 44 w hs
  have hn : (pieces 44 s.data.toList).length ≤ 4194305 := by have := pieces_len 44 s.data.toList; rw [len_list] at this; omega
  have hm : Hid (∀ p ∈ pieces 44 s.data.toList, p.length ≤ 140737488351232) := by
    intro p hp
    have h1 := pieces_mem 44 _ _ hp
    rw [len_list] at h1
    omega
  have hne : Hid (pieces 44 s.data.toList ≠ []) := pieces_ne 44 s.data.toList
  generalize pieces 44 s.data.toList = ps at L hc hn hm hne
  go_enter Tryz.func95, Tryz.ntmps95
  go_wp2_with fail
  refine hc.mono ?_
  rintro e w1 ⟨v, rfl, hown⟩
  obtain ⟨ao, cap, hv, hcell⟩ := holds_own hown
  obtain ⟨b, off, hao, hblt, hcells⟩ := hcell hne.out
  have C : Hid _ := hcells
  have B1 : Hid (Below w.heap.size w w1) := hown.2
  rw [hv, hao]
  clear hcell hcells hc hown hv hao
  obtain ⟨n, en⟩ : ∃ n, n = ps.length := ⟨_, rfl⟩
  have N : Hid (ps.length = n) := en.symm
  rw [N.out]
  rw [N.out] at hn
  clear en
  go_wp2_with fail
  go_loopw [4, 5] (fun v i wr => ∃ k : Nat, k ≤ n ∧ i = .int .i64 k ∧ OwnS w1 v (filt ((ps.take k).map trimT)) wr) (fun _ i _ => n - (intOf i).toNat)
  case atStart => exact ⟨0, by omega, rfl, ownS_empty _⟩
  case round =>
    obtain ⟨k, hk, rfl, ho⟩ := hrel
    by_cases hlt : k < n
    · have G : Hid (k < ps.length) := by unfold Hid; rw [N.out]; exact hlt
      have ck : wr.cell? ⟨b, off + k, none⟩ = some (.string ⟨(ps[k]'G.out).toArray⟩) := (ho.2.cell (p := ⟨b, off + k, none⟩) hblt).trans (C.out k G.out)
      have hl2 : (filt ((ps.take k).map trimT)).length ≤ k := Nat.le_trans (filt_len _) (by rw [List.length_map]; exact List.length_take_le _ _)
      have T : Hid ((ps.take (k + 1)).map trimT = (ps.take k).map trimT ++ [trimT (ps[k]'G.out)]) := by unfold Hid; rw [List.take_succ_eq_append_getElem G.out, List.map_append]; rfl
      have hpm := hm.out _ (List.getElem_mem G.out)
      generalize ps[k]'G.out = p at ck T hpm
      cases he : (trimT p).isEmpty with
      | true =>
        have F : Hid (filt ((ps.take (k + 1)).map trimT) = filt ((ps.take k).map trimT)) := by unfold Hid; rw [T.out, filt_snoc_nil _ _ he]
        go_wp2_with (go_at_call 122; refine (trimRefL p _ hpm).mono ?_; rintro e w2 ⟨rfl, rfl⟩)
        go_roundw
        case rel => exact ⟨k + 1, by omega, by go_num, by rw [F.out]; exact ho⟩
        case measure => simp [intOf]; omega
      | false =>
        have F : Hid (filt ((ps.take (k + 1)).map trimT) = filt ((ps.take k).map trimT) ++ [trimT p]) := by unfold Hid; rw [T.out, filt_snoc_some _ _ he]
        go_wp2_with (first
          | (go_at_call 122; refine (trimRefL p _ hpm).mono ?_; rintro e w2 ⟨rfl, rfl⟩)
          | (at_builtin; refine appS rfl (.tmp 23) (.tmp 25) rfl w1 _ _ rfl ho (trimT p) rfl rfl (by omega) ?_; intro v3 w3 ho3))
        go_roundw
        case rel => exact ⟨k + 1, by omega, by go_num, by rw [F.out]; exact ho3⟩
        case measure => simp [intOf]; omega
    · have F : Hid (ps.take k = ps) := List.take_of_length_le (by rw [N.out]; omega)
      go_wp2_with fail
      go_ret
      refine ⟨_, rfl, ?_⟩
      rw [L.out, ← F.out]
      exact ownS_base ho B1.out
theorem trim_both (l : List UInt8) (a b : UInt8) (m : List UInt8) (h : l = a :: m) (m' : List UInt8) (h' : l = m' ++ [b]) (ha : blankI (a.toNat : Int) = false) (hb : blankI (b.toNat : Int) = false) : trimT l = l := by
  unfold trimT Lib.trimS
  have hr : Lib.trimRightS l [32, 9] = l := by
    rw [Lib.trimRightS_take l [32, 9] l.length (Nat.le_refl _) (fun j x hj hx => by rw [List.getElem?_eq_none hj] at hx; cases hx) (fun x _ hx => by
      rw [h'] at hx; simp at hx; subst hx; rw [blank_is]; exact hb), List.take_length]
  rw [hr, Lib.trimLeftS_drop l [32, 9] 0 (Nat.zero_le _) (fun j x hj => absurd hj (Nat.not_lt_zero _)) (fun x hx => by
    rw [h] at hx; simp at hx; subst hx; rw [blank_is]; exact ha), List.drop_zero]
end Go.Proofs.YtmikgpmnffdnnaaGreatDoor
namespace Go.Proofs.YtmikgpmnffdnnaaGreatDoor
open Go.RowKit
theorem bulk_vals (fs : FL) (n : List UInt8) : bulkT (valsOf fs n) ≤ bulkF fs := by
  induction fs with
  | nil => simp [valsOf, bulkT]
  | cons f r ih =>
    unfold valsOf at ih ⊢
    simp only [bulkF, List.filter_cons]
    split
    · simp only [List.map_cons, bulkT]; omega
    · omega
theorem bulkT_take (vs : List (List UInt8)) : ∀ k, bulkT (vs.take k) ≤ bulkT vs := by
  induction vs with
  | nil => intro k; simp
  | cons v r ih =>
    intro k
    cases k with
    | zero => simp [bulkT]
    | succ k => have := ih k; simp only [List.take_succ_cons, bulkT]; omega
def toksOf (vs : List (List UInt8)) : List (List UInt8) := (vs.flatMap listOf).map lows
theorem toks_next (vs : List (List UInt8)) (k : Nat) (h : k < vs.length) : toksOf (vs.take (k + 1)) = toksOf (vs.take k) ++ (listOf vs[k]).map lows := by
  unfold toksOf
  rw [List.take_succ_eq_append_getElem h, List.flatMap_append, List.map_append]
  simp
theorem listOf_len (l : List UInt8) : (listOf l).length ≤ l.length + 1 := by
  have h1 := filt_len ((pieces 44 l).map trimT)
  have h2 := pieces_len 44 l
  rw [List.length_map] at h1
  unfold listOf
  omega
theorem toks_len (vs : List (List UInt8)) : (toksOf vs).length ≤ bulkT vs := by
  induction vs with
  | nil => simp [toksOf, bulkT]
  | cons v r ih =>
    unfold toksOf at ih ⊢
    rw [List.length_map] at ih ⊢
    rw [List.flatMap_cons, List.length_append]
    have := listOf_len v
    simp only [bulkT]
    omega
theorem listOf_mem (l p : List UInt8) (h : p ∈ listOf l) : p.length ≤ l.length := by
  unfold listOf filt at h
  obtain ⟨h, _⟩ := List.mem_filter.1 h
  obtain ⟨q, hq, rfl⟩ := List.mem_map.1 h
  have h1 := pieces_mem 44 _ _ hq
  have h2 := trimT_len q
  omega
end Go.Proofs.YtmikgpmnffdnnaaGreatDoor
namespace Go.Proofs.YtmikgpmnffdnnaaGreatDoor
open Go.RowKit
theorem Tryz.Builder_Extra_156 : Builder.Extra Tryz.prog Tryz.lays156_ren where
  sizeBuilder := by kernel_rfl
  liesBuilder := by kernel_rfl
  t5 := Tryz.underlying5
  a5 := Tryz.isAgg5
  z5 := Tryz.sizeOf5
  v5 := Tryz.zeroValue5
  infoByte := by kernel_rfl
  cellsByte := by kernel_rfl
  sizeByte := by kernel_rfl
  neB5 := by decide
def joinOf (vs : List (List UInt8)) : List UInt8 := Lib.join vs [44, 32]
theorem tail_len (r : List (List UInt8)) : (Lib.joinTail [44, 32] r).length ≤ 2 * bulkT r := by
  induction r with
  | nil => simp [Lib.joinTail]
  | cons x r ih =>
    have e : Lib.joinTail [44, 32] (x :: r) = [44, 32] ++ x ++ Lib.joinTail [44, 32] r := by simp [Lib.joinTail]
    rw [e]
    simp only [List.length_append, List.length_cons, List.length_nil, bulkT]
    omega
theorem join_len (vs : List (List UInt8)) : (joinOf vs).length ≤ 2 * bulkT vs := by
  cases vs with
  | nil => simp [joinOf, Lib.join_nil]
  | cons x r =>
    unfold joinOf
    rw [Lib.join_cons, List.length_append]
    have := tail_len r
    simp only [bulkT]
    omega
theorem join_zero (vs : List (List UInt8)) : joinOf (vs.take 0) = [] := by simp [joinOf, Lib.join_nil]
theorem join_first (vs : List (List UInt8)) (h : 0 < vs.length) : joinOf (vs.take 1) = vs[0] := by
  cases vs with
  | nil => simp at h
  | cons x r => simp [joinOf, Lib.join_one]
theorem join_next (vs : List (List UInt8)) (k : Nat) (h : k < vs.length) (hk : 0 < k) : joinOf (vs.take (k + 1)) = joinOf (vs.take k) ++ [44, 32] ++ vs[k] := by
  cases vs with
  | nil => simp at h
  | cons x r =>
    obtain ⟨m, rfl⟩ : ∃ m, k = m + 1 := ⟨k - 1, by omega⟩
    unfold joinOf
    rw [List.take_succ_cons, List.take_succ_cons, Lib.join_cons, Lib.join_cons, Lib.joinTail_take_succ [44, 32] r m (r[m]'(by simpa using h)) (List.getElem?_eq_getElem _)]
    simp
theorem ba_of {s : ByteArray} {l : List UInt8} (h : s.data.toList = l) : s = ⟨l.toArray⟩ := by cases s; simp at h; simp [← h]
theorem joinC (w1 wr : World) (F : List (List UInt8)) (u : Value) (hown : OwnS w1 u F wr) (hlen : bulkT F ≤ 1048576) :
    Calls Tryz.prog 119 #[u, .string ⟨#[44, 32]⟩] wr fun e w' => e = .returned (.string ⟨(joinOf F).toArray⟩) ∧ Below wr.heap.size wr w' := by
  have hF := bulkT_len F
  have hj := join_len F
  have em : (F.map (fun l => (⟨l.toArray⟩ : ByteArray))).map (·.data.toList) = F := by
    rw [List.map_map]
    conv => rhs; rw [← List.map_id F]
    exact List.map_congr_left (fun l _ => by simp)
  obtain ⟨hl, h1 | ⟨g, cap, cur, rfl, hg, hh, hr⟩⟩ := hown.1
  · obtain ⟨rfl, hn⟩ := h1
    obtain rfl : F = [] := List.eq_nil_of_length_eq_zero hn
    refine (Any.strings_Join_none Tryz.lays156 Tryz.Builder_Extra_156 none 0 ⟨#[44, 32]⟩ wr).mono ?_
    rintro e w' ⟨rfl, rfl⟩
    exact ⟨rfl, Below.refl _ _⟩
  · have hlt := hown.1.lt g rfl
    have c := Any.strings_Join Tryz.lays156 Tryz.Builder_Extra_156 g 0 cap (F.map (fun l => (⟨l.toArray⟩ : ByteArray))) ⟨#[44, 32]⟩ wr (by
      intro j x hx
      have h2 : j < F.length := by
        have := (List.getElem?_eq_some_iff.1 hx).1
        simpa using this
      rw [Nat.zero_add, hown.1.cellAt j (by omega)]
      rw [List.getElem?_map, List.getElem?_eq_getElem h2] at hx ⊢
      simp only [Option.map_some, Option.some.injEq] at hx ⊢
      rw [← hx]; rfl) hlt.2 (by rw [List.length_map]; omega) (by rw [List.length_map]; exact hr.1) (by rw [em]; show (joinOf F).length ≤ _; omega)
    rw [em, List.length_map] at c
    exact c
set_option maxHeartbeats 1000000 in
theorem getTok (v : Value) (fs : FL) (nm : List UInt8) (w : World) (hv : HoldsF w v fs) (hb : bulkF fs ≤ 1048576) (hn : nm.length ≤ 1048576) :
    Calls Tryz.prog 88 #[v, .string ⟨nm.toArray⟩] w fun e w' => e = .returned (.tuple #[.string ⟨(joinOf (valsOf fs nm)).toArray⟩, .bool (decide (0 < (valsOf fs nm).length))]) ∧ Below w.heap.size w w' := by
  have hfl := bulkF_len fs
  have cV := hide' (valuesTok v fs nm w hv (fun f hf => by have := bulkF_mem fs f hf; omega) (by omega) (by omega))
  have hbv := bulk_vals fs nm
  have hlv := bulkT_len (valsOf fs nm)
  clear hv
  generalize valsOf fs nm = vs at cV hbv hlv ⊢
  obtain ⟨jv, ej⟩ : ∃ jv, jv = joinOf vs := ⟨_, rfl⟩
  have EJ := hide' ej
  rw [← ej]
  clear ej
  go_enter Tryz.func88, Tryz.ntmps88
  go_wp2_with fail
  refine cV.out.mono ?_
  rintro e w1 ⟨u, rfl, ho⟩
  have cJ := hide' (joinC w w1 vs u ho (by omega))
  obtain ⟨ao, ca, b, o, hu, _⟩ := holds_parts (holds_own ho)
  have B1 := hide' ho.2
  rw [hu] at cJ ⊢
  clear ho cV hu
  rw [← EJ.out] at cJ
  go_wp2_with fail
  refine cJ.out.mono ?_
  rintro e w2 ⟨rfl, b2⟩
  have B2 := hide' (bt' B1.out b2)
  clear b2 cJ B1
  go_wp2_with fail
  go_ret2
  exact ⟨rfl, B2.out⟩
end Go.Proofs.YtmikgpmnffdnnaaGreatDoor
namespace Go.Proofs.YtmikgpmnffdnnaaGreatDoor
open Go.RowKit
/-- one text more, and what lies in other blocks stays -/
theorem appSx {ops : Array Oper} {rest : List Oper} {o : Oper} {a : Act} {Q : Exit → Act → World → Prop} {wr : World} {t : ByteArray} (hgd : o.guard = none) (s x : Operand)
    (ho : o.op = .call { callee := .builtin .append, args := #[s, x], argTypes := #[73, 73] }) (w0 : World) (v : Value) (ss : List (List UInt8)) (hs : a.eval s = v) (hown : OwnS w0 v ss wr)
    (l : List UInt8) (ht : t = ⟨l.toArray⟩) (hx : a.eval x = .slice (some ⟨wr.heap.size, 0, none⟩) 1 1) (hlen : (ss.length + 1) * 16 ≤ 140737488355328)
    (h : ∀ v' w', OwnS w0 v' (ss ++ [l]) w' → (∀ g, g < wr.heap.size → v.ownBlock ≠ some g → v'.ownBlock ≠ some g ∧ g < w'.heap.size ∧ ∀ o, w'.cell? ⟨g, o, none⟩ = wr.cell? ⟨g, o, none⟩) → wpList Tryz.prog ops Q rest (a.put o.dst v') w') : wpList Tryz.prog ops Q (o :: rest) a (wr.alloc (.cells #[.string t] 9)) := by
  subst ht
  obtain ⟨i0, hi, hz0, hz1, hz2⟩ := info_parts Tryz.info9
  have hsz := hown.2.size
  refine wpList_append_own_at _ hgd s x 73 ho w0.heap.size 9 i0 (.string ⟨#[]⟩) 1 16 Tryz.underlying73 hi hz0 hz1 hz2 rfl (by decide) v ss.length (ss.map S) hs (hown.1.alloc _) ⟨wr.heap.size, 0, none⟩ 1 1 [S l] hx rfl ?_ ?_ ?_ ?_ ?_ ?_
  · intro j u hj
    match j, hj with
    | 0, hj => simp at hj; subst hj; simp [Addr.add, S]
  · intro u hu; simp at hu; subst hu; rfl
  · unfold maxLen; omega
  · omega
  · simp; omega
  · intro v' w' h1 h2 _ h4
    refine h v' w' ⟨by simpa using h1, ?_⟩ ?_
    · refine Below.grown (hown.2.alloc (by omega) _) h2 (by simp; omega) ?_
      intro k hk
      exact (hown.1.lt k hk).1
    · intro g hg hne
      have hs2 := h2.size
      refine ⟨?_, ?_, fun o => ?_⟩
      · rcases h4 with h4 | h4
        · rw [h4]; exact hne
        · rw [h4]; intro e; simp at e; omega
      · simp at hs2; omega
      · have hb : w'.heap[g]? = (wr.alloc (.cells #[.string ⟨l.toArray⟩] 9)).heap[g]? := h2.block g (by simp; omega) (fun e => hne e.symm)
        have : w'.cell? ⟨g, o, none⟩ = (wr.alloc (.cells #[.string ⟨l.toArray⟩] 9)).cell? ⟨g, o, none⟩ := by unfold World.cell?; rw [hb]
        rw [this, (below_alloc' wr _).cell (p := ⟨g, o, none⟩) hg]
/-- what the inner loop keeps of the elements' list -/
def Els (el : List (List UInt8)) (b o : Nat) (v : Value) (w : World) : Prop := 0 < el.length → v.ownBlock ≠ some b ∧ b < w.heap.size ∧ ∀ j (h : j < el.length), w.cell? ⟨b, o + j, none⟩ = some (S el[j])
theorem els_below {el : List (List UInt8)} {b o : Nat} {v : Value} {w w' : World} (h : Els el b o v w) (hb : Below w.heap.size w w') : Els el b o v w' := by
  intro hp
  obtain ⟨h1, h2, h3⟩ := h hp
  have := hb.size
  exact ⟨h1, by omega, fun j hj => by rw [hb.cell (p := ⟨b, o + j, none⟩) h2]; exact h3 j hj⟩
theorem els_app {el : List (List UInt8)} {b o : Nat} {v v' : Value} {w w' : World} (h : Els el b o v w) (hx : ∀ g, g < w.heap.size → v.ownBlock ≠ some g → v'.ownBlock ≠ some g ∧ g < w'.heap.size ∧ ∀ o, w'.cell? ⟨g, o, none⟩ = w.cell? ⟨g, o, none⟩) : Els el b o v' w' := by
  intro hp
  obtain ⟨h1, h2, h3⟩ := h hp
  obtain ⟨k1, k2, k3⟩ := hx b h2 h1
  exact ⟨k1, k2, fun j hj => by rw [k3]; exact h3 j hj⟩
theorem els_start {w0 w w' : World} {vo u : Value} {acc el : List (List UInt8)} (hacc : OwnS w0 vo acc w) (hel : OwnS w u el w') : ∃ ao ca b o, u = .slice ao el.length ca ∧ (0 < el.length → ao = some ⟨b, o, none⟩) ∧ Els el b o vo w' := by
  obtain ⟨hl, h1 | ⟨g, cap, cur, rfl, hg, hh, hr⟩⟩ := hel.1
  · obtain ⟨rfl, hn⟩ := h1
    exact ⟨none, 0, 0, 0, by rw [hn], fun h => absurd h (by omega), fun h => absurd h (by omega)⟩
  · refine ⟨_, cap, g, 0, rfl, fun _ => rfl, fun hp => ⟨?_, (hel.1.lt g rfl).2, fun j hj => ?_⟩⟩
    · intro e
      have := (hacc.1.lt g e).2
      omega
    · rw [Nat.zero_add, hel.1.cellAt j (by omega)]
      simp [hj]
/-- the values' list stays while texts are appended -/
abbrev Cells (_w1 : World) (vs : List (List UInt8)) (b o : Nat) (v : Value) (w : World) : Prop := Els vs b o v w
set_option maxHeartbeats 4000000 in
theorem tokensTok (v : Value) (fs : FL) (nm : List UInt8) (w : World) (hv : HoldsF w v fs) (hb : bulkF fs ≤ 1048576) (hn : nm.length ≤ 1048576) :
    Calls Tryz.prog 43 #[v, .string ⟨nm.toArray⟩] w fun e w' => ∃ u, e = .returned u ∧ OwnS w u (toksOf (valsOf fs nm)) w' := by
  have hfl := bulkF_len fs
  have cV := hide' (fun W (hb : Below w.heap.size w W) => valuesTok v fs nm W (holdsF_mono hv hb) (fun f hf => by have := bulkF_mem fs f hf; omega) (by omega) (by omega))
  have hbv := bulk_vals fs nm
  clear hv
  generalize valsOf fs nm = vs at cV hbv ⊢
  have hlv := bulkT_len vs
  have MM : Hid _ := bulkT_mem vs
  have TL : Hid (∀ k, (toksOf (vs.take k)).length ≤ 1048576) := fun k => by
    have h1 := toks_len (vs.take k)
    have h2 := bulkT_take vs k
    omega
  go_enter Tryz.func43, Tryz.ntmps43
  go_wp2_with fail
  refine (cV.out _ (Below.refl _ _)).mono ?_
  rintro e w1 ⟨u, rfl, ho⟩
  have O1 := hide' (ownS_nil w1 w1 (Below.refl _ _))
  obtain ⟨ao, ca, b, o, hu, hc⟩ := holds_parts (holds_own ho)
  have B1 := hide' (bt' (Below.refl _ _) ho.2)
  have C := hide' hc
  rw [hu]
  clear ho cV hu hc
  obtain ⟨n, en⟩ : ∃ n, n = vs.length := ⟨_, rfl⟩
  have N : Hid (vs.length = n) := en.symm
  rw [N.out] at hlv ⊢
  clear en
  go_wp2_with fail
  go_loopw [5, 14] (fun v i wr => ∃ (vo : Value) (k : Nat), vo = v ∧ k ≤ n ∧ i = .int .i64 k ∧ OwnS w1 vo (toksOf (vs.take k)) wr ∧ Hid (Cells w1 vs b o vo wr)) (fun _ i _ => n - (intOf i).toNat)
  case atStart => exact ⟨_, 0, rfl, Nat.zero_le _, rfl, O1.out, fun hp => ⟨by simp [Value.ownBlock], (C.out hp).2⟩⟩
  case round =>
    obtain ⟨vo, k, rfl, hk, rfl, ho, HC⟩ := hrel
    obtain ⟨w2, ew⟩ : ∃ w2, w2 = wr := ⟨_, rfl⟩
    subst ew
    have tl := TL.out k
    by_cases hlt : k < n
    · have G : Hid (k < vs.length) := by unfold Hid; rw [N.out]; exact hlt
      have hao := (C.out (by have := G.out; omega)).1
      subst hao
      have ck := (HC.out (by have := G.out; omega)).2.2 k G.out
      unfold S at ck
      have hx := MM.out _ (List.getElem_mem G.out)
      have cL := hide' (fun W => listTok ⟨(vs[k]'G.out).toArray⟩ W (by rw [size_l]; omega))
      have tl2 := TL.out (k + 1)
      have R := hide' (toks_next vs k G.out)
      have LM := hide' (fun p hp => listOf_mem (vs[k]'G.out) p hp)
      simp only at cL
      rw [R.out, List.length_append, List.length_map] at tl2
      generalize vs[k]'G.out = q at ck hx cL tl2 R LM
      generalize toksOf (vs.take k) = acc at ho tl tl2 R
      generalize listOf q = el at cL tl2 R LM
      go_wp2_with fail
      refine (cL.out _).mono ?_
      rintro e w3 ⟨u3, rfl, ho3⟩
      obtain ⟨a3, c3, b3, o3, hu3, ha3, HE⟩ := els_start ho ho3
      have E3 := hide' HE
      have A3 := hide' ha3
      have O3 := hide' (ownS_mono ho ho3.2)
      have C3 := hide' (els_below HC.out ho3.2)
      rw [hu3]
      clear ho3 ho hu3 ha3 HE cL ck HC
      obtain ⟨m, em⟩ : ∃ m, m = el.length := ⟨_, rfl⟩
      have M : Hid (el.length = m) := em.symm
      rw [M.out] at tl2 ⊢
      clear em
      go_wp2_with fail
      go_loopw [5, 21] (fun v i wr => ∃ (vi : Value) (j : Nat), vi = v ∧ j ≤ m ∧ i = .int .i64 j ∧ OwnS w1 vi (acc ++ (el.take j).map lows) wr ∧ Hid (Els el b3 o3 vi wr) ∧ Hid (Cells w1 vs b o vi wr)) (fun _ i _ => m - (intOf i).toNat)
      case atStart => exact ⟨_, 0, rfl, Nat.zero_le _, rfl, by simpa using O3.out, E3, C3⟩
      case round =>
        clear E3 O3 C3
        obtain ⟨vi, j, rfl, hj, rfl, ho, E3, C3⟩ := hrel
        by_cases hjt : j < m
        · have G2 : Hid (j < el.length) := by unfold Hid; rw [M.out]; exact hjt
          have ha := A3.out (by have := G2.out; omega)
          subst ha
          have cj := (E3.out (by have := G2.out; omega)).2.2 j G2.out
          unfold S at cj
          have hy := LM.out _ (List.getElem_mem G2.out)
          have cF := fun W => foldTok ⟨(el[j]'G2.out).toArray⟩ W (by rw [size_l]; omega)
          simp only at cF
          have CF := hide' cF
          have R2 : Hid (acc ++ (el.take (j + 1)).map lows = (acc ++ (el.take j).map lows) ++ [lows (el[j]'G2.out)]) := by
            unfold Hid; rw [List.take_succ_eq_append_getElem G2.out, List.map_append, List.append_assoc]; rfl
          have al : (acc ++ (el.take j).map lows).length ≤ 1048576 := by
            rw [List.length_append, List.length_map, List.length_take]; have := M.out; omega
          clear cF
          generalize el[j]'G2.out = p at cj CF hy R2
          generalize acc ++ (el.take j).map lows = acc2 at ho al R2
          go_wp2_with (first
            | (go_at_call 73; refine (CF.out _).mono ?_; rintro e w5 ⟨rfl, hb5⟩; have ho5 := ownS_mono ho hb5; have E5 := hide' (els_below E3.out hb5); have C5 := hide' (els_below C3.out hb5); clear ho hb5 cj)
            | (at_builtin; refine appSx rfl (.tmp 25) (.tmp 28) rfl w1 _ _ rfl ho5 (lows p) rfl rfl (by omega) ?_; intro v6 w6 ho6 hx6))
          have E6 := hide' (els_app E5.out hx6)
          have C6 := hide' (els_app C5.out hx6)
          clear hx6 E5 C5
          go_roundw
          case rel => exact ⟨_, j + 1, rfl, by omega, by go_num, by rw [R2.out]; exact ho6, E6, C6⟩
          case measure => simp [intOf]; omega
        · have E : Hid (el.take j = el) := List.take_of_length_le (by rw [M.out]; omega)
          rw [E.out] at ho
          go_wp2_with fail
          go_roundw
          case rel => exact ⟨_, k + 1, rfl, by omega, by go_num, by rw [R.out]; exact ho, C3⟩
          case measure => simp [intOf]; omega
    · have E2 : Hid (vs.take k = vs) := List.take_of_length_le (by rw [N.out]; omega)
      rw [E2.out] at ho
      go_wp2_with fail
      go_ret
      exact ⟨_, rfl, ownS_base ho B1.out⟩
set_option maxHeartbeats 4000000 in
theorem tokensRef (v : Value) (fs : FL) (nm : List UInt8) (w : World) (hv : HoldsF w v fs) (hb : bulkF fs ≤ 1048576) (hn : nm.length ≤ 1048576) :
    Calls Tryz.prog 74 #[v, .string ⟨nm.toArray⟩] w fun e w' => ∃ u, e = .returned u ∧ OwnS w u (toksOf (valsOf fs nm)) w' := by
  have hfl := bulkF_len fs
  have cV := hide' (fun W (hb : Below w.heap.size w W) => valuesRef v fs nm W (holdsF_mono hv hb) (fun f hf => by have := bulkF_mem fs f hf; omega) (by omega) (by omega))
  have hbv := bulk_vals fs nm
  clear hv
  generalize valsOf fs nm = vs at cV hbv ⊢
  have hlv := bulkT_len vs
  have MM : Hid _ := bulkT_mem vs
  have TL : Hid (∀ k, (toksOf (vs.take k)).length ≤ 1048576) := fun k => by
    have h1 := toks_len (vs.take k)
    have h2 := bulkT_take vs k
    omega
  go_enter Tryz.func74, Tryz.ntmps74
  go_wp2_with fail
  refine (cV.out _ (below_alloc' w (.cells #[] 9))).mono ?_
  rintro e w1 ⟨u, rfl, ho⟩
  have O1 := hide' (ownS_mono (ownS_empty w) ho.2)
  obtain ⟨ao, ca, b, o, hu, hao0, HE0⟩ := els_start (ownS_empty w) ho
  have hc := hao0
  have B1 := hide' (bt' (below_alloc' w (.cells #[] 9)) ho.2)
  have C := hide' hc
  have HE1 := hide' HE0
  clear HE0 hao0
  rw [hu]
  clear ho cV hu hc
  obtain ⟨n, en⟩ : ∃ n, n = vs.length := ⟨_, rfl⟩
  have N : Hid (vs.length = n) := en.symm
  rw [N.out] at hlv ⊢
  clear en
  go_wp2_with fail
  go_loopw [5, 7] (fun v i wr => ∃ (vo : Value) (k : Nat), vo = v ∧ k ≤ n ∧ i = .int .i64 k ∧ OwnS w vo (toksOf (vs.take k)) wr ∧ Hid (Cells w1 vs b o vo wr)) (fun _ i _ => n - (intOf i).toNat)
  case atStart => exact ⟨_, 0, rfl, Nat.zero_le _, rfl, O1.out, HE1⟩
  case round =>
    obtain ⟨vo, k, rfl, hk, rfl, ho, HC⟩ := hrel
    obtain ⟨w2, ew⟩ : ∃ w2, w2 = wr := ⟨_, rfl⟩
    subst ew
    have tl := TL.out k
    by_cases hlt : k < n
    · have G : Hid (k < vs.length) := by unfold Hid; rw [N.out]; exact hlt
      have hao := C.out (by have := G.out; omega)
      subst hao
      have ck := (HC.out (by have := G.out; omega)).2.2 k G.out
      unfold S at ck
      have hx := MM.out _ (List.getElem_mem G.out)
      have cL := hide' (fun W => listRef ⟨(vs[k]'G.out).toArray⟩ W (by rw [size_l]; omega))
      have tl2 := TL.out (k + 1)
      have R := hide' (toks_next vs k G.out)
      have LM := hide' (fun p hp => listOf_mem (vs[k]'G.out) p hp)
      simp only at cL
      rw [R.out, List.length_append, List.length_map] at tl2
      generalize vs[k]'G.out = q at ck hx cL tl2 R LM
      generalize toksOf (vs.take k) = acc at ho tl tl2 R
      generalize listOf q = el at cL tl2 R LM
      go_wp2_with fail
      refine (cL.out _).mono ?_
      rintro e w3 ⟨u3, rfl, ho3⟩
      obtain ⟨a3, c3, b3, o3, hu3, ha3, HE⟩ := els_start ho ho3
      have E3 := hide' HE
      have A3 := hide' ha3
      have O3 := hide' (ownS_mono ho ho3.2)
      have C3 := hide' (els_below HC.out ho3.2)
      rw [hu3]
      clear ho3 ho hu3 ha3 HE cL ck HC
      obtain ⟨m, em⟩ : ∃ m, m = el.length := ⟨_, rfl⟩
      have M : Hid (el.length = m) := em.symm
      rw [M.out] at tl2 ⊢
      clear em
      go_wp2_with fail
      go_loopw [5, 9] (fun v i wr => ∃ (vi : Value) (j : Nat), vi = v ∧ j ≤ m ∧ i = .int .i64 j ∧ OwnS w vi (acc ++ (el.take j).map lows) wr ∧ Hid (Els el b3 o3 vi wr) ∧ Hid (Cells w1 vs b o vi wr)) (fun _ i _ => m - (intOf i).toNat)
      case atStart => exact ⟨_, 0, rfl, Nat.zero_le _, rfl, by simpa using O3.out, E3, C3⟩
      case round =>
        clear E3 O3 C3
        obtain ⟨vi, j, rfl, hj, rfl, ho, E3, C3⟩ := hrel
        by_cases hjt : j < m
        · have G2 : Hid (j < el.length) := by unfold Hid; rw [M.out]; exact hjt
          have ha := A3.out (by have := G2.out; omega)
          subst ha
          have cj := (E3.out (by have := G2.out; omega)).2.2 j G2.out
          unfold S at cj
          have hy := LM.out _ (List.getElem_mem G2.out)
          have cF := fun W => lowerRef ⟨(el[j]'G2.out).toArray⟩ W (by rw [size_l]; omega)
          simp only at cF
          have CF := hide' cF
          have R2 : Hid (acc ++ (el.take (j + 1)).map lows = (acc ++ (el.take j).map lows) ++ [lows (el[j]'G2.out)]) := by
            unfold Hid; rw [List.take_succ_eq_append_getElem G2.out, List.map_append, List.append_assoc]; rfl
          have al : (acc ++ (el.take j).map lows).length ≤ 1048576 := by
            rw [List.length_append, List.length_map, List.length_take]; have := M.out; omega
          clear cF
          generalize el[j]'G2.out = p at cj CF hy R2
          generalize acc ++ (el.take j).map lows = acc2 at ho al R2
          go_wp2_with (first
            | (go_at_call 94; refine (CF.out _).mono ?_; rintro e w5 ⟨rfl, hb5⟩; have ho5 := ownS_mono ho hb5; have E5 := hide' (els_below E3.out hb5); have C5 := hide' (els_below C3.out hb5); clear ho hb5 cj)
            | (at_builtin; refine appSx rfl (.tmp 31) (.tmp 37) rfl w _ _ rfl ho5 (lows p) rfl rfl (by omega) ?_; intro v6 w6 ho6 hx6))
          have E6 := hide' (els_app E5.out hx6)
          have C6 := hide' (els_app C5.out hx6)
          clear hx6 E5 C5
          go_roundw
          case rel => exact ⟨_, j + 1, rfl, by omega, by go_num, by rw [R2.out]; exact ho6, E6, C6⟩
          case measure => simp [intOf]; omega
        · have E : Hid (el.take j = el) := List.take_of_length_le (by rw [M.out]; omega)
          rw [E.out] at ho
          go_wp2_with fail
          go_roundw
          case rel => exact ⟨_, k + 1, rfl, by omega, by go_num, by rw [R.out]; exact ho, C3⟩
          case measure => simp [intOf]; omega
    · have E2 : Hid (vs.take k = vs) := List.take_of_length_le (by rw [N.out]; omega)
      rw [E2.out] at ho
      go_wp2_with fail
      go_ret
      exact ⟨_, rfl, ho⟩
end Go.Proofs.YtmikgpmnffdnnaaGreatDoor
namespace Go.Proofs.YtmikgpmnffdnnaaGreatDoor
open Go.RowKit
def digF (c : UInt8) : Bool := decide (48 ≤ c.toNat ∧ c.toNat ≤ 57)
/-- one to 18 digits -/
def isNum (l : List UInt8) : Bool := decide (1 ≤ l.length) && decide (l.length ≤ 18) && l.all digF
def numA (acc : Nat) (l : List UInt8) : Nat := l.foldl (fun a c => a * 10 + (c.toNat - 48)) acc
theorem numA_nil (acc : Nat) : numA acc [] = acc := by unfold numA; rw [List.foldl_nil]
theorem numA_cons (acc : Nat) (c : UInt8) (r : List UInt8) : numA acc (c :: r) = numA (acc * 10 + (c.toNat - 48)) r := by unfold numA; rw [List.foldl_cons]
def numF (l : List UInt8) : Nat := numA 0 l
/-- the number, or -1 -/
def numR (l : List UInt8) : Int := if isNum l = true then (numF l : Int) else -1
def lensOf : List (List UInt8) → Int × Int × Int
  | [] => (0, 0, 60)
  | x :: r => if (isNum x && r.all (fun y => isNum y && decide (numF y = numF x))) = true then (if 65536 < numF x then (0, 0, 71) else (1, (numF x : Int), 0)) else (0, 0, 60)
def chunkedB : List UInt8 := [99, 104, 117, 110, 107, 101, 100]
def codOf (minor : Int) (ws : List (List UInt8)) : Int × Int × Int := if minor = 0 ∨ ¬ ws = [chunkedB] then (0, 0, 62) else (2, 0, 0)
def TEb : List UInt8 := [84, 114, 97, 110, 115, 102, 101, 114, 45, 69, 110, 99, 111, 100, 105, 110, 103]
def CLb : List UInt8 := [67, 111, 110, 116, 101, 110, 116, 45, 76, 101, 110, 103, 116, 104]
def COb : List UInt8 := [67, 111, 110, 110, 101, 99, 116, 105, 111, 110]
def teb : List UInt8 := [116, 114, 97, 110, 115, 102, 101, 114, 45, 101, 110, 99, 111, 100, 105, 110, 103]
def clb : List UInt8 := [99, 111, 110, 116, 101, 110, 116, 45, 108, 101, 110, 103, 116, 104]
def cob : List UInt8 := [99, 111, 110, 110, 101, 99, 116, 105, 111, 110]
def closeB : List UInt8 := [99, 108, 111, 115, 101]
def keepB : List UInt8 := [107, 101, 101, 112, 45, 97, 108, 105, 118, 101]
/-- the fields' rule: kind, length, error; silent is the kind where the fields tell none -/
def ruleOf (minor : Int) (fs : FL) (silent : Int) : Int × Int × Int :=
  if 0 < (valsOf fs TEb).length ∧ 0 < (valsOf fs CLb).length then (0, 0, 61)
  else if 0 < (valsOf fs TEb).length then codOf minor (toksOf (valsOf fs TEb))
  else if 0 < (valsOf fs CLb).length then lensOf (toksOf (valsOf fs CLb))
  else (silent, 0, 0)
def headB : List UInt8 := [72, 69, 65, 68]
def connB : List UInt8 := [67, 79, 78, 78, 69, 67, 84]
def bareOf (s : Int) (m : List UInt8) : Bool := decide (m = headB ∨ (100 ≤ s ∧ s ≤ 199) ∨ s = 204 ∨ s = 304 ∨ (m = connB ∧ 200 ≤ s ∧ s ≤ 299))
def fresOf (s minor : Int) (fs : FL) (m : List UInt8) : Int × Int × Int := if bareOf s m = true then (0, 0, 0) else ruleOf minor fs 3
def lastOf (minor : Int) (ws : List (List UInt8)) : Bool := decide (closeB ∈ ws) || (decide (minor = 0) && ! decide (keepB ∈ ws))
theorem vals_low {n m : List UInt8} (h : lows n = lows m) (fs : FL) : valsOf fs n = valsOf fs m := by unfold valsOf; rw [h]
theorem vals_te (fs : FL) : valsOf fs teb = valsOf fs TEb := vals_low (by decide) fs
theorem vals_cl (fs : FL) : valsOf fs clb = valsOf fs CLb := vals_low (by decide) fs
theorem vals_co (fs : FL) : valsOf fs cob = valsOf fs COb := vals_low (by decide) fs
theorem dig_low : ∀ n : Fin 256, digF (low (UInt8.ofNat n.val)) = digF (UInt8.ofNat n.val) ∧ (digF (UInt8.ofNat n.val) = true → low (UInt8.ofNat n.val) = UInt8.ofNat n.val) := by decide +kernel
theorem dig_low' (c : UInt8) : digF (low c) = digF c ∧ (digF c = true → low c = c) := by
  have h := dig_low ⟨c.toNat, c.toNat_lt⟩
  simp only [UInt8.ofNat_toNat] at h
  exact h
theorem all_low (l : List UInt8) : (lows l).all digF = l.all digF := by
  induction l with
  | nil => rfl
  | cons c r ih =>
    have e : lows (c :: r) = low c :: lows r := rfl
    rw [e, List.all_cons, List.all_cons, ih, (dig_low' c).1]
theorem isNum_low (l : List UInt8) : isNum (lows l) = isNum l := by
  have e : (lows l).length = l.length := by simp [lows]
  unfold isNum; rw [all_low, e]
theorem lows_dig (l : List UInt8) (h : l.all digF = true) : lows l = l := by
  induction l with
  | nil => rfl
  | cons c r ih =>
    rw [List.all_cons, Bool.and_eq_true] at h
    have e : lows (c :: r) = low c :: lows r := rfl
    rw [e, ih h.2, (dig_low' c).2 h.1]
theorem isNum_parts {l : List UInt8} (h : isNum l = true) : 1 ≤ l.length ∧ l.length ≤ 18 ∧ l.all digF = true := by
  unfold isNum at h
  simp only [Bool.and_eq_true, decide_eq_true_eq] at h
  exact ⟨h.1.1, h.1.2, h.2⟩
theorem numF_low {l : List UInt8} (h : isNum l = true) : numF (lows l) = numF l := by rw [lows_dig l (isNum_parts h).2.2]
theorem lens_low (els : List (List UInt8)) : lensOf (els.map lows) = lensOf els := by
  cases els with
  | nil => rfl
  | cons x r =>
    rw [List.map_cons]
    simp only [lensOf]
    rw [isNum_low]
    cases hx : isNum x with
    | false => rfl
    | true =>
      have e : (r.map lows).all (fun y => isNum y && decide (numF y = numF (lows x))) = r.all (fun y => isNum y && decide (numF y = numF x)) := by
        rw [List.all_map]
        congr 1
        funext y
        simp only [Function.comp, isNum_low, numF_low hx]
        cases hy : isNum y with
        | false => rfl
        | true => rw [numF_low hy]
      rw [e, numF_low hx]
theorem lens_toks (vs : List (List UInt8)) : lensOf (toksOf vs) = lensOf (vs.flatMap listOf) := lens_low _
theorem numA_bound (l : List UInt8) : ∀ acc, l.all digF = true → numA acc l < (acc + 1) * 10 ^ l.length := by
  induction l with
  | nil =>
    intro acc _
    rw [List.length_nil, Nat.pow_zero, Nat.mul_one, numA_nil]
    exact Nat.lt_succ_self acc
  | cons c r ih =>
    intro acc h
    rw [List.all_cons, Bool.and_eq_true] at h
    have h1 := ih (acc * 10 + (c.toNat - 48)) h.2
    have h2 : c.toNat - 48 ≤ 9 := by
      have := h.1
      unfold digF at this
      simp at this; omega
    have h3 : (acc * 10 + (c.toNat - 48) + 1) * 10 ^ r.length ≤ ((acc + 1) * 10) * 10 ^ r.length := Nat.mul_le_mul_right _ (by omega)
    rw [List.length_cons, Nat.pow_succ, Nat.mul_comm (10 ^ r.length) 10, ← Nat.mul_assoc, numA_cons]
    exact Nat.lt_of_lt_of_le h1 h3
theorem numF_bound {l : List UInt8} (h : isNum l = true) : numF l < 1000000000000000000 := by
  obtain ⟨_, h2, h3⟩ := isNum_parts h
  have h1 := numA_bound l 0 h3
  have h4 : (10 : Nat) ^ l.length ≤ 10 ^ 18 := Nat.pow_le_pow_right (by decide) h2
  rw [Nat.zero_add, Nat.one_mul] at h1
  exact Nat.lt_of_lt_of_le h1 h4
theorem toks_le (fs : FL) (nm : List UInt8) (hb : bulkF fs ≤ 1048576) : (toksOf (valsOf fs nm)).length ≤ 1048576 := by
  have h1 := toks_len (valsOf fs nm)
  have h2 := bulk_vals fs nm
  omega
end Go.Proofs.YtmikgpmnffdnnaaGreatDoor
namespace Go.Proofs.YtmikgpmnffdnnaaGreatDoor
open Go.RowKit
set_option maxHeartbeats 1000000 in
theorem indexS (v : Value) (ws : List (List UInt8)) (x : List UInt8) (w : World) (hv : Holds w v ws) (hl : ws.length ≤ 1000000000000000) :
    Calls Tryz.prog 71 #[v, .string ⟨x.toArray⟩] w fun e w' => ∃ i : Int, e = .returned (.int .i64 i) ∧ Hid (decide (0 ≤ i) = decide (x ∈ ws)) ∧ -1 ≤ i ∧ i ≤ 1000000000000000 ∧ w' = w := by
  obtain ⟨ao, ca, b, o, rfl, hc⟩ := holds_parts hv
  have C := hide' hc
  clear hv hc
  obtain ⟨n, en⟩ : ∃ n, n = ws.length := ⟨_, rfl⟩
  have N : Hid (ws.length = n) := en.symm
  rw [N.out] at hl ⊢
  clear en
  go_enter Tryz.func71, Tryz.ntmps71
  go_wp2_with fail
  go_loop [8] (fun i => ∃ k : Nat, k ≤ n ∧ i = .int .i64 k ∧ Hid (∀ j (h : j < ws.length), j < k → ¬ x = ws[j])) (fun i => n - (intOf i).toNat)
  case atStart => exact ⟨0, Nat.zero_le _, rfl, fun j h hj => absurd hj (by omega)⟩
  case round =>
    obtain ⟨k, hk, rfl, A⟩ := hrel
    by_cases hlt : k < n
    · have G : Hid (k < ws.length) := by unfold Hid; rw [N.out]; exact hlt
      obtain ⟨hao, hblt, hcell⟩ := C.out (by have := G.out; omega)
      subst hao
      have ck := hcell k G.out
      unfold S at ck
      clear hcell
      by_cases he : x = ws[k]'G.out
      · have M : Hid (x ∈ ws) := by unfold Hid; rw [he]; exact List.getElem_mem _
        rw [← he] at ck
        clear he
        go_wp2_with fail
        go_ret
        exact ⟨(k : Int), rfl, by have m := M.out; unfold Hid; simp [m], by omega, by omega, rfl⟩
      · have A2 : Hid (∀ j (h : j < ws.length), j < k + 1 → ¬ x = ws[j]) := by
          intro j h hj
          by_cases hjk : j = k
          · subst hjk; exact he
          · exact A.out j h (by omega)
        have hne := ba_eql' _ _ he
        have hne2 : (x == ws[k]'G.out) = false := by simpa using he
        clear he
        generalize ws[k]'G.out = q at ck hne hne2
        go_wp2_with fail
        go_round
        case rel => exact ⟨k + 1, by omega, by go_num, A2⟩
        case measure => simp [intOf]; omega
    · have M : Hid (¬ x ∈ ws) := by
        intro hm
        obtain ⟨j, hj, e⟩ := List.getElem_of_mem hm
        exact A.out j hj (by have := N.out; omega) e.symm
      go_wp2_with fail
      go_ret
      exact ⟨-1, rfl, by have m := M.out; unfold Hid; simp [m], by omega, by omega, rfl⟩
set_option maxHeartbeats 400000 in
theorem containsS (v : Value) (ws : List (List UInt8)) (x : List UInt8) (w : World) (hv : Holds w v ws) (hl : ws.length ≤ 1000000000000000) :
    Calls Tryz.prog 42 #[v, .string ⟨x.toArray⟩] w fun e w' => e = .returned (.bool (decide (x ∈ ws))) ∧ w' = w := by
  have c := hide' (indexS v ws x w hv hl)
  obtain ⟨ao, ca, b, o, rfl, _⟩ := holds_parts hv
  generalize decide (x ∈ ws) = d at c ⊢
  clear hv
  go_enter Tryz.func42, Tryz.ntmps42
  go_wp2_with fail
  refine c.out.mono ?_
  rintro e w' ⟨i, rfl, hd, h1, h2, ew⟩
  rw [ew]
  go_wp2_with fail
  go_ret
  exact ⟨by rw [← hd.out]; rfl, rfl⟩
set_option maxHeartbeats 1000000 in
theorem hasRef (v : Value) (fs : FL) (nm x : List UInt8) (w : World) (hv : HoldsF w v fs) (hb : bulkF fs ≤ 1048576) (hn : nm.length ≤ 1048576) :
    Calls Tryz.prog 44 #[v, .string ⟨nm.toArray⟩, .string ⟨x.toArray⟩] w fun e w' => e = .returned (.bool (decide (x ∈ toksOf (valsOf fs nm)))) ∧ Below w.heap.size w w' := by
  have cT := hide' (tokensRef v fs nm w hv hb hn)
  have tl := toks_le fs nm hb
  generalize toksOf (valsOf fs nm) = ws at cT tl ⊢
  obtain ⟨ao, ca, b, o, rfl, _⟩ := holdsF_parts hv
  clear hv
  go_enter Tryz.func44, Tryz.ntmps44
  go_wp2_with fail
  refine cT.out.mono ?_
  rintro e w1 ⟨u, rfl, ho⟩
  have B1 := hide' ho.2
  obtain ⟨ua, uc, ub, uo, hu, hc⟩ := holds_parts (holds_own ho)
  subst hu
  have C := hide' hc
  clear ho cT hc
  obtain ⟨n, en⟩ : ∃ n, n = ws.length := ⟨_, rfl⟩
  have N : Hid (ws.length = n) := en.symm
  rw [N.out] at tl ⊢
  clear en
  go_wp2_with fail
  go_loop [8] (fun i => ∃ k : Nat, k ≤ n ∧ i = .int .i64 k ∧ Hid (∀ j (h : j < ws.length), j < k → ¬ ws[j] = x)) (fun i => n - (intOf i).toNat)
  case atStart => exact ⟨0, Nat.zero_le _, rfl, fun j h hj => absurd hj (by omega)⟩
  case round =>
    obtain ⟨k, hk, rfl, A⟩ := hrel
    by_cases hlt : k < n
    · have G : Hid (k < ws.length) := by unfold Hid; rw [N.out]; exact hlt
      obtain ⟨hao, hblt, hcell⟩ := C.out (by have := G.out; omega)
      subst hao
      have ck := hcell k G.out
      unfold S at ck
      clear hcell
      by_cases he : ws[k]'G.out = x
      · have M : Hid (x ∈ ws) := by unfold Hid; rw [← he]; exact List.getElem_mem _
        rw [he] at ck
        clear he
        go_wp2_with fail
        go_ret
        rw [decide_eq_true M.out]
        exact ⟨rfl, B1.out⟩
      · have A2 : Hid (∀ j (h : j < ws.length), j < k + 1 → ¬ ws[j] = x) := by
          intro j h hj
          by_cases hjk : j = k
          · subst hjk; exact he
          · exact A.out j h (by omega)
        have hne := ba_eql' _ _ he
        have hne2 : (ws[k]'G.out == x) = false := by simpa using he
        clear he
        generalize ws[k]'G.out = q at ck hne hne2
        go_wp2_with fail
        go_round
        case rel => exact ⟨k + 1, by omega, by go_num, A2⟩
        case measure => simp [intOf]; omega
    · have M : Hid (¬ x ∈ ws) := by
        intro hm
        obtain ⟨j, hj, e⟩ := List.getElem_of_mem hm
        exact A.out j hj (by have := N.out; omega) e
      go_wp2_with fail
      go_ret
      rw [decide_eq_false M.out]
      exact ⟨rfl, B1.out⟩
end Go.Proofs.YtmikgpmnffdnnaaGreatDoor
