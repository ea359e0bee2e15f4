/- The contracts of pieces and of the document's Pieces. The contract of pieces: what the document's Pieces answers, each trimmed. The contracts of List and of the document's List. -/
import Derived.Test.YtipcmbonhkelbabGreatDoorBk
namespace Go.Proofs.YtipcmbonhkelbabGreatDoor
open Go.RowKit
set_option maxRecDepth 20000
theorem list_get (s : ByteArray) (i : Nat) (h : i < s.size) : ∃ hk : i < s.data.toList.length, s.data.toList[i] = s[i] := ⟨by simpa using h, rfl⟩
theorem len_list (s : ByteArray) : s.data.toList.length = s.size := by simp
theorem seg_size (s : ByteArray) (i f : Nat) : (⟨((s.data.toList.drop f).take (i - f)).toArray⟩ : ByteArray).size ≤ s.size := by
  show ((s.data.toList.drop f).take (i - f)).toArray.size ≤ s.size
  rw [List.size_toArray, ← len_list s]; exact seg_len _ _ _
theorem cut_from (s : ByteArray) (f : Nat) (hf : f ≤ s.size) (w : World) :
    Sem.run Tryz.prog (Instr.slice 9 (.string s) (some (.int .i64 f)) none none) w = .ok (.string ⟨(s.data.toList.drop f).toArray⟩) w := by
  rw [run_slice_string_from_if w 9 s .i64 f Tryz.underlying9, if_pos ⟨by omega, by omega⟩]
  congr 2
  have : (s.extract f s.size).data.toList = s.data.toList.drop f := by
    have h : s.size = s.data.toList.length := by simp
    simp [ByteArray.data_extract, List.extract_eq_take_drop]
    exact List.take_of_length_le (by simp)
  simp only [Int.toNat_natCast]
  rw [← this]
section
variable {c : Int} {s : ByteArray} {i f : Nat} {q : Bool} {out : List (List UInt8)}
theorem relB_quote (h : RelP c s.data.toList i f q out) (hi : i < s.size) (h34 : (s[i].toNat : Int) = 34) : RelP c s.data.toList (i + 1) f (!q) out := by
  obtain ⟨hk, e⟩ := list_get s i hi
  exact relP_quote h hk (by rw [e]; exact h34)
theorem relB_esc (h : RelP c s.data.toList i f true out) (hi : i < s.size) (h92 : (s[i].toNat : Int) = 92) : RelP c s.data.toList (i + 2) f true out := by
  obtain ⟨hk, e⟩ := list_get s i hi
  exact relP_esc h hk (by rw [e]; exact h92)
theorem relB_cut (h : RelP c s.data.toList i f false out) (hi : i < s.size) (h34 : ¬ (s[i].toNat : Int) = 34) (hc : (s[i].toNat : Int) = c) : RelP c s.data.toList (i + 1) (i + 1) false (out ++ [(s.data.toList.drop f).take (i - f)]) := by
  obtain ⟨hk, e⟩ := list_get s i hi
  exact relP_cut h hk (by rw [e]; exact h34) (by rw [e]; exact hc)
theorem relB_plain (h : RelP c s.data.toList i f q out) (hi : i < s.size) (h34 : ¬ (s[i].toNat : Int) = 34) (h92 : ¬ (q = true ∧ (s[i].toNat : Int) = 92)) (hc : ¬ (q = false ∧ (s[i].toNat : Int) = c)) : RelP c s.data.toList (i + 1) f q out := by
  obtain ⟨hk, e⟩ := list_get s i hi
  exact relP_plain h hk (by rw [e]; exact h34) (by rw [e]; exact h92) (by rw [e]; exact hc)
end
set_option maxHeartbeats 2000000 in
theorem piecesRef (s : ByteArray) (c : Int) (w : World) (hs : s.size ≤ 4194304) :
    Calls Tryz.prog 67 #[.string s, .int .u8 c] w fun e w' => ∃ v, e = .returned v ∧ OwnS w v (pieces c s.data.toList) w' := by
  go_enter Tryz.func67, Tryz.ntmps67
  go_wp2
  go_loopw [5, 6, 7, 8] (fun v fv qv iv wr => ∃ (i f : Nat) (q : Bool) (out : List (List UInt8)), iv = .int .i64 i ∧ fv = .int .i64 f ∧ qv = .bool q ∧ Hid (RelP c s.data.toList i f q out) ∧ OwnS w v out wr) (fun _ _ _ iv _ => s.size + 2 - (intOf iv).toNat)
  case atStart => exact ⟨0, 0, false, [], rfl, rfl, rfl, relP_start _ _, ownS_empty w⟩
  case round =>
    obtain ⟨i, f, q, out, rfl, rfl, rfl, hR, hown⟩ := hrel
    have r1 : f ≤ i := hR.out.1
    have r2 : f ≤ s.size := by have := hR.out.2.1; rwa [len_list] at this
    have r3 : i ≤ s.size + 1 := by have := hR.out.2.2.1; rwa [len_list] at this
    have r4 : out.length ≤ f := hR.out.2.2.2.1
    by_cases hlt : i < s.size
    · have hb := byte_lt s[i]
      by_cases x34 : (s[i].toNat : Int) = 34
      · have R : Hid (RelP c s.data.toList (i + 1) f (!q) out) := relB_quote hR.out hlt x34
        have b34 : ((s[i].toNat : Int) == 34) = true := by simp [x34]
        have b92 : ((s[i].toNat : Int) == 92) = false := by simp [x34]
        clear x34
        cases q with
        | false =>
          go_wp2
          go_roundw
          case rel => exact ⟨i + 1, f, true, out, by go_num, rfl, rfl, R, hown⟩
          case measure => simp [intOf]; omega
        | true =>
          go_wp2
          go_roundw
          case rel => exact ⟨i + 1, f, false, out, by go_num, rfl, rfl, R, hown⟩
          case measure => simp [intOf]; omega
      · have b34 : ((s[i].toNat : Int) == 34) = false := by simp [x34]
        cases q with
        | true =>
          by_cases x92 : (s[i].toNat : Int) = 92
          · have R : Hid (RelP c s.data.toList (i + 2) f true out) := relB_esc hR.out hlt x92
            have b92 : ((s[i].toNat : Int) == 92) = true := by simp [x92]
            clear x34 x92
            go_wp2
            go_roundw
            case rel => exact ⟨i + 2, f, true, out, by go_num, rfl, rfl, R, hown⟩
            case measure => simp [intOf]; omega
          · have R : Hid (RelP c s.data.toList (i + 1) f true out) := relB_plain hR.out hlt x34 (by simp [x92]) (by simp)
            have b92 : ((s[i].toNat : Int) == 92) = false := by simp [x92]
            clear x34 x92
            cases bc : ((s[i].toNat : Int) == c) with
            | true =>
              go_wp2
              go_roundw
              case rel => exact ⟨i + 1, f, true, out, by go_num, rfl, rfl, R, hown⟩
              case measure => simp [intOf]; omega
            | false =>
              go_wp2
              go_roundw
              case rel => exact ⟨i + 1, f, true, out, by go_num, rfl, rfl, R, hown⟩
              case measure => simp [intOf]; omega
        | false =>
          by_cases xc : (s[i].toNat : Int) = c
          · have R : Hid (RelP c s.data.toList (i + 1) (i + 1) false (out ++ [(s.data.toList.drop f).take (i - f)])) := relB_cut hR.out hlt x34 xc
            have bc : ((s[i].toNat : Int) == c) = true := by simp [xc]
            have hcut := cut_is s f i r1 (by omega) wr
            clear x34 xc
            go_wp2_with (at_builtin; refine appS rfl (.tmp 40) (.tmp 45) rfl w _ _ rfl hown _ rfl rfl (by omega) ?_; intro v2 w2 hown2)
            go_roundw
            case rel => exact ⟨i + 1, i + 1, false, _, by go_num, by go_num, rfl, R, hown2⟩
            case measure => simp [intOf]; omega
          · have R : Hid (RelP c s.data.toList (i + 1) f false out) := relB_plain hR.out hlt x34 (by simp) (by simp [xc])
            have bc : ((s[i].toNat : Int) == c) = false := by simp [xc]
            clear x34 xc
            go_wp2
            go_roundw
            case rel => exact ⟨i + 1, f, false, out, by go_num, rfl, rfl, R, hown⟩
            case measure => simp [intOf]; omega
    · have F : Hid (pieces c s.data.toList = out ++ [s.data.toList.drop f]) := relP_done hR.out (by rw [len_list]; omega)
      have hcut := cut_from s f r2 wr
      go_wp2_with (at_builtin; refine appS rfl (.tmp 49) (.tmp 53) rfl w _ _ rfl hown _ rfl rfl (by omega) ?_; intro v2 w2 hown2)
      go_ret
      refine ⟨_, rfl, ?_⟩
      rw [F.out]
      exact hown2
end Go.Proofs.YtipcmbonhkelbabGreatDoor
namespace Go.Proofs.YtipcmbonhkelbabGreatDoor
open Go.RowKit
set_option maxRecDepth 20000
theorem trimmedL (l : List UInt8) (w : World) (hl : l.length ≤ 140737488351232) :
    Calls Tryz.prog 94 #[.string ⟨l.toArray⟩] w fun e w' => e = .returned (.string ⟨(trimT l).toArray⟩) ∧ Below w.heap.size w w' :=
  trimmed ⟨l.toArray⟩ w (by show l.toArray.size ≤ _; rw [List.size_toArray]; exact hl)
theorem seg_small (s : ByteArray) (i f : Nat) (hs : s.size ≤ 4194304) : ((s.data.toList.drop f).take (i - f)).length ≤ 140737488351232 := by
  have := seg_len s.data.toList i f
  rw [len_list] at this
  omega
theorem rest_small (s : ByteArray) (f : Nat) (hs : s.size ≤ 4194304) : (s.data.toList.drop f).length ≤ 140737488351232 := by
  rw [List.length_drop, len_list]; omega
set_option maxHeartbeats 2000000 in
theorem piecesTok (s : ByteArray) (c : Int) (w : World) (hs : s.size ≤ 4194304) :
    Calls Tryz.prog 74 #[.string s, .int .u8 c] w fun e w' => ∃ v, e = .returned v ∧ OwnS w v ((pieces c s.data.toList).map trimT) w' := by
  go_enter Tryz.func74, Tryz.ntmps74
  go_wp2
  go_loopw [5, 6, 7, 8] (fun v fv qv iv wr => ∃ (i f : Nat) (q : Bool) (out : List (List UInt8)), iv = .int .i64 i ∧ fv = .int .i64 f ∧ qv = .bool q ∧ Hid (RelP c s.data.toList i f q out) ∧ OwnS w v (out.map trimT) wr) (fun _ _ _ iv _ => s.size + 2 - (intOf iv).toNat)
  case atStart => exact ⟨0, 0, false, [], rfl, rfl, rfl, relP_start _ _, ownS_nil _ _ (Below.refl _ _)⟩
  case round =>
    obtain ⟨i, f, q, out, rfl, rfl, rfl, hR, hown⟩ := hrel
    have r1 : f ≤ i := hR.out.1
    have r2 : f ≤ s.size := by have := hR.out.2.1; rwa [len_list] at this
    have r3 : i ≤ s.size + 1 := by have := hR.out.2.2.1; rwa [len_list] at this
    have r4 : (out.map trimT).length ≤ f := by rw [List.length_map]; exact hR.out.2.2.2.1
    by_cases hlt : i < s.size
    · have hb := byte_lt s[i]
      by_cases x34 : (s[i].toNat : Int) = 34
      · have R : Hid (RelP c s.data.toList (i + 1) f (!q) out) := relB_quote hR.out hlt x34
        have b34 : ((s[i].toNat : Int) == 34) = true := by simp [x34]
        clear x34
        cases q with
        | false =>
          go_wp2
          go_roundw
          case rel => exact ⟨i + 1, f, true, out, by go_num, rfl, rfl, R, hown⟩
          case measure => simp [intOf]; omega
        | true =>
          go_wp2
          go_roundw
          case rel => exact ⟨i + 1, f, false, out, by go_num, rfl, rfl, R, hown⟩
          case measure => simp [intOf]; omega
      · have b34 : ((s[i].toNat : Int) == 34) = false := by simp [x34]
        cases q with
        | true =>
          by_cases x92 : (s[i].toNat : Int) = 92
          · have R : Hid (RelP c s.data.toList (i + 2) f true out) := relB_esc hR.out hlt x92
            have b92 : ((s[i].toNat : Int) == 92) = true := by simp [x92]
            clear x34 x92
            go_wp2
            go_roundw
            case rel => exact ⟨i + 2, f, true, out, by go_num, rfl, rfl, R, hown⟩
            case measure => simp [intOf]; omega
          · have R : Hid (RelP c s.data.toList (i + 1) f true out) := relB_plain hR.out hlt x34 (by simp [x92]) (by simp)
            have b92 : ((s[i].toNat : Int) == 92) = false := by simp [x92]
            clear x34 x92
            go_wp2
            go_roundw
            case rel => exact ⟨i + 1, f, true, out, by go_num, rfl, rfl, R, hown⟩
            case measure => simp [intOf]; omega
        | false =>
          by_cases xc : (s[i].toNat : Int) = c
          · have R : Hid (RelP c s.data.toList (i + 1) (i + 1) false (out ++ [(s.data.toList.drop f).take (i - f)])) := relB_cut hR.out hlt x34 xc
            have bc : ((s[i].toNat : Int) == c) = true := by simp [xc]
            have hcut := cut_is s f i r1 (by omega) wr
            have hsm := seg_small s i f hs
            clear x34 xc
            generalize (s.data.toList.drop f).take (i - f) = p at R hcut hsm
            go_wp2_with (first
              | (go_at_call 94; refine (trimmedL p _ hsm).mono ?_; rintro e w1 ⟨rfl, hb1⟩; have hown1 := ownS_mono hown hb1; clear hown)
              | (at_builtin; refine appS rfl (.tmp 42) (.tmp 48) rfl w _ _ rfl hown1 (trimT p) rfl rfl (by omega) ?_; intro v2 w2 hown2))
            go_roundw
            case rel => exact ⟨i + 1, i + 1, false, _, by go_num, by go_num, rfl, R, by rw [List.map_append]; exact hown2⟩
            case measure => simp [intOf]; omega
          · have R : Hid (RelP c s.data.toList (i + 1) f false out) := relB_plain hR.out hlt x34 (by simp) (by simp [xc])
            have bc : ((s[i].toNat : Int) == c) = false := by simp [xc]
            clear x34 xc
            go_wp2
            go_roundw
            case rel => exact ⟨i + 1, f, false, out, by go_num, rfl, rfl, R, hown⟩
            case measure => simp [intOf]; omega
    · have F : Hid (pieces c s.data.toList = out ++ [s.data.toList.drop f]) := relP_done hR.out (by rw [len_list]; omega)
      have hcut := cut_from s f r2 wr
      have hsm := rest_small s f hs
      generalize s.data.toList.drop f = p at F hcut hsm
      go_wp2_with (first
        | (go_at_call 94; refine (trimmedL p _ hsm).mono ?_; rintro e w1 ⟨rfl, hb1⟩; have hown1 := ownS_mono hown hb1; clear hown)
        | (at_builtin; refine appS rfl (.tmp 52) (.tmp 57) rfl w _ _ rfl hown1 (trimT p) rfl rfl (by omega) ?_; intro v2 w2 hown2))
      go_ret
      refine ⟨_, rfl, ?_⟩
      rw [F.out, List.map_append]
      exact hown2
end Go.Proofs.YtipcmbonhkelbabGreatDoor
namespace Go.Proofs.YtipcmbonhkelbabGreatDoor
open Go.RowKit
set_option maxRecDepth 20000
def filt (ps : List (List UInt8)) : List (List UInt8) := ps.filter (fun l => !l.isEmpty)
def listOf (L : List UInt8) : List (List UInt8) := filt ((pieces 44 L).map trimT)
theorem filt_snoc_nil (ps : List (List UInt8)) (p : List UInt8) (h : p.isEmpty = true) : filt (ps ++ [p]) = filt ps := by simp [filt, h]
theorem filt_snoc_some (ps : List (List UInt8)) (p : List UInt8) (h : p.isEmpty = false) : filt (ps ++ [p]) = filt ps ++ [p] := by simp [filt, h]
theorem filt_len (ps : List (List UInt8)) : (filt ps).length ≤ ps.length := List.length_filter_le _ _
theorem pcs_ne (c : Int) : ∀ (n : Nat) (q : Bool) (cur L : List UInt8), L.length ≤ n → pcs c q cur L ≠ [] := by
  intro n q cur L h e
  have : ∀ (n : Nat) (q : Bool) (cur L : List UInt8), L.length ≤ n → 0 < (pcs c q cur L).length := by
    intro n
    induction n with
    | zero =>
      intro q cur L h
      obtain rfl : L = [] := List.eq_nil_of_length_eq_zero (by omega)
      simp [pcs]
    | succ n ih =>
      intro q cur L h
      match L, h with
      | [], _ => simp [pcs]
      | [x], _ =>
        rw [pcs]
        split
        · simp
        · split
          · simp
          · split <;> simp
      | x :: y :: r, h =>
        have h1 : (y :: r).length ≤ n := by simp at h ⊢; omega
        have h2 : r.length ≤ n := by simp at h; omega
        rw [pcs]
        split
        · exact ih _ _ _ h1
        · split
          · exact ih _ _ _ h2
          · split
            · simp
            · exact ih _ _ _ h1
  have h3 := this n q cur L h
  rw [e] at h3
  simp at h3
theorem pieces_ne (c : Int) (L : List UInt8) : pieces c L ≠ [] := pcs_ne c L.length false [] L (Nat.le_refl _)
theorem cloneL (l : List UInt8) (w : World) (hl : l.length ≤ 140737488351232) :
    Calls Tryz.prog 17 #[.string ⟨l.toArray⟩] w fun e w' => e = .returned (.string ⟨l.toArray⟩) ∧ Below w.heap.size w w' :=
  clone ⟨l.toArray⟩ w (by show l.toArray.size ≤ _; rw [List.size_toArray]; exact hl)
theorem trimRefL (l : List UInt8) (w : World) (hl : l.length ≤ 140737488351232) :
    Calls Tryz.prog 68 #[.string ⟨l.toArray⟩] w fun e w' => e = .returned (.string ⟨(trimT l).toArray⟩) ∧ w' = w :=
  trimRef ⟨l.toArray⟩ w (by show l.toArray.size ≤ _; rw [List.size_toArray]; exact hl)
set_option maxHeartbeats 2000000 in
theorem listTok (s : ByteArray) (w : World) (hs : s.size ≤ 4194304) :
    Calls Tryz.prog 52 #[.string s] w fun e w' => ∃ v, e = .returned v ∧ OwnS w v (listOf s.data.toList) w' := by
  have L : Hid (listOf s.data.toList = filt ((pieces 44 s.data.toList).map trimT)) := rfl
  have hc := piecesTok s 44 w hs
  have hn : ((pieces 44 s.data.toList).map trimT).length ≤ 4194305 := by rw [List.length_map]; have := pieces_len 44 s.data.toList; rw [len_list] at this; omega
  have hm : Hid (∀ p ∈ (pieces 44 s.data.toList).map trimT, p.length ≤ 140737488351232) := by
    intro p hp
    obtain ⟨p0, h0, rfl⟩ := List.mem_map.1 hp
    have h1 := pieces_mem 44 _ _ h0
    have h2 := trimT_len p0
    rw [len_list] at h1
    omega
  have hne : Hid ((pieces 44 s.data.toList).map trimT ≠ []) := by intro e; exact pieces_ne 44 s.data.toList (List.map_eq_nil_iff.1 e)
  generalize (pieces 44 s.data.toList).map trimT = ps at L hc hn hm hne
  go_enter Tryz.func52, Tryz.ntmps52
  go_wp2_with fail
  refine hc.mono ?_
  rintro e w1 ⟨v, rfl, hown⟩
  obtain ⟨ao, cap, hv, hcell⟩ := holds_own hown
  obtain ⟨b, off, hao, hblt, hcells⟩ := hcell hne.out
  have C : Hid _ := hcells
  have B1 : Hid (Below w.heap.size w w1) := hown.2
  rw [hv, hao]
  clear hcell hcells hc hown hv hao
  obtain ⟨n, en⟩ : ∃ n, n = ps.length := ⟨_, rfl⟩
  have N : Hid (ps.length = n) := en.symm
  rw [N.out]
  rw [N.out] at hn
  clear en
  go_wp2_with fail
  go_loopw [3, 9] (fun v i wr => ∃ k : Nat, k ≤ n ∧ i = .int .i64 k ∧ OwnS w1 v (filt (ps.take k)) wr) (fun _ i _ => n - (intOf i).toNat)
  case atStart => exact ⟨0, by omega, rfl, ownS_nil _ _ (Below.refl _ _)⟩
  case round =>
    obtain ⟨k, hk, rfl, ho⟩ := hrel
    by_cases hlt : k < n
    · have G : Hid (k < ps.length) := by unfold Hid; rw [N.out]; exact hlt
      have ck : wr.cell? ⟨b, off + k, none⟩ = some (.string ⟨(ps[k]'G.out).toArray⟩) := (ho.2.cell (p := ⟨b, off + k, none⟩) hblt).trans (C.out k G.out)
      have hl2 : (filt (ps.take k)).length ≤ k := Nat.le_trans (filt_len _) (List.length_take_le _ _)
      have T : Hid (ps.take (k + 1) = ps.take k ++ [ps[k]'G.out]) := List.take_succ_eq_append_getElem G.out
      have hpm := hm.out _ (List.getElem_mem G.out)
      generalize ps[k]'G.out = p at ck T hpm
      cases he : p.isEmpty with
      | true =>
        have F : Hid (filt (ps.take (k + 1)) = filt (ps.take k)) := by unfold Hid; rw [T.out, filt_snoc_nil _ _ he]
        go_wp2_with fail
        go_roundw
        case rel => exact ⟨k + 1, by omega, by go_num, by rw [F.out]; exact ho⟩
        case measure => simp [intOf]; omega
      | false =>
        have F : Hid (filt (ps.take (k + 1)) = filt (ps.take k) ++ [p]) := by unfold Hid; rw [T.out, filt_snoc_some _ _ he]
        go_wp2_with (first
          | (go_at_call 17; refine (cloneL p _ hpm).mono ?_; rintro e w2 ⟨rfl, hb2⟩; have ho1 := ownS_mono ho hb2; clear ho)
          | (at_builtin; refine appS rfl (.tmp 15) (.tmp 18) rfl w1 _ _ rfl ho1 p rfl rfl (by omega) ?_; intro v3 w3 ho3))
        go_roundw
        case rel => exact ⟨k + 1, by omega, by go_num, by rw [F.out]; exact ho3⟩
        case measure => simp [intOf]; omega
    · have F : Hid (ps.take k = ps) := List.take_of_length_le (by rw [N.out]; omega)
      go_wp2_with fail
      go_ret
      refine ⟨_, rfl, ?_⟩
      rw [L.out, ← F.out]
      exact ownS_base ho B1.out
set_option maxHeartbeats 2000000 in
theorem listRef (s : ByteArray) (w : World) (hs : s.size ≤ 4194304) :
    Calls Tryz.prog 48 #[.string s] w fun e w' => ∃ v, e = .returned v ∧ OwnS w v (listOf s.data.toList) w' := by
  have L : Hid (listOf s.data.toList = filt ((pieces 44 s.data.toList).map trimT)) := rfl
  have hc := piecesRef s 44 w hs
  have hn : (pieces 44 s.data.toList).length ≤ 4194305 := by have := pieces_len 44 s.data.toList; rw [len_list] at this; omega
  have hm : Hid (∀ p ∈ pieces 44 s.data.toList, p.length ≤ 140737488351232) := by
    intro p hp
    have h1 := pieces_mem 44 _ _ hp
    rw [len_list] at h1
    omega
  have hne : Hid (pieces 44 s.data.toList ≠ []) := pieces_ne 44 s.data.toList
  generalize pieces 44 s.data.toList = ps at L hc hn hm hne
  go_enter Tryz.func48, Tryz.ntmps48
  go_wp2_with fail
  refine hc.mono ?_
  rintro e w1 ⟨v, rfl, hown⟩
  obtain ⟨ao, cap, hv, hcell⟩ := holds_own hown
  obtain ⟨b, off, hao, hblt, hcells⟩ := hcell hne.out
  have C : Hid _ := hcells
  have B1 : Hid (Below w.heap.size w w1) := hown.2
  rw [hv, hao]
  clear hcell hcells hc hown hv hao
  obtain ⟨n, en⟩ : ∃ n, n = ps.length := ⟨_, rfl⟩
  have N : Hid (ps.length = n) := en.symm
  rw [N.out]
  rw [N.out] at hn
  clear en
  go_wp2_with fail
  go_loopw [4, 5] (fun v i wr => ∃ k : Nat, k ≤ n ∧ i = .int .i64 k ∧ OwnS w1 v (filt ((ps.take k).map trimT)) wr) (fun _ i _ => n - (intOf i).toNat)
  case atStart => exact ⟨0, by omega, rfl, ownS_empty _⟩
  case round =>
    obtain ⟨k, hk, rfl, ho⟩ := hrel
    by_cases hlt : k < n
    · have G : Hid (k < ps.length) := by unfold Hid; rw [N.out]; exact hlt
      have ck : wr.cell? ⟨b, off + k, none⟩ = some (.string ⟨(ps[k]'G.out).toArray⟩) := (ho.2.cell (p := ⟨b, off + k, none⟩) hblt).trans (C.out k G.out)
      have hl2 : (filt ((ps.take k).map trimT)).length ≤ k := Nat.le_trans (filt_len _) (by rw [List.length_map]; exact List.length_take_le _ _)
      have T : Hid ((ps.take (k + 1)).map trimT = (ps.take k).map trimT ++ [trimT (ps[k]'G.out)]) := by unfold Hid; rw [List.take_succ_eq_append_getElem G.out, List.map_append]; rfl
      have hpm := hm.out _ (List.getElem_mem G.out)
      generalize ps[k]'G.out = p at ck T hpm
      cases he : (trimT p).isEmpty with
      | true =>
        have F : Hid (filt ((ps.take (k + 1)).map trimT) = filt ((ps.take k).map trimT)) := by unfold Hid; rw [T.out, filt_snoc_nil _ _ he]
        go_wp2_with (go_at_call 68; refine (trimRefL p _ hpm).mono ?_; rintro e w2 ⟨rfl, rfl⟩)
        go_roundw
        case rel => exact ⟨k + 1, by omega, by go_num, by rw [F.out]; exact ho⟩
        case measure => simp [intOf]; omega
      | false =>
        have F : Hid (filt ((ps.take (k + 1)).map trimT) = filt ((ps.take k).map trimT) ++ [trimT p]) := by unfold Hid; rw [T.out, filt_snoc_some _ _ he]
        go_wp2_with (first
          | (go_at_call 68; refine (trimRefL p _ hpm).mono ?_; rintro e w2 ⟨rfl, rfl⟩)
          | (at_builtin; refine appS rfl (.tmp 23) (.tmp 25) rfl w1 _ _ rfl ho (trimT p) rfl rfl (by omega) ?_; intro v3 w3 ho3))
        go_roundw
        case rel => exact ⟨k + 1, by omega, by go_num, by rw [F.out]; exact ho3⟩
        case measure => simp [intOf]; omega
    · have F : Hid (ps.take k = ps) := List.take_of_length_le (by rw [N.out]; omega)
      go_wp2_with fail
      go_ret
      refine ⟨_, rfl, ?_⟩
      rw [L.out, ← F.out]
      exact ownS_base ho B1.out
theorem trim_both (l : List UInt8) (a b : UInt8) (m : List UInt8) (h : l = a :: m) (m' : List UInt8) (h' : l = m' ++ [b]) (ha : blankI (a.toNat : Int) = false) (hb : blankI (b.toNat : Int) = false) : trimT l = l := by
  unfold trimT Lib.trimS
  have hr : Lib.trimRightS l [32, 9] = l := by
    rw [Lib.trimRightS_take l [32, 9] l.length (Nat.le_refl _) (fun j x hj hx => by rw [List.getElem?_eq_none hj] at hx; cases hx) (fun x _ hx => by
      rw [h'] at hx; simp at hx; subst hx; rw [blank_is]; exact hb), List.take_length]
  rw [hr, Lib.trimLeftS_drop l [32, 9] 0 (Nat.zero_le _) (fun j x hj => absurd hj (Nat.not_lt_zero _)) (fun x hx => by
    rw [h] at hx; simp at hx; subst hx; rw [blank_is]; exact ha), List.drop_zero]
end Go.Proofs.YtipcmbonhkelbabGreatDoor
