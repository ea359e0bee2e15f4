/- The contract of the store's free: the least number that no id has. The contract of the store's tableOf: what the records say, one after the other. The log's functions that go through steps: begin, replace, Add, Rewrite. The log's functions that go through steps: replace, encoded. -/
import Derived.OwnWalk
import Derived.Laws.OwnMore
import Derived.Test.YtibjcofbhldenaaGreatDoorZ29
import Derived.Test.YtibjcofbhldenaaGreatDoorZ18
import Derived.Test.YtibjcofbhldenaaGreatDoorZ17
namespace Go.Proofs.YtibjcofbhldenaaGreatDoor
open Go.RowKit Go.Maps Go.WideMaps
theorem Tryz.infoBo : (Tryz.prog.info? 4).map (fun i => (i.zero, i.size, i.bytes)) = some (some (.bool false), 1, 1) := by kernel_rfl
theorem makeB (w : World) (n : Nat) (hn : n ≤ 1000000) : (Instr.makeSlice 181 (.int .i64 (n : Int)) (.int .i64 (n : Int))).run Tryz.prog w = .ok (.slice (some ⟨w.heap.size, 0, none⟩) n n) (w.alloc (.cells (madeCells #[.bool false] n) 4)) := by
  obtain ⟨i0, hi, hz0, hz1, hz2⟩ := info_parts Tryz.infoBo
  have h := run_make (P := Tryz.prog) w 181 4 i0 (.bool false) Tryz.underlying181 hi hz0 .i64 .i64 n n (by omega) (by omega) (by rw [hz2]; omega) (by omega)
  rw [hz1] at h
  rw [show (Value.bool false).cells = #[Value.bool false] from rfl] at h
  simpa using h
/-- a row of truths of one's own at block B -/
def RowBo (base B n : Nat) (bs : List Bool) (W : World) : Prop := W.ownsRow base 4 1 (.slice (some ⟨B, 0, none⟩) n n) n (bs.map Value.bool)
theorem rowBo_made (w : World) (n : Nat) (hn : n ≤ 1000000) : RowBo w.heap.size w.heap.size n (List.replicate n false) (w.alloc (.cells (madeCells #[.bool false] n) 4)) := by
  have h := World.ownsRow_lit w (madeCells #[.bool false] n) n (base := w.heap.size) (e := 4) (size := 1) (Nat.le_refl _) (by unfold maxLen; omega) (by rw [size_madeCells]; omega)
  rw [toList_madeCells_one] at h
  unfold RowBo
  rw [List.map_replicate]
  exact h
theorem rowBo_len {base B n : Nat} {bs : List Bool} {W : World} (h : RowBo base B n bs W) : bs.length = n := by
  have := h.1
  simpa using this
theorem rowBo_at {base B n : Nat} {bs : List Bool} {W : World} (h : RowBo base B n bs W) (j : Nat) (hj : j < bs.length) : W.cell? ⟨B, j, none⟩ = some (.bool bs[j]) ∧ W.frozen? ⟨B, j, none⟩ = false := by
  have hl := rowBo_len h
  refine ⟨?_, h.frozenAt j⟩
  rw [h.cellAt j (by omega)]
  simp [hj]
theorem rowBo_set {base B n : Nat} {bs : List Bool} {W : World} (h : RowBo base B n bs W) (j : Nat) (x : Bool) : RowBo base B n (bs.set j x) (W.setCell ⟨B, j, none⟩ (.bool x)) := by
  have h1 := h.stored j (.bool x)
  unfold RowBo
  rw [List.map_set]
  exact h1.1
theorem rowBo_grown {base B n : Nat} {bs : List Bool} {W W' : World} {r : Nat} (h : RowBo base B n bs W) (hg : W.grownBy W' (some r)) (hne : B ≠ r) : RowBo base B n bs W' := by
  obtain ⟨hl, h1 | ⟨g, cap, cur, hv, hg', hh, hr⟩⟩ := h
  · exact ⟨hl, .inl h1⟩
  · have e : g = B := by simp at hv; exact hv.1.symm
    refine ⟨hl, .inr ⟨g, cap, cur, hv, hg', ?_, hr⟩⟩
    have hlt : g < W.heap.size := by
      rcases Nat.lt_or_ge g W.heap.size with h | h
      · exact h
      · rw [Array.getElem?_eq_none (by omega)] at hh; cases hh
    rw [hg.block g hlt (fun e2 => hne (by have := Option.some.inj e2; omega))]
    exact hh
/-- which numbers the entries have that have come -/
def tkB (t : NL) (left : Lit → Bool) (j : Nat) : Bool := t.any (fun p => decide (p.2 = j) && !left (.string p.1))
def tkL (t : NL) (n : Nat) (left : Lit → Bool) : List Bool := (List.range n).map (tkB t left)
theorem tk_start (t : NL) (n : Nat) : tkL t n (Maps.has (dOf (fun b => b) t)) = List.replicate n false := by
  unfold tkL
  rw [List.eq_replicate_iff]
  refine ⟨by simp, fun b hb => ?_⟩
  obtain ⟨j, _, rfl⟩ := List.mem_map.1 hb
  unfold tkB
  rw [List.any_eq_false]
  intro p hp
  rw [dOf_has]
  have : (atN t p.1).isSome = true := by
    cases h : atN t p.1 with
    | none => exact absurd rfl (at_none h p hp)
    | some k => rfl
  simp [this]
theorem tk_step {t : NL} (hs : SortedN t) {n : Nat} {left : Lit → Bool} {x : Nm} {k : Nat} (ha : atN t x = some k) : tkL t n (fun z => left z && !z.sameKey (.string x)) = (tkL t n left).set k true := by
  have hm := at_some ha
  have key : ∀ j, tkB t (fun z => left z && !z.sameKey (.string x)) j = (tkB t left j || decide (k = j)) := by
    intro j
    unfold tkB
    rw [Bool.eq_iff_iff]
    simp only [List.any_eq_true, Bool.and_eq_true, decide_eq_true_eq, Bool.not_eq_true', Bool.or_eq_true, Bool.and_eq_false_iff, same_str, Bool.not_eq_false']
    constructor
    · rintro ⟨p, hp, h1, h2 | h2⟩
      · exact .inl ⟨p, hp, h1, h2⟩
      · right
        have h3 : p.1 = x := h2
        have h4 := at_mem hs (name := p.1) (k := p.2) hp
        rw [h3, ha] at h4
        have := Option.some.inj h4
        omega
    · rintro (⟨p, hp, h1, h2⟩ | h2)
      · exact ⟨p, hp, h1, .inl h2⟩
      · exact ⟨(x, k), hm, h2, .inr rfl⟩
  unfold tkL
  apply List.ext_getElem
  · simp
  · intro i h1 h2
    simp only [List.getElem_map, List.getElem_range, List.getElem_set]
    rw [key]
    by_cases e : k = i
    · simp [e]
    · simp [e]
def takenL (t : NL) (n : Nat) : List Bool := (List.range n).map (fun j => t.any (fun p => decide (p.2 = j)))
theorem tk_end (t : NL) (n : Nat) {left : Lit → Bool} (h : ∀ kl, left kl = false) : tkL t n left = takenL t n := by
  unfold tkL takenL
  congr 1
  funext j
  unfold tkB
  congr 1
  funext p
  rw [h]; simp
/-- where the first truth that is none stands; -1: nowhere -/
def fstF : List Bool → Int
  | [] => -1
  | false :: _ => 0
  | true :: r => if fstF r < 0 then -1 else fstF r + 1
theorem fstF_in : ∀ bs : List Bool, -1 ≤ fstF bs ∧ fstF bs < bs.length ∨ fstF bs = -1 := by
  intro bs
  induction bs with
  | nil => right; rfl
  | cons b r ih =>
    cases b with
    | false => left; simp [fstF]
    | true =>
      simp only [fstF, List.length_cons]
      split
      · right; rfl
      · left; omega
theorem fstF_at : ∀ (bs : List Bool) (k : Nat) (h : k < bs.length), (∀ j (hj : j < bs.length), j < k → bs[j] = true) → bs[k] = false → fstF bs = (k : Int) := by
  intro bs
  induction bs with
  | nil => intro k h; simp at h
  | cons b r ih =>
    intro k h h1 h2
    cases k with
    | zero => simp at h2; subst h2; rfl
    | succ k =>
      have hb : b = true := h1 0 (by simp) (by omega)
      subst hb
      have := ih k (by simpa using h) (fun j hj hjk => h1 (j + 1) (by simpa using hj) (by omega)) (by simpa using h2)
      simp only [fstF]
      rw [this, if_neg (by omega)]
      simp
theorem fstF_none : ∀ (bs : List Bool), (∀ j (hj : j < bs.length), bs[j] = true) → fstF bs = -1 := by
  intro bs
  induction bs with
  | nil => intro _; rfl
  | cons b r ih =>
    intro h
    have hb : b = true := h 0 (by simp)
    subst hb
    have := ih (fun j hj => h (j + 1) (by simpa using hj))
    simp only [fstF]
    rw [this, if_pos (by omega)]
set_option maxRecDepth 20000
set_option maxHeartbeats 1000000
theorem indexBo {base B n : Nat} {bs : List Bool} {W : World} (h : RowBo base B n bs W) (hn : n ≤ 1000000) :
    Calls Tryz.prog 115 #[.slice (some ⟨B, 0, none⟩) n n, .bool false] W fun e W' => e = .returned (.int .i64 (fstF bs)) ∧ W' = W := by
  have H := hide' h
  have hl := hide' (rowBo_len h)
  clear h
  go_enter Tryz.func115, Tryz.ntmps115
  go_wp2_with fail
  go_loop [8] (fun i => ∃ k : Nat, k ≤ n ∧ i = .int .i64 k ∧ Hid (∀ j (hj : j < bs.length), j < k → bs[j] = true)) (fun i => n - (intOf i).toNat)
  case atStart => exact ⟨0, Nat.zero_le _, rfl, fun j h hj => absurd hj (by omega)⟩
  case round =>
    obtain ⟨k, hk, rfl, A⟩ := hrel
    by_cases hlt : k < n
    · have G : Hid (k < bs.length) := by unfold Hid; rw [hl.out]; exact hlt
      obtain ⟨c1, -⟩ := rowBo_at H.out k G.out
      cases hb : bs[k]'G.out with
      | false =>
        rw [hb] at c1
        have F := hide' (fstF_at bs k G.out A.out hb)
        clear hb
        go_wp2_with fail
        go_ret
        exact ⟨by rw [F.out]; rfl, rfl⟩
      | true =>
        rw [hb] at c1
        have A2 : Hid (∀ j (hj : j < bs.length), j < k + 1 → bs[j] = true) := by
          intro j h hj
          by_cases hjk : j = k
          · subst hjk; exact hb
          · exact A.out j h (by omega)
        clear hb
        go_wp2_with fail
        go_round
        case rel => exact ⟨k + 1, by omega, by go_num, A2⟩
        case measure => simp [intOf]; omega
    · have F := hide' (fstF_none bs (fun j hj => A.out j hj (by have := hl.out; omega)))
      go_wp2_with fail
      go_ret
      exact ⟨by rw [F.out]; rfl, rfl⟩
theorem str_inv {key : Value} {kl : Lit} (h : keyOf Tryz.prog 9 key = some kl) : ∃ s : ByteArray, key = .string s ∧ kl = .string s.data.toList := by
  cases key <;> simp [keyOf, Tryz.underlying9, mapKey] at h
  obtain ⟨_, rfl⟩ := h
  exact ⟨_, rfl, rfl⟩
/-- the least number that no id has; -1: there is none -/
def freeI (t : NL) (n : Nat) : Int := fstF (takenL t n)
theorem freeC {o : Ow} {g lb sb tm n : Nat} {s : Dk} {c : Int} {t : NL} {W : World} (h : StoS o g lb sb tm (n : Int) s c t W) (hn : n ≤ 4096) (ht : ∀ p ∈ t, p.2 < n) :
    Calls Tryz.prog 66 #[lptr sb] W fun e W' => e = .returned (.tuple #[.int .i64 (freeI t n), .bool (decide (0 ≤ freeI t n))]) ∧ Below W.heap.size W W' := by
  have H := hide' h
  have HT := hide' ht
  have hmk := makeB W n (by omega)
  have hMB := hide' (rowBo_made W n (by omega))
  have b1 := below_alloc' W (.cells (madeCells #[.bool false] n) 4)
  have B1 := hide' b1
  have hown := (stoS_below h b1).tab
  have htm : tm < W.heap.size := tbi_lt h.tab
  obtain ⟨-, -, c2, c3⟩ := stoS_cells h
  obtain ⟨-, -, d2, d3⟩ := stoS_cells (stoS_below h b1)
  clear h b1 ht
  obtain ⟨W1, hW1⟩ : ∃ W1, W1 = W.alloc (.cells (madeCells #[.bool false] n) 4) := ⟨_, rfl⟩
  have Z1 : Hid (W1.heap.size = W.heap.size + 1) := by rw [hW1]; unfold Hid; simp
  rw [← hW1] at hmk hMB hown d2 d3 B1
  have HW1 := hide' hW1
  clear hW1
  go_enter Tryz.func66, Tryz.ntmps66
  go_wp2_with (first
    | (at_range; refine wpList_range_own _ rfl _ 99 rfl 9 3 kStr Tryz.underlying99 _ tm t.length _ rfl hown ?_; intro w0 hrg0 hg0 hs0)
    | go_in)
  go_frame
  have hne : W.heap.size ≠ W1.heap.size := by have := Z1.out; omega
  have RW0 := hide' (rowBo_grown hMB.out (hg0.but (some W1.heap.size)) hne)
  have BW0 : Hid (Below W.heap.size W w0) := B1.out.grown hg0 (by have := Z1.out; omega) (fun j hj => by cases hj)
  rw [← tk_start t n] at RW0
  clear hMB hg0 hs0 hmk hown d2 d3 c2 c3 HW1
  go_loopw [6] (fun _ wr => ∃ (left : Lit → Bool) (cnt : Nat), wr.ranges Tryz.prog 9 iel tm W1.heap.size t.length (dOf (fun b => b) t) left cnt ∧ Hid (RowBo W.heap.size W.heap.size n (tkL t n left) wr) ∧ Hid (Below W.heap.size W wr)) (fun _ wr => wr.rangeLeft tm W1.heap.size)
  case atStart => exact ⟨_, _, hrg0, RW0, BW0⟩
  case round =>
    clear hrg0 RW0 BW0
    obtain ⟨left, cnt, hrg, RW, BW⟩ := hrel
    go_wp2_with (first
      | (at_next; refine wpList_next_ranges _ rfl _ rfl 9 kStr iel Value.string (fun c : Int => .int .i64 c) (fun key kl hkey => by obtain ⟨x, rfl, _⟩ := str_inv hkey; exact ⟨x, rfl⟩) (fun v y hv => by obtain ⟨c, rfl, _⟩ := iel_inv hv; exact ⟨c, rfl⟩) tm W1.heap.size t.length _ _ _ rfl hrg ?_ ?_)
      | go_in)
    · intro hc0 hl0
      have R := RW.out
      rw [tk_end t n hl0] at R
      have CI := hide' (indexBo R (by omega))
      have FQ : Hid (freeI t n = fstF (takenL t n)) := rfl
      clear hc0 hl0 hrg R RW
      generalize fstF (takenL t n) = i at CI FQ
      go_wp2_with fail
      refine CI.out.mono ?_
      rintro e w9 ⟨rfl, ew⟩
      rw [ew]
      clear ew w9
      go_wp2_with fail
      go_ret2
      rw [FQ.out]
      exact ⟨rfl, BW.out⟩
    · intro x cc kl y1 y2 w1 cnt1 hkx hlx hvy hat hrg1 hlt hg1 hs1 hen
      obtain ⟨x', ex, hkl⟩ := str_inv hkx
      cases ex
      obtain ⟨c', ec, hy⟩ := iel_inv hvy
      have ec' : cc = c' := by simpa using ec
      subst ec'
      have hy1 : y1 = .lit (.int .i64 cc) := by simpa using congrArg Prod.fst hy
      rw [hkl, hy1] at hat
      rw [hkl] at hrg1
      obtain ⟨k, hak, hck⟩ : ∃ k : Nat, atN t x.data.toList = some k ∧ cc = (k : Int) := by
        cases ha : atN t x.data.toList with
        | none =>
          have h1 := hat .nil
          rw [dOf_none ha] at h1
          cases h1
        | some k =>
          refine ⟨k, rfl, ?_⟩
          have h1 := hat .nil
          rw [dOf_some ha] at h1
          simp at h1
          exact h1.symm
      subst hck
      have hkn : k < n := HT.out _ (at_some hak)
      have RG := rowBo_grown RW.out hg1 hne
      obtain ⟨e1, e2⟩ := rowBo_at RG k (by unfold tkL; simpa using hkn)
      have R2 := hide' (rowBo_set RG k true)
      rw [← tk_step H.out.srt (left := left) hak] at R2
      have B2 := hide' (BW.out.grown hg1 BW.out.size (fun j hj => by cases hj; have := Z1.out; omega))
      have RS := hide' hrg1
      have RO := hide' hrg
      have hgs : Hid (w1.grownBy (w1.setCell ⟨W.heap.size, k, none⟩ (.bool true)) (some W.heap.size)) := ⟨rfl, rfl, rfl, by simp [World.setCell], fun i _ hi => Below.heap_setCell _ _ _ _ (fun e => hi (by rw [e]))⟩
      clear hkx hlx hvy hat hrg1 hrg hg1 hs1 RG RW hy hy1 hkl
      go_wp2_with fail
      have hrg2 := RS.out.kept hgs.out (fun e => by have := Option.some.inj e; omega) (fun e => by have := Option.some.inj e; omega)
      go_roundw
      case rel => exact ⟨_, cnt1, hrg2, R2, B2.out.setCell (Nat.le_refl _) _⟩
      case measure => rw [hrg2.left_eq, RO.out.left_eq]; exact hlt
end Go.Proofs.YtibjcofbhldenaaGreatDoor
namespace Go.Proofs.YtibjcofbhldenaaGreatDoor
open Go.RowKit Go.Maps Go.WideMaps
def stepR (t : NL) (r : Rc) : NL := if r.2.1 = 1 then putN t r.2.2.2 r.2.2.1.toNat else delN t r.2.2.2
def tblOf (rs : RL) : NL := rs.foldl stepR []
/-- records as they are read: a file's number that is one, an id short enough -/
def SmlR (rs : RL) : Prop := ∀ r ∈ rs, 0 ≤ r.2.2.1 ∧ r.2.2.1 ≤ 4294967295 ∧ r.2.2.2.length ≤ 1000000
theorem tbl_next (rs : RL) (k : Nat) (h : k < rs.length) : tblOf (rs.take (k + 1)) = stepR (tblOf (rs.take k)) rs[k] := by
  unfold tblOf
  rw [List.take_succ_eq_append_getElem h, List.foldl_append]
  rfl
theorem step_sorted {t : NL} (h : SortedN t) (r : Rc) : SortedN (stepR t r) := by
  unfold stepR
  split
  · exact sorted_put h _ _
  · exact sorted_del h _
theorem tbl_sorted (rs : RL) : SortedN (tblOf rs) := by
  have : ∀ (rs : RL) (t : NL), SortedN t → SortedN (rs.foldl stepR t) := by
    intro rs
    induction rs with
    | nil => intro t h; exact h
    | cons r rs ih => intro t h; exact ih _ (step_sorted h r)
  exact this rs [] List.Pairwise.nil
theorem ins_lenI (n : Nm) (k : Nat) : ∀ l : NL, (insN n k l).length = l.length + 1 := by
  intro l
  induction l with
  | nil => rfl
  | cons q r ih =>
    rw [insN]
    split
    · rfl
    · rw [List.length_cons, ih]; rfl
theorem step_lenI (t : NL) (r : Rc) : (stepR t r).length ≤ t.length + 1 := by
  have h1 : ∀ n : Nm, (delN t n).length ≤ t.length := fun n => List.length_filter_le _ _
  unfold stepR
  split
  · unfold putN; rw [ins_lenI]; have := h1 r.2.2.2; omega
  · have := h1 r.2.2.2; omega
theorem tbl_len (rs : RL) : (tblOf rs).length ≤ rs.length := by
  have : ∀ (rs : RL) (t : NL), (rs.foldl stepR t).length ≤ t.length + rs.length := by
    intro rs
    induction rs with
    | nil => intro t; simp
    | cons r rs ih =>
      intro t
      have h1 := ih (stepR t r)
      have h2 := step_lenI t r
      simp only [List.foldl_cons, List.length_cons]
      omega
  have := this rs []
  unfold tblOf
  simpa using this
theorem tbi_empty {W : World} {m : Nat} (h : W.heap[m]? = some (.map #[] 0)) : Tbi W m [] := by
  obtain ⟨es, clock, hh, F, hn, hD⟩ := World.ownsMap_made (H := Unit) W Tryz.prog 9 iel
  rw [heap_alloc_new] at hh
  cases hh
  exact ⟨#[], 0, h, F, hn, hD⟩
theorem rcAt_mono' {w w' : World} {b off : Nat} {p : Rc} (hb : Below w.heap.size w w') (hlt : b < w.heap.size) (h : RcAt w b off p) : RcAt w' b off p := rcAt_mono h hb hlt
set_option maxRecDepth 20000
set_option maxHeartbeats 2000000
theorem tableC (v : Value) (rs : RL) (W : World) (hv : HoldsR W v rs) (hr : SmlR rs) (hl : rs.length ≤ 1000000) :
    Calls Tryz.prog 37 #[v] W fun e W' => e = .returned (.map (some W.heap.size)) ∧ Tbi W' W.heap.size (tblOf rs) ∧ Below W.heap.size W W' := by
  have hmm := @run_makeMap Tryz.prog
  have HR := hide' hr
  obtain ⟨ao, cap, rfl, _, _, hc⟩ := hv
  have C := hide' hc
  have b1 := below_alloc' W (.map #[] 0)
  have T1 : Hid (Tbi (W.alloc (.map #[] 0)) W.heap.size []) := tbi_empty (heap_alloc_new W _)
  have B1 := hide' b1
  clear hc b1 hr
  obtain ⟨n, en⟩ : ∃ n, n = rs.length := ⟨_, rfl⟩
  have N : Hid (rs.length = n) := en.symm
  rw [N.out] at hl ⊢
  clear en
  go_enter Tryz.func37, Tryz.ntmps37
  go_wp2_with fail
  go_loopw [9] (fun i wr => ∃ k : Nat, k ≤ n ∧ i = .int .i64 k ∧ Hid (Tbi wr W.heap.size (tblOf (rs.take k))) ∧ Hid (Below W.heap.size W wr)) (fun i _ => n - (intOf i).toNat)
  case atStart => exact ⟨0, Nat.zero_le _, rfl, T1, B1⟩
  case round =>
    clear T1 B1
    obtain ⟨k, hk, rfl, T, B⟩ := hrel
    by_cases hlt : k < n
    · have G : Hid (k < rs.length) := by unfold Hid; rw [N.out]; exact hlt
      obtain ⟨b, off, hao, hblt, hcell⟩ := C.out (fun e => by have := G.out; rw [e] at this; simp at this)
      subst hao
      obtain ⟨r0, r1, r2, r3⟩ := rcAt_mono' B.out hblt (hcell k G.out)
      obtain ⟨s1, s2, s3⟩ := HR.out _ (List.getElem_mem G.out)
      have R := hide' (tbl_next rs k G.out)
      have hln : (tblOf (rs.take k)).length ≤ k := Nat.le_trans (tbl_len _) (List.length_take_le _ _)
      obtain ⟨⟨q0, q1, q2, q3⟩, hq⟩ : ∃ q : Rc, q = rs[k]'G.out := ⟨_, rfl⟩
      rw [← hq] at r0 r1 r2 r3 s1 s2 s3 R
      simp only at r0 r1 r2 r3 s1 s2 s3
      unfold S at r3
      obtain ⟨kk, rfl⟩ : ∃ kk : Nat, q2 = (kk : Int) := ⟨q2.toNat, by omega⟩
      have hsz : (⟨q3.toArray⟩ : ByteArray).size ≤ 140737488351232 := by rw [size_l]; omega
      have HB := fun W2 (h : Below wr.heap.size wr W2) => hide' (tbi_block T.out (h.block W.heap.size (tbi_lt T.out)))
      clear hcell hq
      generalize tblOf (rs.take k) = t at T R hln HB
      have hT2 := (HB _ (below_alloc' wr (.cells #[.int .i64 q0, .int .i64 q1, .int .i64 (kk : Int), .string ⟨q3.toArray⟩] 107))).out
      have hB2 := B.out.trans ((below_alloc' wr (.cells #[.int .i64 q0, .int .i64 q1, .int .i64 (kk : Int), .string ⟨q3.toArray⟩] 107)).mono B.out.size)
      by_cases h1 : q1 = 1
      · subst h1
        have R2 : Hid (tblOf (rs.take (k + 1)) = putN t q3 kk) := by unfold Hid; rw [R.out]; unfold stepR; simp
        obtain ⟨w5, hup, t5, f5⟩ := tbi_update hT2 (s := ⟨q3.toArray⟩) hsz kk (by omega)
        have T5 := hide' t5
        have B5 : Hid (Below W.heap.size W w5) := ⟨f5.os.trans hB2.os, f5.tape.trans hB2.tape, f5.output.trans hB2.output, Nat.le_trans hB2.size f5.size, fun i hi => by rw [f5.block i (Nat.lt_of_lt_of_le hi hB2.size) (by omega)]; exact hB2.block i hi⟩
        clear hT2 hB2 t5 f5 HB R T B
        go_wp2_with fail
        go_roundw
        case rel => exact ⟨k + 1, by omega, by go_num, by rw [R2.out]; exact T5, B5⟩
        case measure => simp [intOf]; omega
      · have h1' : (q1 == 1) = false := by simpa using h1
        have R2 : Hid (tblOf (rs.take (k + 1)) = delN t q3) := by unfold Hid; rw [R.out]; unfold stepR; simp [h1]
        obtain ⟨w5, hup, t5, f5⟩ := tbi_delete hT2 (s := ⟨q3.toArray⟩) hsz 0
        have T5 := hide' t5
        have B5 : Hid (Below W.heap.size W w5) := ⟨f5.os.trans hB2.os, f5.tape.trans hB2.tape, f5.output.trans hB2.output, Nat.le_trans hB2.size f5.size, fun i hi => by rw [f5.block i (Nat.lt_of_lt_of_le hi hB2.size) (by omega)]; exact hB2.block i hi⟩
        clear hT2 hB2 t5 f5 HB R T B h1
        go_wp2_with fail
        go_roundw
        case rel => exact ⟨k + 1, by omega, by go_num, by rw [R2.out]; exact T5, B5⟩
        case measure => simp [intOf]; omega
    · have E : Hid (rs.take k = rs) := List.take_of_length_le (by rw [N.out]; omega)
      rw [E.out] at T
      go_wp2_with fail
      go_ret
      exact ⟨rfl, T.out, B.out⟩
end Go.Proofs.YtibjcofbhldenaaGreatDoor
namespace Go.Proofs.YtibjcofbhldenaaGreatDoor
open Go.RowKit Go.Shelf
/-- between two steps: i of them have been made since W -/
def InL (o : Ow) (g lb : Nat) (W : World) (m K i : Nat) (st : LSt) (w : World) : Prop := ∃ o', LogS o' g lb st.1 st.2 w ∧ GrowL lb o W o' w ∧ Bd (m + i * K) st.1
theorem stepV_of {o : Ow} {g lb m K i k : Nat} {W : World} {fi ca : Array Value} {f : LSt → LSt × Int} (eg : ∀ args w, (callFunc k args).run Tryz.prog w = .ok (.enter k args) w)
    (h : ∀ o' st w, LogS o' g lb st.1 st.2 w → GrowL lb o W o' w → Bd (m + i * K) st.1 → Calls Tryz.prog k (fi ++ ca) w fun e w' => LPost o' g lb (f st) w e w')
    (hb : ∀ st, Bd (m + i * K) st.1 → Bd (m + (i + 1) * K) (f st).1.1) : StepV (InL o g lb W m K) i (.func (.func k) fi ca) f := by
  refine ⟨k, fi, ca, rfl, eg, ?_⟩
  rintro st w ⟨o', hl, hg, hbd⟩
  refine (h o' st w hl hg hbd).mono ?_
  rintro e w' ⟨he, o2, hl2, hg2⟩
  exact ⟨he, o2, hl2, hg.trans hg2, hb st hbd⟩
theorem bd_op {m i K : Nat} (op : DOp) (hK : 2 + op.data.length ≤ K) (st : LSt) (h : Bd (m + i * K) st.1) : Bd (m + (i + 1) * K) (opT op st).1.1 :=
  bd_mono (bd_step h op) (by rw [Nat.add_mul, Nat.one_mul]; omega)
theorem bd_set {m i K : Nat} (c : Int) (st : LSt) (h : Bd (m + i * K) st.1) : Bd (m + (i + 1) * K) (setT c st).1.1 := bd_mono h (by rw [Nat.add_mul]; omega)
theorem turnL {o : Ow} {g lb : Nat} {s : Dk} {c : Int} {W : World} (h : LogS o g lb s c W) (b n m K : Nat) (fs : List Value) (gs : List (LSt → LSt × Int)) (hf : fs.length = n) (hg : gs.length = n) (hn : n ≤ 1000)
    (hcell : ∀ j (hj : j < fs.length), W.cell? ⟨b, j, none⟩ = some fs[j]) (hb : b < W.heap.size) (ho : o b = none) (hne : b ≠ lb) (hB : Bd m s)
    (hst : ∀ i (h1 : i < fs.length) (h2 : i < gs.length), StepV (InL o g lb W m K) i fs[i] gs[i]) :
    Calls Tryz.prog 84 #[.slice (some ⟨b, 0, none⟩) n n] W fun e W' => LPost o g lb (runT gs (s, c)) W e W' ∧ Bd (m + n * K) (runT gs (s, c)).1.1 := by
  refine (inTurnC (InL o g lb W m K) b n fs gs hf hg hn hst ?_ (s, c) W ⟨o, h, GrowL.refl _ _ _, by rw [Nat.zero_mul]; exact hB⟩).mono ?_
  · rintro i st w ⟨o', hl, hgr, _⟩ j hj
    rw [World.cell?_of_block (w := W) (a := ⟨b, j, none⟩) (hgr.off.block b hb (fun hh => by
      rcases hh with hh | hh
      · exact hh ho
      · exact hne hh))]
    exact hcell j hj
  · rintro e w' ⟨he, i, hi, o', hl, hgr, hbd⟩
    exact ⟨⟨he, o', hl, hgr⟩, bd_mono hbd (by have := Nat.mul_le_mul_right K hi; omega)⟩
theorem bel_a (w : World) (x : Obj) : Below w.heap.size w (w.alloc x) := below_alloc' w x
theorem bel_da (w : World) (x : Obj) : Below w.heap.size w (w.drew.alloc x) := ((Below.refl _ w).drew).alloc (Nat.le_refl _) _
theorem bel_ad (w : World) (x : Obj) : Below w.heap.size w (w.alloc x).drew := (below_alloc' w x).drew
/-- a block that is made becomes a captured one -/
theorem cap_new {o : Ow} {g lb : Nat} {s : Dk} {c : Int} {W : World} (h : LogS o g lb s c W) (v : Value) (t : TypeId) : Cap o lb W.heap.size v (W.alloc (.cells #[v] t)) :=
  ⟨by simpa using cells_lit W #[v] t, none_of_lt (dsk_lt h.dsk) (Nat.le_refl _), by have := h.blk.2; omega⟩
theorem cap_below {o : Ow} {lb b : Nat} {v : Value} {W W' : World} (h : Cap o lb b v W) (hb : Below W.heap.size W W') : Cap o lb b v W' := ⟨blk_below h.1 hb, h.2.1, h.2.2⟩
theorem byt_below {o : Ow} {lb : Nat} {v : Value} {bs : List UInt8} {W W' : World} (h : Byt o lb v bs W) (hb : Below W.heap.size W W') : Byt o lb v bs W' :=
  ⟨holdsB_mono h.1 hb, fun ad n c e => by obtain ⟨h1, h2, h3⟩ := h.2 ad n c e; exact ⟨h1, h2, Nat.lt_of_lt_of_le h3 hb.size⟩⟩
set_option maxRecDepth 20000
set_option maxHeartbeats 1000000
def beginT : LSt → LSt × Int := runT [opT ⟨1, lgN, [], []⟩, opT ⟨3, lgN, [], []⟩, opT ⟨4, [], [], []⟩]
theorem syncNamesL {o : Ow} {g lb : Nat} {s : Dk} {c : Int} {W : World} (h : LogS o g lb s c W) (hB : Bd 90000000 s) :
    Calls Tryz.prog 157 #[lptr g] W fun e W' => LPost o g lb (opT ⟨4, [], [], []⟩ (s, c)) W e W' := by
  refine (syncNamesC h.dsk [] [] [] hB).mono ?_
  intro e W' sp
  exact lpost_step h sp
theorem beginC0 {o : Ow} {g lb : Nat} {s : Dk} {c : Int} {W : World} (h : LogS o g lb s c W) (m : Nat) (hm : m ≤ 80000000) (hB : Bd m s) :
    Calls Tryz.prog 127 #[lptr lb] W fun e W' => LPost o g lb (beginT (s, c)) W e W' ∧ Bd (m + 6) (beginT (s, c)).1.1 := by
  have b1 := bel_a W (.cells #[lptr lb] 95)
  have h1 := logS_below h b1
  have k1 := cap_new h (lptr lb) 95
  obtain ⟨c0, _, _⟩ := logS_cells h1
  have kc := cap_cell k1
  have C : Hid (∀ w' b, Below (W.alloc (.cells #[lptr lb] 95)).heap.size (W.alloc (.cells #[lptr lb] 95)) w' → (W.alloc (.cells #[lptr lb] 95)).heap.size ≤ b → b < w'.heap.size →
      w'.cell? ⟨b, 0, none⟩ = some (.func (.func 165) #[] #[lptr W.heap.size]) → w'.cell? ⟨b, 1, none⟩ = some (.func (.func 99) #[lptr lb] #[]) → w'.cell? ⟨b, 2, none⟩ = some (.func (.func 157) #[lptr g] #[]) →
      Calls Tryz.prog 84 #[.slice (some ⟨b, 0, none⟩) 3 3] w' fun e W' => (LPost o g lb (beginT (s, c)) W e W' ∧ Bd (m + 6) (beginT (s, c)).1.1) ∧ W'.cell? ⟨W.heap.size, 0, none⟩ = some (lptr lb) ∧ W'.cell? ⟨lb, 0, none⟩ = some (lptr g)) := by
    intro w' b hb hbl hbs e0 e1 e2
    have h2 := logS_below h1 hb
    have k2 := cap_below k1 hb
    refine (turnL h2 b 3 m 2 [.func (.func 165) #[] #[lptr W.heap.size], .func (.func 99) #[lptr lb] #[], .func (.func 157) #[lptr g] #[]] [opT ⟨1, lgN, [], []⟩, opT ⟨3, lgN, [], []⟩, opT ⟨4, [], [], []⟩] rfl rfl (by decide) (fun j hj => ?_) hbs (none_of_lt (dsk_lt h1.dsk) hbl) (by have := h1.blk.2; omega) hB (fun i i1 i2 => ?_)).mono ?_
    · match j, hj with
      | 0, _ => exact e0
      | 1, _ => exact e1
      | 2, _ => exact e2
    · match i, i1 with
      | 0, _ => exact stepV_of (enters_of Tryz.func165 (by kernel_rfl) rfl) (fun o' st w hl hg hb => beginF1 hl (cap_grow k2 hg) (bd_mono hb (by omega))) (bd_op _ (by decide))
      | 1, _ => exact stepV_of (enters_of Tryz.func99 (by kernel_rfl) rfl) (fun o' st w hl hg hb => syncF hl (bd_mono hb (by omega))) (bd_op _ (by decide))
      | 2, _ => exact stepV_of (enters_of Tryz.func157 (by kernel_rfl) rfl) (fun o' st w hl hg hb => syncNamesL hl (bd_mono hb (by omega))) (bd_op _ (by decide))
    · rintro e W' ⟨P, hbd⟩
      obtain ⟨_, o', hl', hg'⟩ := id P
      exact ⟨⟨lpost_from (growL_below (b1.trans (hb.mono b1.size))) P, hbd⟩, cap_cell (cap_grow k2 hg'), (logS_cells hl').1⟩
  clear h h1 k1 b1 hB hm
  go_enter Tryz.func127, Tryz.ntmps127
  go_wp2_with fail
  go_region_held3 (fun w' => w'.cell? ⟨W.heap.size, 0, none⟩ = some (lptr lb) ∧ w'.cell? ⟨lb, 0, none⟩ = some (lptr g)) (go_keep)
    (first | (go_at_call 84; refine (C.out _ _ ?_ ?_ ?_ ?_ ?_ ?_).mono ?_; (first | exact bel_a _ _ | exact bel_da _ _ | exact bel_ad _ _); simp; simp; simp; simp; simp; rintro e w2 ⟨P, j0, j1⟩; have PP := hide' P; obtain ⟨⟨rfl, _⟩, _⟩ := P))
  all_goals
    go_wp2_with fail
    go_ret
    exact PP.out
end Go.Proofs.YtibjcofbhldenaaGreatDoor
namespace Go.Proofs.YtibjcofbhldenaaGreatDoor
open Go.RowKit Go.Shelf
set_option maxRecDepth 20000
set_option maxHeartbeats 1000000
def fillT (b : List UInt8) : LSt → LSt × Int := runT [opT ⟨2, nwN, [], b⟩, opT ⟨3, nwN, [], []⟩, opT ⟨5, nwN, lgN, []⟩]
def remT (q : LSt × Int) : LSt × Int := (((q.1.1.step ⟨6, nwN, [], []⟩).1, q.1.2), q.2)
def replT (b : List UInt8) (st : LSt) : LSt × Int := if (fillT b st).2 = 0 then fillT b st else remT (fillT b st)
theorem lpost_rem {o : Ow} {g lb : Nat} {q : LSt × Int} {W W1 : World} {e : Ending} (h : LPost o g lb q W e W1) (hB : Bd 900000000 q.1.1) :
    Calls Tryz.prog 57 #[lptr g, .string nwBa] W1 fun e' W' => e' = .returned (.int .i64 (q.1.1.step ⟨6, nwN, [], []⟩).2) ∧ ∃ o', LogS o' g lb (remT q).1.1 (remT q).1.2 W' ∧ GrowL lb o W o' W' := by
  obtain ⟨he, o1, hl, hg⟩ := h
  refine (removeC hl.dsk nwBa [] [] (by decide) hB).mono ?_
  intro e' W' sp
  obtain ⟨x, o', hl', hg'⟩ := lpost_step hl sp
  exact ⟨x, o', hl', hg.trans hg'⟩
theorem replaceC {o : Ow} {g lb : Nat} {s : Dk} {c : Int} {W : World} (h : LogS o g lb s c W) (m : Nat) (hB : Bd m s) {da : Option Addr} {dl dc : Nat} {d : List UInt8} (hd : Byt o lb (.slice da dl dc) d W) (hl : m + 3 * (2 + d.length) ≤ 80000000) :
    Calls Tryz.prog 170 #[lptr lb, .slice da dl dc] W fun e W' => LPost o g lb (replT d (s, c)) W e W' ∧ Bd (m + 3 * (2 + d.length) + 2) (replT d (s, c)).1.1 := by
  have b1 := bel_a W (.cells #[lptr lb] 95)
  have b2 := bel_a (W.alloc (.cells #[lptr lb] 95)) (.cells #[.slice da dl dc] 57)
  have h1 := logS_below h b1
  have k1 := cap_below (cap_new h (lptr lb) 95) b2
  have k2 := cap_new h1 (.slice da dl dc) 57
  have h3 := logS_below h1 b2
  have b3 := b1.trans (b2.mono b1.size)
  have hd3 := byt_below hd b3
  rw [World.size_alloc] at k2
  obtain ⟨c0, _, _⟩ := logS_cells h3
  have kc := cap_cell k1
  have kd := cap_cell k2
  obtain ⟨W3, hW3⟩ : ∃ W3, W3 = (W.alloc (.cells #[lptr lb] 95)).alloc (.cells #[.slice da dl dc] 57) := ⟨_, rfl⟩
  have z3 : W3.heap.size = W.heap.size + 1 + 1 := by rw [hW3]; simp
  rw [← hW3] at k1 k2 h3 b3 hd3
  have C : Hid (Calls Tryz.prog 84 #[.slice (some ⟨W3.heap.size, 0, none⟩) 3 3] (W3.alloc (.cells #[.func (.func 193) #[] #[lptr W.heap.size, lptr (W.heap.size + 1)], .func (.func 194) #[] #[lptr W.heap.size], .func (.func 195) #[] #[lptr W.heap.size]] 103)) fun e W' =>
      (LPost o g lb (fillT d (s, c)) W e W' ∧ Bd (m + 3 * (2 + d.length)) (fillT d (s, c)).1.1) ∧ W'.cell? ⟨W.heap.size, 0, none⟩ = some (lptr lb) ∧ W'.cell? ⟨lb, 0, none⟩ = some (lptr g)) := by
    have b4 := bel_a W3 (.cells #[.func (.func 193) #[] #[lptr W.heap.size, lptr (W.heap.size + 1)], .func (.func 194) #[] #[lptr W.heap.size], .func (.func 195) #[] #[lptr W.heap.size]] 103)
    have h4 := logS_below h3 b4
    have q1 := cap_below k1 b4
    have q2 := cap_below k2 b4
    have q3 := byt_below hd3 b4
    refine (turnL h4 W3.heap.size 3 m (2 + d.length) [.func (.func 193) #[] #[lptr W.heap.size, lptr (W.heap.size + 1)], .func (.func 194) #[] #[lptr W.heap.size], .func (.func 195) #[] #[lptr W.heap.size]] [opT ⟨2, nwN, [], d⟩, opT ⟨3, nwN, [], []⟩, opT ⟨5, nwN, lgN, []⟩] rfl rfl (by decide) (fun j hj => ?_) (by simp) (none_of_lt (dsk_lt h3.dsk) (Nat.le_refl _)) (by have := h3.blk.2; omega) hB (fun i i1 i2 => ?_)).mono ?_
    · match j, hj with
      | 0, _ => simp
      | 1, _ => simp
      | 2, _ => simp
    · match i, i1 with
      | 0, _ => exact stepV_of (enters_of Tryz.func193 (by kernel_rfl) rfl) (fun o' st w hl' hg hb => replaceF1 hl' (cap_grow q1 hg) (cap_grow q2 hg) (byt_grow q3 hg) (by omega) (bd_mono hb (by omega))) (bd_op _ (Nat.le_refl _))
      | 1, _ => exact stepV_of (enters_of Tryz.func194 (by kernel_rfl) rfl) (fun o' st w hl' hg hb => replaceF2 hl' (cap_grow q1 hg) (bd_mono hb (by omega))) (bd_op _ (by show 2 + 0 ≤ _; omega))
      | 2, _ => exact stepV_of (enters_of Tryz.func195 (by kernel_rfl) rfl) (fun o' st w hl' hg hb => replaceF3 hl' (cap_grow q1 hg) (bd_mono hb (by omega))) (bd_op _ (by show 2 + 0 ≤ _; omega))
    · rintro e W' ⟨P, hbd⟩
      obtain ⟨_, o', hl', hg'⟩ := id P
      exact ⟨⟨lpost_from (growL_below (b3.trans (b4.mono b3.size))) P, hbd⟩, cap_cell (cap_grow q1 hg'), (logS_cells hl').1⟩
  rw [hW3, World.size_alloc, World.size_alloc] at C
  have HL := hide' hl
  clear h h1 h3 k1 k2 b1 b2 b3 hB hl hd hd3 hW3 z3 W3
  by_cases hz : (fillT d (s, c)).2 = 0
  · have R : Hid (replT d (s, c) = fillT d (s, c)) := by unfold Hid replT; rw [if_pos hz]
    go_enter Tryz.func170, Tryz.ntmps170
    go_wp2_with fail
    refine C.out.mono ?_
    rintro e w1 ⟨P, _, _⟩
    have PP := hide' P
    obtain ⟨⟨rfl, _⟩, _⟩ := P
    go_wp2_with fail
    go_ret
    rw [R.out]
    exact ⟨by have := PP.out.1; rw [hz] at this; exact this, bd_mono PP.out.2 (by omega)⟩
  · have R : Hid (replT d (s, c) = remT (fillT d (s, c))) := by unfold Hid replT; rw [if_neg hz]
    obtain ⟨y, hy⟩ : ∃ y, y = (fillT d (s, c)).2 := ⟨_, rfl⟩
    have hy0 : decide (y = 0) = false := by rw [decide_eq_false_iff_not, hy]; exact hz
    have hy2 : ¬ y = 0 := by rw [hy]; exact hz
    have HY := hide' hy
    clear hz hy
    go_enter Tryz.func170, Tryz.ntmps170
    go_wp2_with fail
    refine C.out.mono ?_
    rintro e w1 ⟨P, j0, j1⟩
    have PP := hide' P
    obtain ⟨⟨rfl, _⟩, _⟩ := P
    rw [← HY.out]
    have CR := hide' (lpost_rem PP.out.1 (bd_mono PP.out.2 (by have := HL.out; omega)))
    go_wp2_with fail
    refine CR.out.mono ?_
    rintro e w2 ⟨rfl, o', hl', hg'⟩
    have H1 := hide' hl'
    have H2 := hide' hg'
    clear hl' hg'
    go_wp2_with fail
    go_ret
    rw [R.out]
    refine ⟨⟨?_, o', H1.out, H2.out⟩, bd_step PP.out.2 ⟨6, nwN, [], []⟩⟩
    exact congrArg (fun z => Ending.returned (Value.int .i64 z)) HY.out
theorem rewriteF2 {o : Ow} {g lb bl bb : Nat} {s : Dk} {c : Int} {W : World} (h : LogS o g lb s c W) (hc : Cap o lb bl (lptr lb) W) (m : Nat) (hB : Bd m s) {da : Option Addr} {dl dc : Nat} {d : List UInt8} (hc2 : Cap o lb bb (.slice da dl dc) W) (hd : Byt o lb (.slice da dl dc) d W) (hl : m + 3 * (2 + d.length) ≤ 80000000) :
    Calls Tryz.prog 169 #[lptr bl, lptr bb] W fun e W' => LPost o g lb (replT d (s, c)) W e W' := by
  have C := hide' (replaceC h m hB hd hl)
  have k0 := cap_cell hc
  have k1 := cap_cell hc2
  clear h hB hc hc2 hd
  go_enter Tryz.func169, Tryz.ntmps169
  go_wp2_with fail
  refine C.out.mono ?_
  rintro e w1 ⟨P, _⟩
  have PP := hide' P
  obtain ⟨rfl, _⟩ := P
  go_wp2_with fail
  go_ret
  exact PP.out
/-- the bytes of a list of records, numbered from i on; the first error -/
def encG : Nat → RL → List UInt8 × Int
  | _, [] => ([], 0)
  | i, r :: rs => if (encOf i r.2.1 r.2.2.1 r.2.2.2).2 = 0 then (if (encG (i + 1) rs).2 = 0 then ((encOf i r.2.1 r.2.2.1 r.2.2.2).1 ++ (encG (i + 1) rs).1, 0) else ([], (encG (i + 1) rs).2)) else ([], (encOf i r.2.1 r.2.2.1 r.2.2.2).2)
/-- what is answered where 'a' has been written and 'q' is what is still to come -/
def encH (a : List UInt8) (q : List UInt8 × Int) : List UInt8 × Int := if q.2 = 0 then (a ++ q.1, 0) else ([], q.2)
theorem encH_nil (q : List UInt8 × Int) (h : q.2 ≠ 0 → q.1 = []) : encH [] q = q := by
  unfold encH
  split
  · rename_i h0; rw [List.nil_append, ← h0]
  · rename_i h0; rw [← h h0]
theorem encG_bad : ∀ (rs : RL) (i : Nat), (encG i rs).2 ≠ 0 → (encG i rs).1 = [] := by
  intro rs
  induction rs with
  | nil => intro i h; rfl
  | cons r rs ih =>
    intro i h
    unfold encG at h ⊢
    split
    · rename_i h1
      rw [if_pos h1] at h
      split
      · rename_i h2; rw [if_pos h2] at h; exact absurd rfl h
      · rfl
    · rfl
theorem encH_ok {a : List UInt8} {i : Nat} {r : Rc} {rs : RL} (h : (encOf i r.2.1 r.2.2.1 r.2.2.2).2 = 0) : encH a (encG i (r :: rs)) = encH (a ++ (encOf i r.2.1 r.2.2.1 r.2.2.2).1) (encG (i + 1) rs) := by
  show encH a (if _ then _ else _) = _
  rw [if_pos h]
  unfold encH
  split
  · rename_i h2; rw [if_pos rfl, List.append_assoc]
  · rfl
theorem encH_bad {a : List UInt8} {i : Nat} {r : Rc} {rs : RL} (h : (encOf i r.2.1 r.2.2.1 r.2.2.2).2 ≠ 0) : encH a (encG i (r :: rs)) = ([], (encOf i r.2.1 r.2.2.1 r.2.2.2).2) := by
  show encH a (if _ then _ else _) = _
  rw [if_neg h]
  unfold encH
  rw [if_neg h]
theorem enc_len (seq op no : Int) (id : List UInt8) : (encOf seq op no id).1.length ≤ 15 + id.length := by
  unfold encOf
  split
  · split
    · show (recL _ _ _ _).length ≤ _; rw [recL_len]; omega
    · exact Nat.zero_le _
  · exact Nat.zero_le _
/-- how long a list of records is at most, written -/
def bulkR : RL → Nat
  | [] => 0
  | r :: rs => 15 + r.2.2.2.length + bulkR rs
theorem bulkR_drop (rs : RL) (k : Nat) (h : k < rs.length) : bulkR (rs.drop k) = 15 + rs[k].2.2.2.length + bulkR (rs.drop (k + 1)) := by rw [List.drop_eq_getElem_cons h]; rfl
theorem encH_len (rs : RL) : ∀ (i : Nat) (a : List UInt8), (encH a (encG i rs)).1.length ≤ a.length + bulkR rs := by
  induction rs with
  | nil => intro i a; show (encH a ([], 0)).1.length ≤ _; unfold encH; rw [if_pos rfl]; simp [bulkR]
  | cons r rs ih =>
    intro i a
    by_cases h : (encOf i r.2.1 r.2.2.1 r.2.2.2).2 = 0
    · rw [encH_ok h]
      have h1 := ih (i + 1) (a ++ (encOf i r.2.1 r.2.2.1 r.2.2.2).1)
      have h2 := enc_len i r.2.1 r.2.2.1 r.2.2.2
      rw [List.length_append] at h1
      show _ ≤ a.length + (15 + r.2.2.2.length + bulkR rs)
      omega
    · rw [encH_bad h]; exact Nat.zero_le _
end Go.Proofs.YtibjcofbhldenaaGreatDoor
