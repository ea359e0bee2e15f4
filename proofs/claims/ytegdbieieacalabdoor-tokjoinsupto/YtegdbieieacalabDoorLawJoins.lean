/- Plain lemmas on tokens that are put together as a list, and the walk of the law TokJoins. -/
import Derived.Test.YtegdbieieacalabDoorAlive
import Derived.Test.YtegdbieieacalabDoorTidyP
import Derived.Test.YtegdbieieacalabDoorTkT
namespace Go.Proofs.YtegdbieieacalabDoor
open Go.RowKit
def joinT (t : List UInt8) : List UInt8 := 32 :: (t ++ [9, 44])
def joined (ts : List (List UInt8)) : List UInt8 := ts.flatMap joinT
def bulk (ts : List (List UInt8)) : Nat := (ts.map (fun t => t.length + 1)).sum
theorem bulk_cons (t : List UInt8) (ts : List (List UInt8)) : bulk (t :: ts) = t.length + 1 + bulk ts := by simp [bulk]
theorem bulk_len (ts : List (List UInt8)) : ts.length ≤ bulk ts := by
  induction ts with
  | nil => simp
  | cons t ts ih => rw [bulk_cons, List.length_cons]; omega
theorem bulk_mem (ts : List (List UInt8)) (t : List UInt8) (h : t ∈ ts) : t.length ≤ bulk ts := by
  induction ts with
  | nil => cases h
  | cons u ts ih =>
    rw [bulk_cons]
    rcases List.mem_cons.1 h with rfl | h
    · omega
    · have := ih h; omega
theorem joined_len (ts : List (List UInt8)) : (joined ts).length ≤ 3 * bulk ts := by
  induction ts with
  | nil => simp [joined]
  | cons t ts ih =>
    have e : joined (t :: ts) = joinT t ++ joined ts := by simp [joined]
    rw [e, bulk_cons, List.length_append]
    simp only [joinT, List.length_cons, List.length_append, List.length_nil]
    omega
theorem bulk_take (ts : List (List UInt8)) : ∀ k, bulk (ts.take k) ≤ bulk ts := by
  induction ts with
  | nil => intro k; simp
  | cons t ts ih =>
    intro k
    cases k with
    | zero => simp [bulk]
    | succ k => rw [List.take_succ_cons, bulk_cons, bulk_cons]; have := ih k; omega
theorem tokI_not (c : Int) (h : tokI c = true) : ¬ c = 34 ∧ ¬ c = 44 ∧ ¬ c = 32 ∧ ¬ c = 9 := by
  refine ⟨?_, ?_, ?_, ?_⟩
  all_goals
    rintro rfl
    revert h
    decide
def allTok (t : List UInt8) : Prop := ∀ x ∈ t, tokI (x.toNat : Int) = true
theorem isTok_parts (t : List UInt8) (h : isTok t = true) : t ≠ [] ∧ allTok t := by
  unfold isTok at h
  rw [Bool.and_eq_true, List.all_eq_true] at h
  refine ⟨?_, h.2⟩
  intro e; rw [e] at h; simp at h
theorem pcs_tok : ∀ (t : List UInt8), allTok t → ∀ cur m, pcs 44 false cur (t ++ m) = pcs 44 false (cur ++ t) m := by
  intro t
  induction t with
  | nil => intro _ cur m; simp
  | cons x t ih =>
    intro h cur m
    have hx := tokI_not _ (h x List.mem_cons_self)
    rw [List.cons_append, pcs_plain _ _ _ _ _ hx.1 (by simp) (by simp; exact hx.2.1), ih (fun y hy => h y (List.mem_cons_of_mem _ hy))]
    simp
theorem blankB_tok (x : UInt8) (h : tokI (x.toNat : Int) = true) : blankB x = false := by
  have h2 := tokI_not _ h
  have : blankB x = blankI (x.toNat : Int) := blank_is x
  rw [this]; unfold blankI; simp; omega
theorem trim_mid (t : List UInt8) (hne : t ≠ []) (h : allTok t) : trimT (32 :: (t ++ [9])) = t := by
  have hr : t.reverse ≠ [] := by simpa using hne
  obtain ⟨y, m, e⟩ : ∃ y m, t.reverse = y :: m := by
    cases e : t.reverse with
    | nil => exact absurd e hr
    | cons y m => exact ⟨y, m, rfl⟩
  have hy : blankB y = false := blankB_tok y (h y (by have : y ∈ t.reverse := by rw [e]; exact List.mem_cons_self
                                                      exact List.mem_reverse.1 this))
  obtain ⟨x, m', e'⟩ : ∃ x m', t = x :: m' := by
    cases t with
    | nil => exact absurd rfl hne
    | cons x m' => exact ⟨x, m', rfl⟩
  have hx : blankB x = false := blankB_tok x (h x (by rw [e']; exact List.mem_cons_self))
  rw [trimT_eq]
  have r1 : (32 :: (t ++ [9])).reverse = 9 :: (t.reverse ++ [32]) := by simp
  have b9 : blankB 9 = true := by decide
  have b32 : blankB 32 = true := by decide
  rw [r1, List.dropWhile_cons_of_pos b9, e, List.cons_append, List.dropWhile_cons_of_neg (by rw [hy]; simp)]
  have r2 : (y :: (m ++ [32])).reverse = 32 :: t := by
    rw [show y :: (m ++ [32]) = t.reverse ++ [32] by rw [e]; rfl]; simp
  rw [r2, List.dropWhile_cons_of_pos b32, e', List.dropWhile_cons_of_neg (by rw [hx]; simp)]
theorem pieces_joined (t : List UInt8) (h : allTok t) (m : List UInt8) : pieces 44 (joinT t ++ m) = (32 :: (t ++ [9])) :: pieces 44 m := by
  unfold pieces joinT
  rw [List.cons_append, pcs_plain _ _ _ _ _ (by decide) (by simp) (by simp), List.append_assoc]
  rw [pcs_tok t h]
  show pcs 44 false _ (9 :: 44 :: m) = _
  rw [pcs_plain _ _ _ _ _ (by decide) (by simp) (by simp), pcs_cut _ _ _ _ (by decide) (by decide)]
  simp
theorem listOf_joined : ∀ ts : List (List UInt8), (∀ t ∈ ts, isTok t = true) → listOf (joined ts) = ts := by
  intro ts
  induction ts with
  | nil => intro _; decide
  | cons t ts ih =>
    intro h
    obtain ⟨hne, ha⟩ := isTok_parts t (h t List.mem_cons_self)
    have e : joined (t :: ts) = joinT t ++ joined ts := by simp [joined]
    have ih' := ih (fun u hu => h u (List.mem_cons_of_mem _ hu))
    unfold listOf at ih' ⊢
    rw [e, pieces_joined t ha, List.map_cons, trim_mid t hne ha]
    have : filt (t :: (pieces 44 (joined ts)).map trimT) = t :: filt ((pieces 44 (joined ts)).map trimT) := by
      unfold filt
      rw [List.filter_cons_of_pos]
      cases t with
      | nil => exact absurd rfl hne
      | cons _ _ => rfl
    rw [this, ih']
theorem joined_snoc (ts : List (List UInt8)) (k : Nat) (h : k < ts.length) : joined (ts.take (k + 1)) = joined (ts.take k) ++ joinT ts[k] := by
  unfold joined
  rw [List.take_succ_eq_append_getElem h, List.flatMap_append, List.flatMap_cons, List.flatMap_nil, List.append_nil]
theorem join_bytes (sb x : ByteArray) (l t : List UInt8) (h1 : sb.data.toList = l) (h2 : x.data.toList = t) : (sb ++ ((⟨#[32]⟩ ++ x) ++ ⟨#[9, 44]⟩)).data.toList = l ++ joinT t := by
  subst h1 h2
  simp [joinT]
theorem size_of_list' (sb : ByteArray) (l : List UInt8) (h : sb.data.toList = l) : sb.size = l.length := by subst h; simp
namespace tokJoins
set_option maxHeartbeats 2000000 in
theorem walk (v : Value) (ts : List (List UInt8)) (w : World) (hv : Holds w v ts) (hs : bulk ts ≤ 1048576) :
    Calls Tryd.prog 3 #[v] w fun e w' => e = .returned (.bool true) ∧ Below w.heap.size w w' := by
  have hl : ts.length ≤ 1048576 := Nat.le_trans (bulk_len ts) hs
  have HV : Hid (Holds w v ts) := hv
  obtain ⟨ao, cap, e0, hcell⟩ := hv
  rw [e0] at HV ⊢
  clear e0
  by_cases hne : ts = []
  · subst hne
    clear hcell hl hs
    have cL : Hid (∀ W : World, Calls Tryd.prog 9 #[.string ⟨#[]⟩] W fun e' w' => ∃ v', e' = .returned v' ∧ OwnS W v' [] w') := by
      intro W
      have := listTok ⟨#[]⟩ W (by decide)
      have e : listOf (⟨#[]⟩ : ByteArray).data.toList = [] := by decide
      rw [e] at this
      exact this
    go_enter Tryd.func3, Tryd.ntmps3
    go_wp2_with fail
    refine (alive _).mono ?_
    rintro e w1 ⟨rfl, b1⟩
    have B1 : Hid _ := b1
    clear b1
    go_wp2_with fail
    refine wp_loop_rounds 1 ?_
    rw [rounds_succ]
    go_wp2_with fail
    refine (cL.out _).mono ?_
    rintro e w2 ⟨v2, rfl, ho⟩
    have Ho : Hid _ := ho
    clear ho
    go_wp2_with fail
    refine (sameTexts v2 _ [] [] _ (holds_own Ho.out) (holds_mono (holds_mono HV.out B1.out) Ho.out.2) (by simp) (by simp)).mono ?_
    rintro e w3 ⟨rfl, n, rfl⟩
    go_wp2_with fail
    go_ret
    have z1 := B1.out.size
    exact ⟨rfl, below_drawn (B1.out.trans (Ho.out.2.mono z1)) _⟩
  · obtain ⟨b, off, hao, hblt, hcells⟩ := hcell hne
    have C : Hid _ := hcells
    rw [hao] at HV ⊢
    clear hcells hcell hao hne
    obtain ⟨n, en⟩ : ∃ n, n = ts.length := ⟨_, rfl⟩
    have N : Hid (ts.length = n) := en.symm
    rw [N.out] at HV hl ⊢
    clear en
    go_enter Tryd.func3, Tryd.ntmps3
    go_wp2_with fail
    refine (alive _).mono ?_
    rintro e w1 ⟨rfl, b1⟩
    have B1 : Hid _ := b1
    clear b1
    go_wp2_with fail
    go_loop [3, 4] (fun sv i => ∃ (k : Nat) (sb : ByteArray), k ≤ n ∧ i = .int .i64 k ∧ sv = .string sb ∧ Hid (sb.data.toList = joined (ts.take k)) ∧ Hid (∀ t ∈ ts.take k, isTok t = true)) (fun _ i => n - (intOf i).toNat)
    case atStart => exact ⟨0, ⟨#[]⟩, by omega, rfl, rfl, by unfold Hid; simp [joined], fun t ht => by simp at ht⟩
    case round =>
      obtain ⟨k, sb, hk, rfl, rfl, hJ, hT⟩ := hrel
      have hsb : sb.size ≤ 3145728 := by
        rw [size_of_list' sb _ hJ.out]
        have h1 := joined_len (ts.take k)
        have h2 := bulk_take ts k
        omega
      by_cases hlt : k < n
      · have G : Hid (k < ts.length) := by unfold Hid; rw [N.out]; exact hlt
        have hc0 := C.out k G.out
        have hm := bulk_mem ts _ (List.getElem_mem G.out)
        have J1 : Hid (joined (ts.take (k + 1)) = joined (ts.take k) ++ joinT (ts[k]'G.out)) := joined_snoc ts k G.out
        have T1 : Hid (ts.take (k + 1) = ts.take k ++ [ts[k]'G.out]) := List.take_succ_eq_append_getElem G.out
        generalize ts[k]'G.out = t at hc0 hm J1 T1
        obtain ⟨x, hx⟩ : ∃ x : ByteArray, x = ⟨t.toArray⟩ := ⟨_, rfl⟩
        have XT : Hid (x.data.toList = t) := by unfold Hid; rw [hx]
        have hxs : x.size ≤ 1048576 := by rw [size_of_list' x t XT.out]; omega
        have ck : w1.cell? ⟨b, off + k, none⟩ = some (.string x) := by rw [(B1.out.cell (p := ⟨b, off + k, none⟩) hblt), hc0, hx]; rfl
        have cT : Hid (∀ W : World, Calls Tryd.prog 7 #[.string x] W fun e w' => e = .returned (.bool (isTok t)) ∧ w' = W) := by
          intro W
          have := tokenTok x W (by omega)
          rw [XT.out] at this
          exact this
        clear hc0 hm hx
        cases ht : isTok t with
        | false =>
          rw [ht] at cT
          go_wp2_with (go_at_call 7; refine (cT.out _).mono ?_; rintro e' w3 ⟨rfl, rfl⟩)
          go_ret
          exact ⟨rfl, B1.out⟩
        | true =>
          rw [ht] at cT
          have T2 : Hid (∀ u ∈ ts.take (k + 1), isTok u = true) := by
            intro u hu
            rw [T1.out] at hu
            rcases List.mem_append.1 hu with h | h
            · exact hT.out u h
            · simp at h; rw [h]; exact ht
          have J2 : Hid ((sb ++ ((⟨#[32]⟩ ++ x) ++ ⟨#[9, 44]⟩)).data.toList = joined (ts.take (k + 1))) := by
            unfold Hid; rw [J1.out]; exact join_bytes _ _ _ _ hJ.out XT.out
          clear ht
          go_wp2_with (go_at_call 7; refine (cT.out _).mono ?_; rintro e' w3 ⟨rfl, rfl⟩)
          go_round
          case rel => exact ⟨k + 1, _, by omega, by go_num, rfl, J2, T2⟩
          case measure => simp [intOf]; omega
      · have E : Hid (ts.take k = ts) := List.take_of_length_le (by rw [N.out]; omega)
        have cL : Hid (∀ W : World, Calls Tryd.prog 9 #[.string sb] W fun e' w' => ∃ v', e' = .returned v' ∧ OwnS W v' ts w') := by
          intro W
          have := listTok sb W (by omega)
          rw [hJ.out, E.out, listOf_joined ts (fun t ht => hT.out t (by rw [E.out]; exact ht))] at this
          exact this
        go_wp2_with fail
        refine (cL.out _).mono ?_
        rintro e w2 ⟨v2, rfl, ho⟩
        have Ho : Hid _ := ho
        clear ho
        go_wp2_with fail
        refine (sameTexts v2 _ ts ts _ (holds_own Ho.out) (holds_mono (holds_mono HV.out B1.out) Ho.out.2) (by rw [N.out]; omega) (by rw [N.out]; omega)).mono ?_
        rintro e w3 ⟨rfl, m, rfl⟩
        go_wp2_with fail
        go_ret
        have z1 := B1.out.size
        exact ⟨rfl, below_drawn (B1.out.trans (Ho.out.2.mono z1)) _⟩
end tokJoins
end Go.Proofs.YtegdbieieacalabDoor
