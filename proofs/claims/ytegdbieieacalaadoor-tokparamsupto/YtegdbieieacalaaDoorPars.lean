/- The contract of Params: what parsOf says of the pieces behind the first. -/
import Derived.Test.YtegdbieieacalaaDoorOwnP
namespace Go.Proofs.YtegdbieieacalaaDoor
open Go.RowKit
/-- what Params answers: p0 and rest are the trimmed pieces -/
def ParPost (w : World) (p0 : List UInt8) (rest : List (List UInt8)) (e : Ending) (w' : World) : Prop :=
  (∀ acc, parsOf (filt rest) = some acc → ∃ lv, e = .returned (.tuple #[.string ⟨p0.toArray⟩, lv, .int .i64 0]) ∧ OwnP w lv acc w') ∧
  (parsOf (filt rest) = none → e = .returned (.tuple #[.string ⟨#[]⟩, .slice none 0 0, .int .i64 12]) ∧ Below w.heap.size w w')
theorem parPost_some {w w' : World} {p0 : List UInt8} {rest : List (List UInt8)} {lv : Value} {acc : List (List UInt8 × List UInt8)} (h : parsOf (filt rest) = some acc) (ho : OwnP w lv acc w') :
    ParPost w p0 rest (.returned (.tuple #[.string ⟨p0.toArray⟩, lv, .int .i64 0])) w' := by
  refine ⟨fun acc' h' => ?_, fun h' => ?_⟩
  · rw [h] at h'; simp at h'; subst h'; exact ⟨lv, rfl, ho⟩
  · rw [h] at h'; cases h'
theorem parPost_none {w w' : World} {p0 : List UInt8} {rest : List (List UInt8)} (h : parsOf (filt rest) = none) (hb : Below w.heap.size w w') :
    ParPost w p0 rest (.returned (.tuple #[.string ⟨#[]⟩, .slice none 0 0, .int .i64 12])) w' := by
  refine ⟨fun acc' h' => ?_, fun _ => ⟨rfl, hb⟩⟩
  rw [h] at h'; cases h'
theorem filt_split (rest : List (List UInt8)) (k : Nat) (h : k < rest.length) : filt rest = filt (rest.take k ++ [rest[k]]) ++ filt (rest.drop (k + 1)) := by
  unfold filt
  rw [← List.filter_append, ← List.take_succ_eq_append_getElem h, List.take_append_drop]
theorem pars_fail (rest : List (List UInt8)) (k : Nat) (h : k < rest.length) (acc : List (List UInt8 × List UInt8)) (ha : parsOf (filt (rest.take k)) = some acc) (hne : rest[k].isEmpty = false) (hp : paramOf rest[k] = none) : parsOf (filt rest) = none := by
  rw [filt_split rest k h]
  refine parsOf_prefix_none _ _ ?_
  rw [filt_snoc_some _ _ hne, parsOf_snoc, ha, hp]
  rfl
theorem pars_step (rest : List (List UInt8)) (k : Nat) (h : k < rest.length) (acc : List (List UInt8 × List UInt8)) (ha : parsOf (filt (rest.take k)) = some acc) (hne : rest[k].isEmpty = false) (x : List UInt8 × List UInt8) (hp : paramOf rest[k] = some x) : parsOf (filt (rest.take (k + 1))) = some (acc ++ [x]) := by
  rw [List.take_succ_eq_append_getElem h, filt_snoc_some _ _ hne, parsOf_snoc, ha, hp]
  rfl
theorem pars_skip (rest : List (List UInt8)) (k : Nat) (h : k < rest.length) (he : rest[k].isEmpty = true) : filt (rest.take (k + 1)) = filt (rest.take k) := by
  rw [List.take_succ_eq_append_getElem h, filt_snoc_nil _ _ he]
theorem parsOf_len : ∀ (ps : List (List UInt8)) (acc : List (List UInt8 × List UInt8)), parsOf ps = some acc → acc.length = ps.length := by
  intro ps
  induction ps with
  | nil => intro acc h; simp [parsOf] at h; subst h; rfl
  | cons p ps ih =>
    intro acc h
    rw [parsOf] at h
    cases e : paramOf p with
    | none => rw [e] at h; cases h
    | some x =>
      rw [e] at h
      cases e2 : parsOf ps with
      | none => rw [e2] at h; cases h
      | some l =>
        rw [e2] at h
        simp at h
        subst h
        simp [ih l e2]
theorem paramV_some (t : List UInt8) (x : List UInt8 × List UInt8) (h : paramOf t = some x) : paramV t = .tuple #[.agg #[.string ⟨x.1.toArray⟩, .string ⟨x.2.toArray⟩], .int .i64 0] := by unfold paramV; rw [h]
theorem paramV_none (t : List UInt8) (h : paramOf t = none) : paramV t = .tuple #[.agg #[.string ⟨#[]⟩, .string ⟨#[]⟩], .int .i64 12] := by unfold paramV; rw [h]
set_option maxHeartbeats 2000000 in
theorem parsTok (s : ByteArray) (w : World) (hs : s.size ≤ 4194304) (p0 : List UInt8) (rest : List (List UInt8)) (he : (pieces 59 s.data.toList).map trimT = p0 :: rest) :
    Calls Tryd.prog 19 #[.string s] w fun e w' => ParPost w p0 rest e w' := by
  have hc := piecesTok s 59 w hs
  have hn : (p0 :: rest).length ≤ 4194305 := by rw [← he, List.length_map]; have := pieces_len 59 s.data.toList; rw [len_list] at this; omega
  have hm : Hid (∀ p ∈ p0 :: rest, p.length ≤ 4194304) := by
    intro p hp
    rw [← he] at hp
    obtain ⟨q, h0, rfl⟩ := List.mem_map.1 hp
    have h1 := pieces_mem 59 _ _ h0
    have h2 := trimT_len q
    rw [len_list] at h1
    omega
  rw [he] at hc
  clear he
  have hm0 := hm.out p0 List.mem_cons_self
  go_enter Tryd.func19, Tryd.ntmps19
  go_wp2_with fail
  refine hc.mono ?_
  rintro e w1 ⟨v, rfl, hown⟩
  obtain ⟨ao, cap, hv, hcell⟩ := holds_own hown
  obtain ⟨b, off, hao, hblt, hcells⟩ := hcell (by simp)
  have C : Hid _ := hcells
  have B1 : Hid (Below w.heap.size w w1) := hown.2
  have hcap : (p0 :: rest).length ≤ cap := by rw [hv] at hown; exact ownS_cap hown
  rw [hv, hao]
  clear hcell hcells hc hown hv hao
  rw [List.length_cons] at hcap hn ⊢
  obtain ⟨n, en⟩ : ∃ n, n = rest.length := ⟨_, rfl⟩
  have N : Hid (rest.length = n) := en.symm
  rw [N.out] at hcap hn ⊢
  clear en
  have c0 : w1.cell? ⟨b, off, none⟩ = some (.string ⟨p0.toArray⟩) := C.out 0 (by simp)
  obtain ⟨ao', hsl, hao'⟩ := tail1 b off n cap hcap w1
  by_cases hz : n = 0
  · subst hz
    have hr : rest = [] := List.eq_nil_of_length_eq_zero N.out
    have F : Hid (parsOf (filt rest) = some []) := by rw [hr]; rfl
    clear hao' hr
    go_wp2_with fail
    refine wp_loop_rounds 1 ?_
    rw [rounds_succ]
    go_wp2_with fail
    refine (cloneL p0 _ (by omega)).mono ?_
    rintro e w2 ⟨rfl, hb2⟩
    go_wp2_with fail
    go_ret3
    exact parPost_some F.out (ownP_nil _ _ (B1.out.trans (hb2.mono B1.out.size)))
  · have e1 := hao' (by omega)
    rw [e1] at hsl
    clear hao' e1 hz
    go_wp2_with fail
    clear hsl
    go_loopw [6, 16] (fun v i wr => ∃ (k : Nat) (acc : List (List UInt8 × List UInt8)), k ≤ n ∧ i = .int .i64 k ∧ Hid (parsOf (filt (rest.take k)) = some acc) ∧ OwnP w1 v acc wr) (fun _ i _ => n - (intOf i).toNat)
    case atStart => exact ⟨0, [], by omega, rfl, rfl, ownP_nil _ _ (Below.refl _ _)⟩
    case round =>
      obtain ⟨k, acc, hk, rfl, hA, ho⟩ := hrel
      have hacc : acc.length ≤ k := by
        rw [parsOf_len _ _ hA.out]
        exact Nat.le_trans (filt_len _) (List.length_take_le _ _)
      by_cases hlt : k < n
      · have G : Hid (k < rest.length) := by unfold Hid; rw [N.out]; exact hlt
        have ck : wr.cell? ⟨b, off + 1 + k, none⟩ = some (.string ⟨(rest[k]'G.out).toArray⟩) := by
          rw [(ho.2.cell (p := ⟨b, off + 1 + k, none⟩) hblt)]
          have := C.out (k + 1) (by have := G.out; simp; omega)
          rw [show off + 1 + k = off + (k + 1) by omega]
          simp only [List.getElem_cons_succ] at this
          exact this
        have hpm := hm.out _ (List.mem_cons_of_mem _ (List.getElem_mem G.out))
        cases hem : (rest[k]'G.out).isEmpty with
        | true =>
          have F : Hid (filt (rest.take (k + 1)) = filt (rest.take k)) := pars_skip rest k G.out hem
          generalize rest[k]'G.out = q at ck hpm hem
          go_wp2_with fail
          go_roundw
          case rel => exact ⟨k + 1, acc, by omega, by go_num, by rw [F.out]; exact hA, ho⟩
          case measure => simp [intOf]; omega
        | false =>
          have cP : Hid (∀ W, _) := fun W => paramTok (rest[k]'G.out) W hpm
          cases hp : paramOf (rest[k]'G.out) with
          | none =>
            have F : Hid (parsOf (filt rest) = none) := pars_fail rest k G.out acc hA.out hem hp
            rw [paramV_none _ hp] at cP
            clear hp
            generalize rest[k]'G.out = q at ck hpm hem cP
            go_wp2_with (go_at_call 28; refine (cP.out _).mono ?_; rintro e w2 ⟨rfl, hb2⟩)
            go_ret3
            refine parPost_none F.out ?_
            have z1 := B1.out.size
            have z2 := ho.2.size
            have z3 := hb2.size
            exact ((B1.out.trans (ho.2.mono z1)).trans (hb2.mono (by omega))).alloc (by omega) _
          | some x =>
            have F : Hid (parsOf (filt (rest.take (k + 1))) = some (acc ++ [x])) := pars_step rest k G.out acc hA.out hem x hp
            rw [paramV_some _ x hp] at cP
            clear hp
            generalize rest[k]'G.out = q at ck hpm hem cP
            go_wp2_with (first
              | (go_at_call 28; refine (cP.out _).mono ?_; rintro e w2 ⟨rfl, hb2⟩; have ho2 := ownP_mono (ownP_mono ho hb2) (below_alloc' w2 (.cells #[.string ⟨x.1.toArray⟩, .string ⟨x.2.toArray⟩] 35)); clear ho)
              | (at_builtin; refine appP rfl (.tmp 30) (.tmp 32) rfl w1 _ _ rfl ho2 x rfl rfl rfl (by simp) (by omega) ?_; intro v3 w3 ho3))
            go_roundw
            case rel => exact ⟨k + 1, _, by omega, by go_num, F, ho3⟩
            case measure => simp [intOf]; omega
      · have E : Hid (rest.take k = rest) := List.take_of_length_le (by rw [N.out]; omega)
        have F : Hid (parsOf (filt rest) = some acc) := by unfold Hid; rw [← E.out]; exact hA.out
        have ck : wr.cell? ⟨b, off, none⟩ = some (.string ⟨p0.toArray⟩) := by rw [(ho.2.cell (p := ⟨b, off, none⟩) hblt)]; exact c0
        go_wp2_with fail
        refine (cloneL p0 _ (by omega)).mono ?_
        rintro e w2 ⟨rfl, hb2⟩
        go_wp2_with fail
        go_ret3
        exact parPost_some F.out (ownP_base (ownP_mono ho hb2) B1.out)
end Go.Proofs.YtegdbieieacalaaDoor
