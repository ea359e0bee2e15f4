/- A list of steps of the store's laws (an entry and an id each): what a slice of them holds; cut. The contracts of the store's holds and check. Rows of entries: nine cells an entry; one that the call itself made, more appended to it. -/
import Derived.Laws.AppendOwnNone
import Derived.Test.YtibjcofbhldenaaGreatDoorZ43
import Derived.Test.YtibjcofbhldenaaGreatDoorZ42
namespace Go.Proofs.YtibjcofbhldenaaGreatDoor
open Go.RowKit Go.Maps
abbrev Sp := En × List UInt8
/-- the nine cells of an entry at block b, from off on -/
def EnAt (w : World) (b off : Nat) (e : En) (lv bv : Value) : Prop :=
  w.cell? ⟨b, off, none⟩ = some (.string ⟨e.key.toArray⟩) ∧ w.cell? ⟨b, off + 1, none⟩ = some (.string ⟨e.vary.toArray⟩) ∧ w.cell? ⟨b, off + 2, none⟩ = some (.int .i64 e.r.s) ∧ w.cell? ⟨b, off + 3, none⟩ = some (.string ⟨e.r.r.toArray⟩) ∧ w.cell? ⟨b, off + 4, none⟩ = some (.int .i64 e.r.k) ∧ w.cell? ⟨b, off + 5, none⟩ = some lv ∧ w.cell? ⟨b, off + 6, none⟩ = some bv ∧ w.cell? ⟨b, off + 7, none⟩ = some (.int .i64 e.a) ∧ w.cell? ⟨b, off + 8, none⟩ = some (.int .i64 e.g)
theorem enAt_mono {w w' : World} {b off : Nat} {e : En} {lv bv : Value} (h : EnAt w b off e lv bv) (hb : Below w.heap.size w w') (hlt : b < w.heap.size) : EnAt w' b off e lv bv := by
  have c : ∀ o, w'.cell? ⟨b, o, none⟩ = w.cell? ⟨b, o, none⟩ := fun o => hb.cell (p := ⟨b, o, none⟩) hlt
  obtain ⟨h0, h1, h2, h3, h4, h5, h6, h7, h8⟩ := h
  exact ⟨by rw [c]; exact h0, by rw [c]; exact h1, by rw [c]; exact h2, by rw [c]; exact h3, by rw [c]; exact h4, by rw [c]; exact h5, by rw [c]; exact h6, by rw [c]; exact h7, by rw [c]; exact h8⟩
/-- v is a slice whose elements are such steps -/
def HoldsSp (w : World) (v : Value) (os : List Sp) : Prop :=
  ∃ ao cap, v = .slice ao os.length cap ∧ (ao = none → cap = 0) ∧ os.length ≤ cap ∧ (os ≠ [] → ∃ b off, ao = some ⟨b, off, none⟩ ∧ b < w.heap.size ∧ ∀ j (h : j < os.length), ∃ lv bv, EnAt w b (off + j * 10) os[j].1 lv bv ∧ HoldsF w lv os[j].1.r.fs ∧ HoldsB w bv os[j].1.body ∧ w.cell? ⟨b, off + j * 10 + 9, none⟩ = some (.string ⟨os[j].2.toArray⟩))
theorem holdsSp_mono {w w' : World} {v : Value} {os : List Sp} (h : HoldsSp w v os) (hb : Below w.heap.size w w') : HoldsSp w' v os := by
  obtain ⟨ao, cap, rfl, h0, hcp, hc⟩ := h
  refine ⟨ao, cap, rfl, h0, hcp, fun hne => ?_⟩
  obtain ⟨b, off, rfl, hlt, hcell⟩ := hc hne
  refine ⟨b, off, rfl, Nat.lt_of_lt_of_le hlt hb.size, fun j hj => ?_⟩
  obtain ⟨lv, bv, h1, h2, h3, h4⟩ := hcell j hj
  exact ⟨lv, bv, enAt_mono h1 hb hlt, holdsF_mono h2 hb, holdsB_mono h3 hb, by rw [hb.cell (p := ⟨b, off + j * 10 + 9, none⟩) hlt]; exact h4⟩
theorem takeSp_run (x : Option Addr) (n cap : Nat) (hi : 60 ≤ n) (hc : n ≤ cap) (hn : x = none → n = 0) (w : World) : Sem.run Tryz.prog (Instr.slice 26 (.slice x n cap) none (some (.int .i64 60)) none) w = .ok (.slice x 60 cap) w := by
  have hel : Tryz.prog.elem 26 = 61 := by kernel_rfl
  have hh := run_slice_h (P := Tryz.prog) w 26 x n cap (by rw [hel]; exact Tryz.underlying26) .i64 60 (by omega) (by omega)
  have h3 : ((60 : Int)).toNat = 60 := rfl
  rw [hel, Tryz.sizeOf61] at hh
  simp only [Result.andThen, sliced, h3] at hh
  rw [hh]
  cases x with
  | none => have := hn rfl; omega
  | some a => simp [Addr.add]
theorem holdsSp_take {w : World} {ao : Option Addr} {cap : Nat} {os : List Sp} (h : HoldsSp w (.slice ao os.length cap) os) (i : Nat) (hi : i ≤ os.length) : HoldsSp w (.slice ao i cap) (os.take i) := by
  obtain ⟨ao', cap', e, h0, hcp, hc⟩ := h
  simp only [Value.slice.injEq] at e
  obtain ⟨rfl, _, rfl⟩ := e
  have hl : (os.take i).length = i := by rw [List.length_take]; omega
  refine ⟨ao, cap, by rw [hl], h0, by omega, fun hne => ?_⟩
  obtain ⟨b, off, rfl, hlt, hcell⟩ := hc (fun e => hne (by rw [e]; simp))
  exact ⟨b, off, rfl, hlt, fun j hj => by
    have := hcell j (by omega)
    simpa using this⟩
set_option maxHeartbeats 400000 in
theorem cut13C (v : Value) (os : List Sp) (w : World) (hv : HoldsSp w v os) (hl : os.length ≤ 1000000000) :
    Calls Tryz.prog 14 #[v] w fun e w' => ∃ u, e = .returned u ∧ (∀ V, HoldsSp V v os → HoldsSp V u (os.take 60)) ∧ w' = w := by
  obtain ⟨ao, cap, rfl, h0, hcp, hc⟩ := id hv
  by_cases hn : os.length ≤ 60
  · have E : Hid (os.take 60 = os) := List.take_of_length_le hn
    have q : decide ((60 : Int) < (os.length : Int)) = false := by simp; omega
    have HV : Hid (∀ V, HoldsSp V (.slice ao os.length cap) os → HoldsSp V (.slice ao os.length cap) (os.take 60)) := fun V h => by rw [E.out]; exact h
    clear hv hc h0
    go_enter Tryz.func14, Tryz.ntmps14
    go_wp2_with fail
    go_ret
    exact ⟨_, rfl, HV.out, rfl⟩
  · have q : decide ((60 : Int) < (os.length : Int)) = true := by simp; omega
    have hs := takeSp_run ao os.length cap (by omega) hcp (fun e => by have := h0 e; omega)
    have HV : Hid (∀ V, HoldsSp V (.slice ao os.length cap) os → HoldsSp V (.slice ao 60 cap) (os.take 60)) := fun V h => holdsSp_take h 60 (by omega)
    clear hv hc h0
    go_enter Tryz.func14, Tryz.ntmps14
    go_wp2_with fail
    go_ret
    exact ⟨_, rfl, HV.out, rfl⟩
end Go.Proofs.YtibjcofbhldenaaGreatDoor
namespace Go.Proofs.YtibjcofbhldenaaGreatDoor
open Go.RowKit Go.Maps
/-- does the id's file hold its entry? -/
def holdsP (slots : Int) (s : Dk) (p : Nm × Nat) : Bool := decide ((p.2 : Int) < slots) && (rdS s (p.2 : Int)).2 && decide (idOf (rdS s (p.2 : Int)).1 = p.1)
theorem rd_ok {s : Dk} {no : Int} (h : (rdS s no).2 = true) : (rdS s no).1.key.length ≤ 4096 ∧ (rdS s no).1.vary.length ≤ 4096 := by
  unfold rdS at h ⊢
  split at h
  · rename_i h0
    rw [if_pos h0]
    simp only at h ⊢
    have h1 : (decO (s.read (nameN no)).1).2 = 0 := by simpa using h
    obtain ⟨-, -, -, z4, z5, -⟩ := obj_sizes (dec_ok' h1)
    exact ⟨z4, z5⟩
  · cases h
set_option maxRecDepth 20000
set_option maxHeartbeats 4000000
theorem holdsSC {o : Ow} {g lb sb tm : Nat} {slots : Int} {s : Dk} {c : Int} {t : NL} {W : World} (h : StoS o g lb sb tm slots s c t W) (hB : Bd 90000000 s) (id : Nm) (hid : id.length ≤ 1000000) (k : Nat) (hat : atN t id = some k) (E : Env W) (T : Tab W) :
    Calls Tryz.prog 86 #[lptr sb, .string ⟨id.toArray⟩] W fun x W' => x = .returned (.bool (holdsP slots s (id, k))) ∧ Below W.heap.size W W' := by
  have hlk := tbi_one h.tab (s := ⟨id.toArray⟩) (by rw [size_l]; omega) hat
  have CR := hide' (readSC h hB (k : Int) E T)
  obtain ⟨c0, c1, c2, c3⟩ := stoS_cells h
  have HP : Hid (holdsP slots s (id, k) = (decide ((k : Int) < slots) && (rdS s (k : Int)).2 && decide (idOf (rdS s (k : Int)).1 = id))) := rfl
  have RK := hide' (rd_ok (s := s) (no := (k : Int)))
  clear h hB E T hat
  generalize rdS s (k : Int) = q at CR HP RK
  obtain ⟨en, ok⟩ := q
  simp only at HP RK
  by_cases hk : (k : Int) < slots
  · rw [decide_eq_true hk] at HP
    go_enter Tryz.func86, Tryz.ntmps86
    go_wp2_with fail
    refine CR.out.mono ?_
    rintro x w3 ⟨lv, bv, rfl, hF, hY⟩
    have B3 := hide' hF.2
    obtain ⟨la, lc, _, _, e1, -⟩ := holdsF_parts (holdsF_own hF)
    obtain ⟨ba, bc, e2⟩ := row_sl hY.1
    clear hF hY CR c0 c1 c2 c3 hlk
    unfold entV
    simp only at e1 e2 ⊢
    subst e1 e2
    cases ok with
    | false =>
      go_wp2_with fail
      go_ret
      rw [HP.out]
      exact ⟨rfl, B3.out.alloc B3.out.size _⟩
    | true =>
      obtain ⟨r1, r2⟩ := RK.out rfl
      have CI := hide' (fun W' => idSC en.key en.vary W' (by omega) (by omega))
      have IE : Hid (en.key ++ 10 :: en.vary = idOf en) := rfl
      rw [IE.out] at CI
      generalize en.key = k0 at *
      generalize en.vary = k1 at *
      generalize en.r.s = k2 at *
      generalize en.r.r = k3 at *
      generalize en.r.k = k4 at *
      generalize en.a = k7 at *
      generalize en.g = k8 at *
      by_cases hi : idOf en = id
      · rw [hi] at CI
        have HP2 : Hid (holdsP slots s (id, k) = true) := by unfold Hid; rw [HP.out, decide_eq_true hi]; rfl
        clear hi IE
        go_wp2_with fail
        refine (CI.out _).mono ?_
        rintro x w9 ⟨rfl, ew⟩
        rw [ew]
        clear ew w9
        go_wp2_with fail
        go_ret
        rw [HP2.out]
        exact ⟨rfl, B3.out.alloc B3.out.size _⟩
      · have HP2 : Hid (holdsP slots s (id, k) = false) := by unfold Hid; rw [HP.out, decide_eq_false hi]; rfl
        have n1 := ba_eql' _ _ hi
        have n2 : (idOf en == id) = false := by simpa using hi
        clear hi IE
        generalize idOf en = ie at CI n1 n2
        go_wp2_with fail
        refine (CI.out _).mono ?_
        rintro x w9 ⟨rfl, ew⟩
        rw [ew]
        clear ew w9
        go_wp2_with fail
        go_ret
        rw [HP2.out]
        exact ⟨rfl, B3.out.alloc B3.out.size _⟩
  · rw [decide_eq_false hk] at HP
    go_enter Tryz.func86, Tryz.ntmps86
    go_wp2_with fail
    go_ret
    rw [HP.out]
    exact ⟨rfl, Below.refl _ _⟩
/-- entries checked so far: those that hold, and the rest -/
def chkN (P : Nm × Nat → Bool) (t : NL) (k : Nat) : NL := (t.take k).filter P ++ t.drop k
theorem chk_zero (P : Nm × Nat → Bool) (t : NL) : chkN P t 0 = t := by simp [chkN]
theorem chk_all (P : Nm × Nat → Bool) (t : NL) (k : Nat) (h : t.length ≤ k) : chkN P t k = t.filter P := by
  unfold chkN
  rw [List.take_of_length_le h, List.drop_eq_nil_of_le h, List.append_nil]
theorem chk_keep (P : Nm × Nat → Bool) (t : NL) (k : Nat) (h : k < t.length) (hp : P t[k] = true) : chkN P t (k + 1) = chkN P t k := by
  unfold chkN
  rw [List.take_succ_eq_append_getElem h, List.filter_append, List.filter_cons_of_pos hp, List.filter_nil, List.append_assoc]
  congr 1
  rw [List.drop_eq_getElem_cons h]
  rfl
theorem chk_sorted {t : NL} (hs : SortedN t) (P : Nm × Nat → Bool) (k : Nat) : SortedN (chkN P t k) := by
  unfold chkN
  have : ((t.take k).filter P ++ t.drop k).Sublist (t.take k ++ t.drop k) := List.Sublist.append List.filter_sublist (List.Sublist.refl _)
  rw [List.take_append_drop] at this
  exact List.Pairwise.sublist this hs
theorem chk_at {t : NL} (hs : SortedN t) (P : Nm × Nat → Bool) (k : Nat) (h : k < t.length) : atN (chkN P t k) t[k].1 = some t[k].2 := by
  refine at_mem (chk_sorted hs P k) ?_
  unfold chkN
  rw [List.drop_eq_getElem_cons h]
  exact List.mem_append_right _ List.mem_cons_self
theorem chk_drop {t : NL} (hs : SortedN t) (P : Nm × Nat → Bool) (k : Nat) (h : k < t.length) (hp : P t[k] = false) : chkN P t (k + 1) = delN (chkN P t k) t[k].1 := by
  have hne : ∀ p ∈ t.take k, p.1 ≠ t[k].1 := fun p hp e => by
    have h1 := at_mem hs (name := p.1) (k := p.2) (List.mem_of_mem_take hp)
    have h2 := at_mem hs (name := t[k].1) (k := t[k].2) (List.getElem_mem h)
    obtain ⟨i, hi, hie⟩ := List.getElem_of_mem hp
    have hi' : i < k := by rw [List.length_take] at hi; omega
    have h3 : lessN t[i].1 t[k].1 = true := by
      have := List.pairwise_iff_getElem.1 hs i k (by omega) h hi'
      exact this
    rw [List.getElem_take] at hie
    rw [hie, e] at h3
    exact absurd h3 (by rw [less_irrefl]; decide)
  have hne2 : ∀ p ∈ t.drop (k + 1), p.1 ≠ t[k].1 := fun p hp e => by
    obtain ⟨i, hi, hie⟩ := List.getElem_of_mem hp
    rw [List.length_drop] at hi
    have h3 : lessN t[k].1 (t[k + 1 + i]'(by omega)).1 = true := by
      have := List.pairwise_iff_getElem.1 hs k (k + 1 + i) h (by omega) (by omega)
      exact this
    rw [List.getElem_drop] at hie
    rw [hie, e] at h3
    exact absurd h3 (by rw [less_irrefl]; decide)
  have keepAll : ∀ l : NL, (∀ p ∈ l, p.1 ≠ t[k].1) → delN l t[k].1 = l := fun l hl => by
    unfold delN
    rw [List.filter_eq_self]
    intro p hp
    have := hl p hp
    simpa using this
  unfold chkN
  rw [List.take_succ_eq_append_getElem h, List.filter_append, List.filter_cons_of_neg (by rw [hp]; decide), List.filter_nil, List.append_nil, List.drop_eq_getElem_cons h]
  have e1 : delN ((t.take k).filter P ++ t[k] :: t.drop (k + 1)) t[k].1 = delN ((t.take k).filter P) t[k].1 ++ delN (t[k] :: t.drop (k + 1)) t[k].1 := List.filter_append _ _
  have e2 : delN (t[k] :: t.drop (k + 1)) t[k].1 = delN (t.drop (k + 1)) t[k].1 := by unfold delN; rw [List.filter_cons_of_neg (by simp)]
  rw [e1, e2, keepAll _ (fun p hp => hne p (List.mem_filter.1 hp).1), keepAll _ hne2]
/-- check: the ids whose entries aren't there are taken out, from the log too -/
def checkT (slots : Int) (q : LSt × NL) : (LSt × NL) × Int :=
  if q.2.all (holdsP slots q.1.1) = true then (q, 0) else (((rewT (recsOf (q.2.filter (holdsP slots q.1.1))) q.1).1, q.2.filter (holdsP slots q.1.1)), (rewT (recsOf (q.2.filter (holdsP slots q.1.1))) q.1).2)
theorem off_cellM {W W' : World} {tm b i : Nat} (h : Off (fun x => x = tm) W W') (hb : b < W.heap.size) (hne : b ≠ tm) : W'.cell? ⟨b, i, none⟩ = W.cell? ⟨b, i, none⟩ := World.cell?_of_block (w := W) (a := ⟨b, i, none⟩) (h.block b hb hne)
theorem all_nextM (P : Nm × Nat → Bool) (t : NL) (k : Nat) (h : k < t.length) : (t.take (k + 1)).all P = ((t.take k).all P && P t[k]) := by
  rw [List.take_succ_eq_append_getElem h, List.all_append]
  simp
theorem checkSC {o : Ow} {g lb sb tm : Nat} {slots : Int} {s : Dk} {c : Int} {t : NL} {W : World} (h : StoS o g lb sb tm slots s c t W) (m : Nat) (hB : Bd m s) (hm : m + 4 * (8 + 3 * bulkR (recsOf (t.filter (holdsP slots s)))) ≤ 80000000) (ht : SmlT t) (htl : t.length ≤ 1000000) (hE : ∀ W', Off (fun x => x = tm) W W' → Env W' ∧ Tab W') :
    Calls Tryz.prog 38 #[lptr sb] W fun e W' => TPost o g lb sb tm slots (checkT slots ((s, c), t)) W e W' ∧ Bd (m + 4 * (8 + 3 * bulkR (recsOf (t.filter (holdsP slots s))))) (checkT slots ((s, c), t)).1.1.1 := by
  have CI := hide' (idsC h (by omega))
  have H := hide' h
  have BB := hide' hB
  have TT := hide' ht
  have SS := hide' h.srt
  have HE := hide' hE
  have htm := tbi_lt h.tab
  have CT : Hid (checkT slots ((s, c), t) = if t.all (holdsP slots s) = true then (((s, c), t), 0) else (((rewT (recsOf (t.filter (holdsP slots s))) (s, c)).1, t.filter (holdsP slots s)), (rewT (recsOf (t.filter (holdsP slots s))) (s, c)).2)) := rfl
  clear h hB ht hE
  generalize hP : holdsP slots s = P at CT hm
  have HP := hide' hP
  clear hP
  go_enter Tryz.func38, Tryz.ntmps38
  go_wp2_with fail
  refine CI.out.mono ?_
  rintro e w1 ⟨v, rfl, ho⟩
  have HS1 := hide' (stoS_below H.out ho.2)
  have B1 := hide' ho.2
  obtain ⟨ao, ca, b, off, hv, hc⟩ := holds_partsC (holds_own ho)
  have HBL : Hid (0 < (t.map (fun p => p.1)).length → W.heap.size ≤ b) := fun hp => by
    obtain ⟨h1, -⟩ := hc hp
    rcases ho.1.2 with ⟨_, hz⟩ | ⟨x, cap, cur, hvv, hx, _⟩
    · omega
    · rw [hv, h1] at hvv
      simp at hvv
      omega
  have C := hide' hc
  rw [hv]
  clear ho hv hc CI H
  obtain ⟨n, en⟩ : ∃ n, n = t.length := ⟨_, rfl⟩
  have N : Hid (t.length = n) := en.symm
  rw [List.length_map, N.out]
  rw [N.out] at htl
  clear en
  go_wp2_with fail
  go_loopw [3, 9] (fun v i wr => ∃ k : Nat, v = .bool ((t.take k).all P) ∧ k ≤ n ∧ i = .int .i64 k ∧ Hid (StoS o g lb sb tm slots s c (chkN P t k) wr) ∧ Hid (Off (fun x => x = tm) w1 wr)) (fun _ i _ => n - (intOf i).toNat)
  case atStart => exact ⟨0, rfl, Nat.zero_le _, rfl, by rw [chk_zero]; exact HS1, Off.refl _ _⟩
  case round =>
    obtain ⟨k, rfl, hk, rfl, HS2, F2⟩ := hrel
    by_cases hlt : k < n
    · have G : Hid (k < t.length) := by unfold Hid; rw [N.out]; exact hlt
      obtain ⟨hao, hblt, hcell⟩ := C.out (by rw [List.length_map]; have := G.out; omega)
      subst hao
      have hbl := HBL.out (by rw [List.length_map]; have := G.out; omega)
      have ck : wr.cell? ⟨b, off + k, none⟩ = some (.string ⟨(t[k]'G.out).1.toArray⟩) := by
        rw [off_cellM F2.out hblt (by omega)]
        have := hcell k (by rw [List.length_map]; exact G.out)
        rw [List.getElem_map] at this
        exact this
      have hsz := TT.out _ (List.getElem_mem G.out)
      obtain ⟨E2, T2⟩ := HE.out wr (Off.trans (S := fun x => x = tm) (off_of B1.out) F2.out (fun i hi => .inl hi))
      have CH := hide' (holdsSC HS2.out (bd_mono BB.out (by omega)) (t[k]'G.out).1 hsz (t[k]'G.out).2 (chk_at SS.out P k G.out) E2 T2)
      rw [show ((t[k]'G.out).1, (t[k]'G.out).2) = t[k]'G.out from rfl, HP.out] at CH
      have AN := hide' (all_nextM P t k G.out)
      have CK := hide' (chk_keep P t k G.out)
      have CX := hide' (chk_drop SS.out P k G.out)
      clear hcell E2 T2
      generalize t[k]'G.out = q at ck hsz CH AN CK CX
      cases hq : P q with
      | true =>
        rw [hq] at CH AN
        have K2 := hide' (CK.out hq)
        rw [Bool.and_true] at AN
        clear CX CK hq
        go_wp2_with fail
        refine CH.out.mono ?_
        rintro e w3 ⟨rfl, b3⟩
        have HS3 := hide' (stoS_below HS2.out b3)
        have F3 := hide' (F2.out.trans (off_of (S := fun x => x = tm) b3) (fun i hi => .inl hi))
        clear b3 CH HS2 F2
        go_wp2_with fail
        go_roundw
        case rel => exact ⟨k + 1, by rw [AN.out], by omega, by go_num, by rw [K2.out]; exact HS3, F3⟩
        case measure => simp [intOf]; omega
      | false =>
        rw [hq] at CH AN
        have K2 := hide' (CX.out hq)
        rw [Bool.and_false] at AN
        clear CX CK hq
        go_wp2_with fail
        refine CH.out.mono ?_
        rintro e w3 ⟨rfl, b3⟩
        have HS3 := hide' (stoS_below HS2.out b3)
        have F3 := hide' (F2.out.trans (off_of (S := fun x => x = tm) b3) (fun i hi => .inl hi))
        obtain ⟨w4, hdel, t4, f4⟩ := tbi_delete HS3.out.tab (s := ⟨q.1.toArray⟩) (by rw [size_l]; omega) 0
        have HS4 := hide' (stoS_tab HS3.out t4 f4 (sorted_del HS3.out.srt _))
        have F4 := hide' (F3.out.trans f4 (fun i hi => .inl hi))
        obtain ⟨-, -, -, c3⟩ := stoS_cells HS3.out
        clear b3 CH HS2 F2 t4 f4 F3
        go_wp2_with fail
        go_roundw
        case rel => exact ⟨k + 1, by rw [AN.out], by omega, by go_num, by rw [K2.out]; exact HS4, F4⟩
        case measure => simp [intOf]; omega
    · have E : Hid (t.take k = t) := List.take_of_length_le (by rw [N.out]; omega)
      have CA := hide' (chk_all P t k (by rw [N.out]; omega))
      rw [E.out]
      rw [CA.out] at HS2
      have G2 : Hid (GrowT lb tm o W o wr) := (growT_below B1.out).trans (growT_tab F2.out)
      cases hall : t.all P with
      | true =>
        rw [hall, if_pos rfl] at CT
        have FE : Hid (t.filter P = t) := by unfold Hid; rw [List.filter_eq_self]; exact List.all_eq_true.1 hall
        rw [FE.out] at HS2
        clear hall
        go_wp2_with fail
        go_ret
        rw [CT.out]
        exact ⟨⟨rfl, o, HS2.out, G2.out⟩, bd_mono BB.out (by omega)⟩
      | false =>
        rw [hall, if_neg (by decide)] at CT
        have CR := hide' (rewSC HS2.out m BB.out hm (fun p hp => TT.out p (List.mem_filter.1 hp).1) (by have := List.length_filter_le P t; have := N.out; omega))
        clear hall
        go_wp2_with fail
        refine CR.out.mono ?_
        rintro e w5 ⟨⟨rfl, o5, S5, g5⟩, b5⟩
        have HS5 := hide' S5
        have G5 := hide' (G2.out.trans g5)
        have BB5 := hide' b5
        clear S5 g5 b5 CR
        go_wp2_with fail
        go_ret
        rw [CT.out]
        exact ⟨⟨rfl, o5, HS5.out, G5.out⟩, BB5.out⟩
end Go.Proofs.YtibjcofbhldenaaGreatDoor
namespace Go.Proofs.YtibjcofbhldenaaGreatDoor
open Go.RowKit Go.Maps
/-- an entry, its fields' slice, its body's -/
abbrev Ev := En × Value × Value
abbrev EL := List Ev
def celE (p : Ev) : List Value := entL p.1 p.2.1 p.2.2
def cellsE (ps : EL) : List Value := ps.flatMap celE
theorem cellsE_snoc (ps : EL) (p : Ev) : cellsE (ps ++ [p]) = cellsE ps ++ celE p := by simp [cellsE]
theorem cellsE_at : ∀ (ps : EL) (j : Nat) (h : j < ps.length) (i : Nat) (_ : i < 9), (cellsE ps)[j * 9 + i]? = (celE ps[j])[i]? := by
  intro ps
  induction ps with
  | nil => intro j h; simp at h
  | cons p ps ih =>
    intro j h i hi
    have e : cellsE (p :: ps) = celE p ++ cellsE ps := by simp [cellsE]
    have hl : (celE p).length = 9 := rfl
    rw [e]
    cases j with
    | zero =>
      rw [Nat.zero_mul, Nat.zero_add, List.getElem?_append_left (by rw [hl]; exact hi)]
      rfl
    | succ j =>
      rw [List.getElem?_append_right (by rw [hl]; omega), hl, show (j + 1) * 9 + i - 9 = j * 9 + i by omega]
      exact ih j (by simpa using h) i hi
theorem Tryz.info59 : (Tryz.prog.info? 59).map (fun i => (i.zero, i.size, i.bytes)) = some (some (.agg #[.string ⟨#[]⟩, .string ⟨#[]⟩, .int .i64 0, .string ⟨#[]⟩, .int .i64 0, .slice none 0 0, .slice none 0 0, .int .i64 0, .int .i64 0]), 9, 128) := by kernel_rfl
def Slc (v : Value) : Prop := ∃ a n c, v = .slice a n c
def OwnE (w0 : World) (v : Value) (ps : EL) (w : World) : Prop := w.ownsRow w0.heap.size 59 9 v ps.length (cellsE ps) ∧ Below w0.heap.size w0 w
theorem ownE_empty (w0 : World) : OwnE w0 (.slice (some ⟨w0.heap.size, 0, none⟩) 0 0) [] (w0.alloc (.cells #[] 59)) :=
  ⟨World.ownsRow_lit w0 #[] 0 (Nat.le_refl _) (by decide) rfl, (Below.refl _ _).alloc (Nat.le_refl _) _⟩
theorem ownE_mono {w0 w w' : World} {v : Value} {ps : EL} (h : OwnE w0 v ps w) (hb : Below w.heap.size w w') : OwnE w0 v ps w' := by
  have hz := h.2.size
  refine ⟨?_, h.2.trans (hb.mono hz)⟩
  obtain ⟨hl, h1 | ⟨g, cap, cur, rfl, hg, hh, hr⟩⟩ := h.1
  · exact ⟨hl, .inl h1⟩
  · have hlt : g < w.heap.size := by
      rcases Nat.lt_or_ge g w.heap.size with h | h
      · exact h
      · rw [Array.getElem?_eq_none (by omega)] at hh; cases hh
    exact ⟨hl, .inr ⟨g, cap, cur, rfl, hg, by rw [hb.block g hlt]; exact hh, hr⟩⟩
/-- v is a slice whose elements are the entries ps -/
def HoldsE (w : World) (v : Value) (ps : EL) : Prop :=
  ∃ ao cap, v = .slice ao ps.length cap ∧ (ao = none → cap = 0) ∧ ps.length ≤ cap ∧ (ps ≠ [] → ∃ b off, ao = some ⟨b, off, none⟩ ∧ b < w.heap.size ∧ ∀ j (h : j < ps.length), EnAt w b (off + j * 9) ps[j].1 ps[j].2.1 ps[j].2.2)
theorem holdsE_own {w0 w : World} {v : Value} {ps : EL} (h : OwnE w0 v ps w) : HoldsE w v ps := by
  obtain ⟨hl, h1 | ⟨g, cap, cur, rfl, hg, hh, hr⟩⟩ := h.1
  · obtain ⟨rfl, hn⟩ := h1
    obtain rfl : ps = [] := List.eq_nil_of_length_eq_zero hn
    exact ⟨none, 0, rfl, fun _ => rfl, Nat.le_refl _, fun h => absurd rfl h⟩
  · refine ⟨_, cap, rfl, fun e => (by cases e), hr.1, fun _ => ⟨g, 0, rfl, (h.1.lt g rfl).2, fun j hj => ?_⟩⟩
    have c := cellsE_at ps j hj
    unfold EnAt
    rw [Nat.zero_add]
    exact ⟨by rw [h.1.cellAt (j * 9) (by omega)]; exact c 0 (by omega), by rw [h.1.cellAt (j * 9 + 1) (by omega)]; exact c 1 (by omega), by rw [h.1.cellAt (j * 9 + 2) (by omega)]; exact c 2 (by omega), by rw [h.1.cellAt (j * 9 + 3) (by omega)]; exact c 3 (by omega), by rw [h.1.cellAt (j * 9 + 4) (by omega)]; exact c 4 (by omega), by rw [h.1.cellAt (j * 9 + 5) (by omega)]; exact c 5 (by omega), by rw [h.1.cellAt (j * 9 + 6) (by omega)]; exact c 6 (by omega), by rw [h.1.cellAt (j * 9 + 7) (by omega)]; exact c 7 (by omega), by rw [h.1.cellAt (j * 9 + 8) (by omega)]; exact c 8 (by omega)⟩
/-- one entry appended -/
theorem appE {ops : Array Oper} {rest : List Oper} {o : Oper} {a : Act} {Q : Exit → Act → World → Prop} {wr : World} {H : Nat} (hgd : o.guard = none) (s z : Operand)
    (ho : o.op = .call { callee := .builtin .append, args := #[s, z], argTypes := #[85, 85] }) (w0 : World) (v : Value) (ps : EL) (hs : a.eval s = v) (hown : OwnE w0 v ps wr)
    (p : Ev) (hp1 : Slc p.2.1) (hp2 : Slc p.2.2) (hz : a.eval z = .slice (some ⟨H, 0, none⟩) 1 1) (hH : wr.heap.size = H) (hlen : (ps.length + 1) * 128 ≤ 140737488355328)
    (h : ∀ v' w', OwnE w0 v' (ps ++ [p]) w' → Off (fun k => v.ownBlock = some k) (wr.alloc (.cells #[.string ⟨p.1.key.toArray⟩, .string ⟨p.1.vary.toArray⟩, .int .i64 p.1.r.s, .string ⟨p.1.r.r.toArray⟩, .int .i64 p.1.r.k, p.2.1, p.2.2, .int .i64 p.1.a, .int .i64 p.1.g] 59)) w' → wpList Tryz.prog ops Q rest (a.put o.dst v') w') : wpList Tryz.prog ops Q (o :: rest) a (wr.alloc (.cells #[.string ⟨p.1.key.toArray⟩, .string ⟨p.1.vary.toArray⟩, .int .i64 p.1.r.s, .string ⟨p.1.r.r.toArray⟩, .int .i64 p.1.r.k, p.2.1, p.2.2, .int .i64 p.1.a, .int .i64 p.1.g] 59)) := by
  subst hH
  obtain ⟨a1, n1, c1, e1⟩ := hp1
  obtain ⟨a2, n2, c2, e2⟩ := hp2
  obtain ⟨i0, hi, hz0, hz1, hz2⟩ := info_parts Tryz.info59
  have hsz := hown.2.size
  refine wpList_append_own _ hgd s z 85 ho w0.heap.size 59 i0 (.agg #[.string ⟨#[]⟩, .string ⟨#[]⟩, .int .i64 0, .string ⟨#[]⟩, .int .i64 0, .slice none 0 0, .slice none 0 0, .int .i64 0, .int .i64 0]) 9 128 Tryz.underlying85 hi hz0 hz1 hz2 rfl (by decide) v ps.length (cellsE ps) hs (hown.1.alloc _) ⟨wr.heap.size, 0, none⟩ 1 1 (celE p) hz rfl ?_ ?_ ?_ ?_ ?_ ?_
  · intro j u hj
    match j, hj with
    | 0, hj => simp [celE, entL] at hj; subst hj; simp [Addr.add]
    | 1, hj => simp [celE, entL] at hj; subst hj; simp [Addr.add]
    | 2, hj => simp [celE, entL] at hj; subst hj; simp [Addr.add]
    | 3, hj => simp [celE, entL] at hj; subst hj; simp [Addr.add]
    | 4, hj => simp [celE, entL] at hj; subst hj; simp [Addr.add]
    | 5, hj => simp [celE, entL] at hj; subst hj; simp [Addr.add]
    | 6, hj => simp [celE, entL] at hj; subst hj; simp [Addr.add]
    | 7, hj => simp [celE, entL] at hj; subst hj; simp [Addr.add]
    | 8, hj => simp [celE, entL] at hj; subst hj; simp [Addr.add]
  · intro u hu; simp [celE, entL] at hu; rw [e1, e2] at hu; rcases hu with rfl | rfl | rfl | rfl | rfl | rfl | rfl | rfl | rfl <;> rfl
  · unfold maxLen; omega
  · omega
  · simp; omega
  · intro v' w' h1 h2 _
    refine h v' w' ⟨by rw [cellsE_snoc]; simpa using h1, ?_⟩ (off_grown h2 (fun k hk => hk))
    refine Below.grown (hown.2.alloc (by omega) _) h2 (by simp; omega) ?_
    intro k hk
    exact (hown.1.lt k hk).1
end Go.Proofs.YtibjcofbhldenaaGreatDoor
