/- The contract of the store's Open. Plain: Open on a new disk without faults: a store of no entries. Open of a store with a wrong count of numbers; the law's fixed run, in words; a row of Puts. The law's alive. The walk of the law's alive. -/
import Derived.Test.YtibjcofbhldenaaGreatDoorZ44
import Derived.Test.YtibjcofbhldenaaGreatDoorZ40
import Derived.Test.YtibjcofbhldenaaGreatDoorZ30
import Derived.Test.YtibjcofbhldenaaGreatDoorZ45
import Derived.Test.YtibjcofbhldenaaGreatDoorZ42
import Derived.Test.YtibjcofbhldenaaGreatDoorZ17
namespace Go.Proofs.YtibjcofbhldenaaGreatDoor
open Go.RowKit Go.Maps
/-- Open behind the log's: the table, the check, strays away, a shorter log -/
def opnB (slots : Int) (st : LSt) (rs : RL) : (LSt × NL) × Int :=
  if (checkT slots (st, tblOf rs)).2 ≠ 0 then checkT slots (st, tblOf rs)
  else ((tidyT (checkT slots (st, tblOf rs)).1.2 (strT (checkT slots (st, tblOf rs)).1.2 (checkT slots (st, tblOf rs)).1.1.1.list (checkT slots (st, tblOf rs)).1.1), (checkT slots (st, tblOf rs)).1.2), 0)
noncomputable def opnT (slots : Int) (s : Dk) : (LSt × NL) × Int :=
  if (openT rdT s).2 ≠ 0 then (((openT rdT s).1.1, []), (openT rdT s).2) else opnB slots ((openT rdT s).1.1.1, ((openT rdT s).1.2.length : Int)) (openT rdT s).1.2
def OpnPost (o : Ow) (g : Nat) (slots : Int) (q : (LSt × NL) × Int) (W : World) (e : Ending) (W' : World) : Prop :=
  (q.2 ≠ 0 ∧ e = .returned (.tuple #[.pointer none, .int .i64 q.2]) ∧ ∃ o', Dsk o' g q.1.1.1 W' ∧ Grow o W o' W') ∨
  (q.2 = 0 ∧ ∃ lb sb tm o', e = .returned (.tuple #[lptr sb, .int .i64 0]) ∧ StoS o' g lb sb tm slots q.1.1.1 q.1.1.2 q.1.2 W' ∧ Grow o W o' W' ∧ W.heap.size ≤ lb ∧ W.heap.size ≤ sb ∧ W.heap.size ≤ tm)
theorem grow_T {lb tm : Nat} {o o1 o2 : Ow} {W W1 W2 : World} (h1 : Grow o W o1 W1) (h2 : GrowT lb tm o1 W1 o2 W2) (hl : W.heap.size ≤ lb) (ht : W.heap.size ≤ tm) : Grow o W o2 W2 :=
  ⟨h1.off.trans h2.off (fun i hi => by
    rcases hi with hi | hi | hi
    · rcases h1.new i hi with h | h
      · exact .inl h
      · exact .inr h
    · exact .inr (by omega)
    · exact .inr (by omega)), fun i r e => h2.le i r (h1.le i r e), fun i hi => by
    rcases h2.new i hi with h | h
    · exact h1.new i h
    · exact .inr (Nat.le_trans h1.off.size h)⟩
theorem tbl_sml {rs : RL} (h : SmlR rs) : SmlT (tblOf rs) := by
  have : ∀ (rs : RL) (t : NL), SmlR rs → SmlT t → SmlT (rs.foldl stepR t) := by
    intro rs
    induction rs with
    | nil => intro t _ h; exact h
    | cons r rs ih =>
      intro t hr ht
      refine ih _ (fun x hx => hr x (List.mem_cons_of_mem _ hx)) ?_
      unfold stepR
      split
      · exact put_sml ht (hr r List.mem_cons_self).2.2
      · exact fun p hp => ht p (mem_del.1 hp).1
  exact this rs [] h (fun p hp => by cases hp)
theorem check_sub (slots : Int) (q : LSt × NL) : ∀ p ∈ (checkT slots q).1.2, p ∈ q.2 := by
  intro p hp
  unfold checkT at hp
  split at hp
  · exact hp
  · exact (List.mem_filter.1 hp).1
theorem check_len (slots : Int) (q : LSt × NL) : (checkT slots q).1.2.length ≤ q.2.length := by
  unfold checkT
  split
  · exact Nat.le_refl _
  · exact List.length_filter_le _ _
set_option maxRecDepth 20000
set_option maxHeartbeats 4000000
theorem openSC {o : Ow} {g : Nat} {s : Dk} {W : World} (h : Dsk o g s W) (slots : Int) (h0 : 0 ≤ slots) (h1 : slots ≤ 4096) (m : Nat) (hB : Bd m s) (hm : m ≤ 100000) (hR : SmlR (openT rdT s).1.2) (hL : (openT rdT s).1.2.length ≤ 1000000)
    (hM : ∀ t : NL, (∀ p ∈ t, p ∈ tblOf (openT rdT s).1.2) → SortedN t → 400000 + 60 * m + 60 * bulkR (recsOf t) ≤ 20000000) (hE : ∀ W', Off o.has W W' → Env W' ∧ Tab W') :
    Calls Tryz.prog 10 #[lptr g, .int .i64 slots] W fun e W' => OpnPost o g slots (opnT slots s) W e W' ∧ Bd 20000000 (opnT slots s).1.1.1 := by
  have CO := hide' (openL h m hB (by omega))
  have HD := hide' h
  have HE := hide' hE
  have HM := hide' hM
  have HR := hide' hR
  have OT : Hid (opnT slots s = if (openT rdT s).2 ≠ 0 then (((openT rdT s).1.1, []), (openT rdT s).2) else opnB slots ((openT rdT s).1.1.1, ((openT rdT s).1.2.length : Int)) (openT rdT s).1.2) := rfl
  clear h hB hE hM hR
  generalize openT rdT s = q at CO OT HM HR hL
  obtain ⟨⟨⟨s1, cx⟩, rs⟩, e1⟩ := q
  simp only at OT HM HR hL
  go_enter Tryz.func10, Tryz.ntmps10
  go_wp2_with fail
  refine CO.out.mono ?_
  rintro e w1 ⟨p1, b1⟩
  have BB1 := hide' b1
  unfold OpPost at p1
  simp only at p1 BB1
  rcases p1 with ⟨ne, rfl, o1, D1, G1⟩ | ⟨rfl, lb, lv, o1, rfl, L1, G1, hlb, R1⟩
  · have ne' : (e1 == 0) = false := by simpa using ne
    rw [if_pos ne] at OT
    have HD1 := hide' D1
    have HG1 := hide' G1
    have NE := hide' ne
    clear D1 G1 b1 CO ne
    go_wp2_with fail
    go_ret2
    rw [OT.out]
    exact ⟨.inl ⟨NE.out, rfl, o1, HD1.out, HG1.out⟩, bd_mono BB1.out (by omega)⟩
  · rw [if_neg (by simp)] at OT
    have HL1 := hide' L1
    have HG1 := hide' G1
    have CT := hide' (tableC lv rs w1 R1.1 HR.out hL)
    obtain ⟨ra, rc, hlv, -⟩ := R1.1
    rw [hlv] at CT ⊢
    have z1 := G1.off.size
    clear L1 G1 b1 CO hlv
    go_wp2_with fail
    refine CT.out.mono ?_
    rintro e w2 ⟨rfl, T2, b2⟩
    have HT2 := hide' T2
    have B2 := hide' b2
    have zb : w1.heap.size < w2.heap.size := tbi_lt T2
    have lt1 := HL1.out.blk.2
    have HS3 : Hid (StoS o1 g lb w2.heap.size w1.heap.size slots s1 (rs.length : Int) (tblOf rs) (w2.alloc (.cells #[lptr g, lptr lb, .int .i64 slots, .map (some w1.heap.size)] 102))) := by
      have hb := below_alloc' w2 (.cells #[lptr g, lptr lb, .int .i64 slots, .map (some w1.heap.size)] 102)
      have l2 := logS_below HL1.out b2
      have hk : ∀ k, o1.has k → k < w1.heap.size := dsk_lt HL1.out.dsk
      exact ⟨logS_below l2 hb, cells_lit w2 #[lptr g, lptr lb, .int .i64 slots, .map (some w1.heap.size)] _, tbi_block T2 (hb.block _ zb), none_of_lt hk (by omega), none_of_lt hk (Nat.le_refl _), by omega, by omega, by omega, tbl_sorted rs⟩
    have G3 : Hid (Grow o W o1 (w2.alloc (.cells #[lptr g, lptr lb, .int .i64 slots, .map (some w1.heap.size)] 102))) := HG1.out.trans (grow_below (b2.trans ((below_alloc' w2 _).mono b2.size)))
    clear T2 b2 CT HT2 HL1
    go_upto_region 7 with fail
    generalize (w2.alloc (.cells #[lptr g, lptr lb, .int .i64 slots, .map (some w1.heap.size)] 102)) = w3 at HS3 G3 ⊢
    have hsb : W.heap.size ≤ w2.heap.size := by omega
    have htm : W.heap.size ≤ w1.heap.size := by omega
    have hlb' : W.heap.size ≤ lb := hlb
    generalize w2.heap.size = sb at HS3 hsb ⊢
    generalize w1.heap.size = tm at HS3 htm hlb' ⊢
    have fm := HM.out ((tblOf rs).filter (holdsP slots s1)) (fun p hp => (List.mem_filter.1 hp).1) (List.Pairwise.filter _ (tbl_sorted rs))
    have hln := tbl_len rs
    have CK := hide' (checkSC HS3.out (15 * m + 200) BB1.out (by omega) (tbl_sml HR.out) (by omega) (fun W' hW' => HE.out W' (G3.out.off.trans hW' (fun i hi => .inr (by omega)))))
    have KL := hide' (check_len slots ((s1, (rs.length : Int)), tblOf rs))
    have KS := hide' (check_sub slots ((s1, (rs.length : Int)), tblOf rs))
    have OB : Hid (opnB slots (s1, (rs.length : Int)) rs = if (checkT slots ((s1, (rs.length : Int)), tblOf rs)).2 ≠ 0 then checkT slots ((s1, (rs.length : Int)), tblOf rs) else ((tidyT (checkT slots ((s1, (rs.length : Int)), tblOf rs)).1.2 (strT (checkT slots ((s1, (rs.length : Int)), tblOf rs)).1.2 (checkT slots ((s1, (rs.length : Int)), tblOf rs)).1.1.1.list (checkT slots ((s1, (rs.length : Int)), tblOf rs)).1.1), (checkT slots ((s1, (rs.length : Int)), tblOf rs)).1.2), 0)) := rfl
    rw [OB.out] at OT
    clear OB
    generalize checkT slots ((s1, (rs.length : Int)), tblOf rs) = qc at CK KS KL OT
    obtain ⟨⟨⟨s4, c4⟩, t4⟩, e4⟩ := qc
    simp only at KS KL OT
    generalize bulkR (recsOf ((tblOf rs).filter (holdsP slots s1))) = bf at CK fm
    go_wp2_with fail
    refine CK.out.mono ?_
    rintro e w4 ⟨⟨rfl, o4, S4, g4⟩, b4⟩
    simp only at S4 b4 ⊢
    have HS4 := hide' S4
    have G4 := hide' (grow_T G3.out g4 hlb' htm)
    have BB4 := hide' b4
    clear S4 g4 b4 CK HS3 G3
    by_cases he4 : e4 = 0
    · subst he4
      rw [if_neg (by simp)] at OT
      have f4 := HM.out t4 KS.out HS4.out.srt
      have hl4 : t4.length ≤ 1000000 := by
        have h5 := KL.out
        omega
      have CS := hide' (straysC HS4.out _ BB4.out (by omega) hl4)
      have SM4 : Hid (SmlT t4) := fun p hp => tbl_sml HR.out p (KS.out p hp)
      go_wp2_with fail
      refine CS.out.mono ?_
      rintro e w5 ⟨rfl, ⟨o5, S5, g5⟩, b5⟩
      have HS5 := hide' S5
      have G5 := hide' (grow_T G4.out g5 hlb' htm)
      have BB5 := hide' b5
      clear S5 g5 b5 CS HS4 G4
      generalize strT t4 s4.list (s4, c4) = q5 at HS5 BB5 OT
      obtain ⟨s5, c5⟩ := q5
      simp only at HS5 BB5 OT
      have CT5 := hide' (tidyC HS5.out _ BB5.out (by omega) SM4.out hl4)
      go_wp2_with fail
      refine CT5.out.mono ?_
      rintro e w6 ⟨rfl, ⟨o6, S6, g6⟩, b6⟩
      have HS6 := hide' S6
      have G6 := hide' (grow_T G5.out g6 hlb' htm)
      have BB6 := hide' b6
      clear S6 g6 b6 CT5 HS5 G5
      go_wp2_with fail
      go_ret2
      rw [OT.out]
      exact ⟨.inr ⟨rfl, lb, sb, tm, o6, rfl, HS6.out, G6.out, hlb', hsb, htm⟩, bd_mono BB6.out (by omega)⟩
    · have he4' : (e4 == 0) = false := by simpa using he4
      rw [if_pos he4] at OT
      have NE := hide' he4
      clear he4
      go_wp2_with fail
      go_ret2
      rw [OT.out]
      exact ⟨.inl ⟨NE.out, rfl, o4, HS4.out.log.dsk, G4.out⟩, bd_mono BB4.out (by omega)⟩
end Go.Proofs.YtibjcofbhldenaaGreatDoor
namespace Go.Proofs.YtibjcofbhldenaaGreatDoor
open Go.RowKit
theorem opn_new (R : Int) (n : Nat) : opnT (n : Int) (sE R (-1) 0) = (((sL R (-1) 3 [] 0, 0), []), 0) := by
  have h0 : (openT rdT (sE R (-1) 0)).2 = 0 ∧ (openT rdT (sE R (-1) 0)).1.2 = [] ∧ (openT rdT (sE R (-1) 0)).1.1.1 = sL R (-1) 3 [] 0 := by
    rcases open_fresh R (-1) 0 with g | ⟨g1, _⟩
    · exact g
    · exfalso
      apply g1
      rw [open_two (e_list R (-1) 0)]
      rfl
  obtain ⟨h1, h2, h3⟩ := h0
  unfold opnT
  rw [if_neg (by rw [h1]; simp), h2, h3]
  rfl
theorem inv_new (R : Int) (n : Nat) : Inv n ((sL R (-1) 3 [] 0, 0), []) := by
  have hw : Wf (sL R (-1) 3 [] 0) := by
    refine ⟨rfl, ?_, ?_, ?_, ?_⟩
    · intro i
      cases i with
      | zero => exact Nat.le_refl _
      | succ i => exact Nat.zero_le _
    · refine ⟨?_, ?_⟩
      · unfold SortedN; simp [sL, lN]
      · intro p hp
        simp only [sL, lN, List.mem_singleton] at hp
        rw [hp]
        exact ⟨Nat.lt_succ_self 0, by decide +kernel⟩
    · refine ⟨?_, ?_⟩
      · unfold SortedN; simp [sL, lN]
      · intro p hp
        simp only [sL, lN, List.mem_singleton] at hp
        rw [hp]
        exact ⟨Nat.lt_succ_self 0, by decide +kernel⟩
    · intro l hl; cases hl
  refine ⟨⟨⟨by show (-1 : Int) < 0; omega, rfl⟩, hw, ?_⟩, ?_, ⟨[], rfl⟩, rfl, ?_, ?_, ?_, ?_⟩
  · unfold Once; simp [sL, lN]
  · unfold SortedN; simp
  · intro p hp; cases hp
  · intro p hp; cases hp
  · intro p hp; cases hp
  · intro x hx
    left
    by_cases e : x = lgN
    · exact e
    · exfalso
      apply hx
      rw [vw_none]
      show atN lN x = none
      unfold lN atN
      simp [Ne.symm e]
theorem bf_new (R : Int) : Bf 3 0 (sL R (-1) 3 [] 0) := by
  refine ⟨?_, ?_, ?_, ?_, ?_, ?_⟩ <;> try simp [sL, lN]
  intro i
  cases i with
  | zero => rfl
  | succ i => rfl
end Go.Proofs.YtibjcofbhldenaaGreatDoor
namespace Go.Proofs.YtibjcofbhldenaaGreatDoor
open Go.RowKit Go.Maps
def avX : En := ⟨[107], [], ⟨200, [], 1, []⟩, [], 0, 0⟩
def avY : En := ⟨[109], [], ⟨200, [], 1, []⟩, [], 0, 0⟩
def avQ : LSt × NL := ((sL 9999 (-1) 3 [] 0, 0), [])
theorem av_put1 : (putT 1 avX avQ).2 = 0 := by decide +kernel
theorem av_steps : (putT 1 avX avQ).1.1.1.n = 9 := by decide +kernel
theorem av_tab : (putT 1 avX avQ).1.2 = [([107, 10], 0)] := by decide +kernel
theorem av_put2 : putT 1 avY (putT 1 avX avQ).1 = ((putT 1 avX avQ).1, 130) := by
  have h1 : (objOf avY).2 = 0 := by decide +kernel
  have h2 : freeI [([107, 10], 0)] 1 < 0 := by decide +kernel
  generalize hq : putT 1 avX avQ = q
  have ht := av_tab
  rw [hq] at ht
  unfold putT
  rw [if_neg (by rw [h1]; simp), if_neg (by decide), if_pos (by rw [ht]; exact h2)]
theorem av_vw : vw (putT 1 avX avQ).1.1.1 (nameN 0) = some (objOf avX).1 := by decide +kernel
theorem av_get : getT [107, 10] (putT 1 avX avQ).1.1.1 (putT 1 avX avQ).1.2 = (avX, true) := by
  have I := (put_inv (n := 1) (by decide) (inv_new 9999 1) avX).1
  unfold getT
  rw [av_tab]
  show rdS (putT 1 avX avQ).1.1.1 ((0 : Nat) : Int) = _
  exact rd_ent I.ok.fl (by decide) av_vw (dec_obj (e := avX) (Prod.ext rfl (by decide +kernel)))
end Go.Proofs.YtibjcofbhldenaaGreatDoor
namespace Go.Proofs.YtibjcofbhldenaaGreatDoor
open Go.RowKit Go.Maps
theorem open_new0 (R : Int) : (openT rdT (sE R (-1) 0)).1.2 = [] := by
  rcases open_fresh R (-1) 0 with g | ⟨_, g, _⟩
  · exact g.2.1
  · exact g
theorem bd_newE (R : Int) : Bd 0 (sE R (-1) 0) := by
  refine ⟨Nat.le_refl _, Nat.le_refl _, Nat.le_refl _, Nat.le_refl _, Nat.le_refl _, fun i => ?_⟩
  cases i <;> exact Nat.le_refl _
/-- Open on a new disk -/
theorem openNew {o : Ow} {g : Nat} {R : Int} {W : World} (h : Dsk o g (sE R (-1) 0) W) (n : Nat) (hn : n ≤ 4096) (hE : ∀ W', Off o.has W W' → Env W' ∧ Tab W') :
    Calls Tryz.prog 10 #[lptr g, .int .i64 (n : Int)] W fun e W' => ∃ lb sb tm o', e = .returned (.tuple #[lptr sb, .int .i64 0]) ∧ StoS o' g lb sb tm (n : Int) (sL R (-1) 3 [] 0) 0 [] W' ∧ Grow o W o' W' ∧ W.heap.size ≤ lb ∧ W.heap.size ≤ sb ∧ W.heap.size ≤ tm := by
  refine (openSC h (n : Int) (by omega) (by omega) 0 (bd_newE R) (by decide) (by rw [open_new0]; intro r hr; cases hr) (by rw [open_new0]; simp) ?_ hE).mono ?_
  · intro t ht _
    rw [open_new0] at ht
    have : t = [] := List.eq_nil_iff_forall_not_mem.2 (fun p hp => by have := ht p hp; cases this)
    rw [this]
    decide
  · rintro e W' ⟨p, -⟩
    rw [opn_new] at p
    rcases p with ⟨ne, _⟩ | ⟨_, lb, sb, tm, o', he, hs, hg, h1, h2, h3⟩
    · exact absurd rfl ne
    · exact ⟨lb, sb, tm, o', he, hs, hg, h1, h2, h3⟩
/-- a store above w -/
structure StU (w : World) (g lb sb tm n : Nat) (q : LSt × NL) (W : World) : Prop where
  b : Below w.heap.size w W
  s : ∃ o, StoS o g lb sb tm (n : Int) q.1.1 q.1.2 q.2 W ∧ ∀ k, o.has k → w.heap.size ≤ k
  l : w.heap.size ≤ lb
  t : w.heap.size ≤ tm
theorem stU_new {w : World} {o o' : Ow} {g lb sb tm n : Nat} {R : Int} {W W' : World} (nb : Below w.heap.size w W) (ho : ∀ k, o.has k → w.heap.size ≤ k) (hs : StoS o' g lb sb tm (n : Int) (sL R (-1) 3 [] 0) 0 [] W') (hg : Grow o W o' W') (h1 : W.heap.size ≤ lb) (h3 : W.heap.size ≤ tm) : StU w g lb sb tm n ((sL R (-1) 3 [] 0, 0), []) W' :=
  ⟨nb.trans (hg.off.below nb.size ho), ⟨o', hs, fun k hk => by
    rcases hg.new k hk with h | h
    · exact ho k h
    · exact Nat.le_trans nb.size h⟩, Nat.le_trans nb.size h1, Nat.le_trans nb.size h3⟩
theorem stU_below {w : World} {g lb sb tm n : Nat} {q : LSt × NL} {W W' : World} (h : StU w g lb sb tm n q W) (hb : Below W.heap.size W W') : StU w g lb sb tm n q W' := by
  obtain ⟨o, h1, h2⟩ := h.s
  exact ⟨h.b.trans (hb.mono h.b.size), ⟨o, stoS_below h1 hb, h2⟩, h.l, h.t⟩
theorem stU_post {w : World} {g lb sb tm n : Nat} {q q' : LSt × NL} {W W' : World} {o : Ow} {z : Int} {e : Ending} (h : StU w g lb sb tm n q W) (ho : ∀ k, o.has k → w.heap.size ≤ k) (p : TPost o g lb sb tm (n : Int) (q', z) W e W') : StU w g lb sb tm n q' W' := by
  obtain ⟨-, o', h1, h2⟩ := p
  refine ⟨h.b.trans (h2.off.below h.b.size (fun k hk => ?_)), ⟨o', h1, fun k hk => ?_⟩, h.l, h.t⟩
  · rcases hk with hk | hk | hk
    · exact ho k hk
    · rw [hk]; exact h.l
    · rw [hk]; exact h.t
  · rcases h2.new k hk with hk | hk
    · exact ho k hk
    · exact Nat.le_trans h.b.size hk
theorem getU {w : World} {g lb sb tm n : Nat} {q : LSt × NL} {W : World} (h : StU w g lb sb tm n q W) {k f : Nat} (hB : Bf k f q.1.1) (hk : max k f ≤ 90000000) (id : ByteArray) (hid : id.size ≤ 140737488351232) (E : Env w) (T : Tab w) :
    Calls Tryz.prog 26 #[lptr sb, .string id] W fun x W' => RdPostS W (getT id.data.toList q.1.1 q.2) x W' := by
  obtain ⟨o, h1, h2⟩ := h.s
  exact getSC h1 (bd_mono (bf_bd hB) hk) id hid (env_below E h.b) (tab_below T h.b)
theorem stepsU {w : World} {g lb sb tm n : Nat} {q : LSt × NL} {W : World} (h : StU w g lb sb tm n q W) : Calls Tryz.prog 12 #[lptr g] W fun e W' => e = .returned (.int .i64 (q.1.1.n : Int)) ∧ W' = W := by
  obtain ⟨o, h1, h2⟩ := h.s
  exact stepsC h1.log.dsk
end Go.Proofs.YtibjcofbhldenaaGreatDoor
namespace Go.Proofs.YtibjcofbhldenaaGreatDoor
open Go.RowKit Go.Maps
theorem holdsF_nil (W : World) : HoldsF W (.slice none 0 0) [] := ⟨none, 0, rfl, fun _ => rfl, Nat.le_refl _, fun h => absurd rfl h⟩
theorem holdsB_nil (W : World) : HoldsB W (.slice none 0 0) [] := ⟨none, 0, rfl, fun _ => rfl, Nat.le_refl _, fun h => absurd rfl h⟩
theorem av_small (no : Nat) (i : Nm) : bulkR (recsOf (putN [] i no)) ≤ 100 + i.length := by
  simp [putN, delN, insN, recsOf, bulkR]
  try omega
theorem bnd_av {e : En} (h1 : e.r.fs = []) (h2 : e.key.length ≤ 1) (h3 : e.vary = []) (h4 : e.body = []) (h5 : e.r.r = []) : Bnd e :=
  bnd_of (n := 10) (by rw [h1, h3, h4, h5]; simp [bulkF]; omega) (by decide)
/-- Put, over a store that lies in W0, and more behind it -/
theorem putK {w : World} {g lb sb tm n : Nat} {q : LSt × NL} {W0 W : World} (h : StU w g lb sb tm n q W0) (hb : Below W0.heap.size W0 W) (I : Inv n q) {k f : Nat} (hB : Bf k f q.1.1) (e : En) (lv bv : Value) (hF : HoldsF W lv e.r.fs) (hY : HoldsB W bv e.body) (BE : Bnd e) (hkl : e.key.length ≤ 1048576) (hvl : e.vary.length ≤ 1048576) (T : Tab w) (hn : n ≤ 4096)
    (hm : ∀ no, max k f + 1100000 + 4 * (8 + 3 * bulkR (recsOf (putN q.2 (idOf e) no))) ≤ 50000000) (ht : SmlT q.2) (htl : q.2.length + 1 ≤ 1000000) :
    Calls Tryz.prog 19 #[lptr sb, entV e lv bv] W fun x W' => x = .returned (.int .i64 (putT n e q).2) ∧ StU w g lb sb tm n (putT n e q).1 W' ∧ Off (fun j => w.heap.size ≤ j ∧ j < W0.heap.size) W W' := by
  obtain ⟨o, h1, h2⟩ := h.s
  have hW := stU_below h hb
  have h3 := stoS_below h1 hb
  refine (putSC h3 (max k f) (bf_bd hB) e lv bv hF hY BE hkl hvl (tab_below T hW.b) hn I.num hm ht htl).mono ?_
  rintro x W' ⟨p, -⟩
  have hx := p.1
  refine ⟨hx, stU_post hW h2 p, ?_⟩
  obtain ⟨-, o', -, g2⟩ := p
  refine g2.off.mono (fun j hj => ?_)
  rcases hj with hj | hj | hj
  · exact ⟨h2 j hj, dsk_lt h1.log.dsk j hj⟩
  · rw [hj]; exact ⟨h.l, h1.log.blk.2⟩
  · rw [hj]; exact ⟨h.t, tbi_lt h1.tab⟩
theorem blk_off {S : Nat → Prop} {W W' : World} {b : Nat} {vs : List Value} (h : Blk b W vs) (ho : Off S W W') (hn : ¬ S b) : Blk b W' vs := by
  have e := ho.block b h.2 hn
  exact ⟨fun j hj => ⟨by rw [World.cell?_of_block (w := W) (a := ⟨b, j, none⟩) e]; exact (h.1 j hj).1, by rw [World.frozen?_of_block (w := W) (a := ⟨b, j, none⟩) e]; exact (h.1 j hj).2⟩, Nat.lt_of_lt_of_le h.2 ho.size⟩
theorem bf_av : Bf 33 100000 (putT 1 avX avQ).1.1.1 := bf_mono (put_bf (n := 1) (by decide) (inv_new 9999 1) avX (bf_new 9999) (B := 81968) (by decide) (fun no => Nat.le_trans (av_small no _) (by decide))) (by decide) (by decide)
set_option maxRecDepth 20000
set_option maxHeartbeats 4000000
theorem aliveSC (w : World) (E : Env w) (T : Tab w) : Calls Tryz.prog 7 #[] w fun e w' => e = .returned (.bool true) ∧ Below w.heap.size w w' := by
  have CN := hide' (newC (.slice none 0 0) [] 9999 (.slice none 0 0) [] (-1) w ⟨none, 0, rfl, fun _ => rfl, Nat.le_refl _, fun h => absurd rfl h⟩ ⟨none, 0, rfl, fun _ => rfl, Nat.le_refl _, fun h => absurd rfl h⟩ (fun f h => by cases h) (by decide) (by decide) (fun z h => by cases h))
  have HE := hide' E
  have HT := hide' T
  clear E T
  go_enter Tryz.func7, Tryz.ntmps7
  go_wp2_with fail
  refine CN.out.mono ?_
  intro e w1 np
  obtain ⟨nb, ⟨ne, _⟩ | ⟨_, g, o, rfl, hD, hO⟩⟩ := np
  · exact absurd rfl ne
  have CO := hide' (openNew (R := 9999) (n := 1) hD (by decide) (fun W' h => by
    have hb := nb.trans (h.below nb.size hO)
    exact ⟨env_below HE.out hb, tab_below HT.out hb⟩))
  have NB := hide' nb
  have HO := hide' hO
  clear CN hD hO nb
  go_wp2_with fail
  refine CO.out.mono ?_
  rintro e w2 ⟨lb, sb, tm, o', rfl, hs, hg, h1, h2, h3⟩
  have U2 := hide' (stU_new NB.out HO.out hs hg h1 h3)
  have CS := hide' (stepsU U2.out)
  clear hs hg h1 h2 h3 CO HO NB
  go_wp2_with fail
  refine CS.out.mono ?_
  rintro e w3 ⟨rfl, ew⟩
  rw [ew]
  clear ew w3 CS
  have BAB : Hid (Below w2.heap.size w2 ((w2.alloc (.cells #[.string ⟨#[107]⟩, .string ⟨#[]⟩, .int .i64 200, .string ⟨#[]⟩, .int .i64 1, .slice none 0 0, .slice none 0 0, .int .i64 0, .int .i64 0] 59)).alloc (.cells #[.string ⟨#[109]⟩, .string ⟨#[]⟩, .int .i64 200, .string ⟨#[]⟩, .int .i64 1, .slice none 0 0, .slice none 0 0, .int .i64 0, .int .i64 0] 59))) := (below_alloc' w2 _).trans ((below_alloc' _ _).mono (below_alloc' w2 _).size)
  have YB : Hid (Blk (w2.heap.size + 1) ((w2.alloc (.cells #[.string ⟨#[107]⟩, .string ⟨#[]⟩, .int .i64 200, .string ⟨#[]⟩, .int .i64 1, .slice none 0 0, .slice none 0 0, .int .i64 0, .int .i64 0] 59)).alloc (.cells #[.string ⟨#[109]⟩, .string ⟨#[]⟩, .int .i64 200, .string ⟨#[]⟩, .int .i64 1, .slice none 0 0, .slice none 0 0, .int .i64 0, .int .i64 0] 59)) [.string ⟨#[109]⟩, .string ⟨#[]⟩, .int .i64 200, .string ⟨#[]⟩, .int .i64 1, .slice none 0 0, .slice none 0 0, .int .i64 0, .int .i64 0]) := by
    have h := cells_lit (w2.alloc (.cells #[.string ⟨#[107]⟩, .string ⟨#[]⟩, .int .i64 200, .string ⟨#[]⟩, .int .i64 1, .slice none 0 0, .slice none 0 0, .int .i64 0, .int .i64 0] 59)) #[.string ⟨#[109]⟩, .string ⟨#[]⟩, .int .i64 200, .string ⟨#[]⟩, .int .i64 1, .slice none 0 0, .slice none 0 0, .int .i64 0, .int .i64 0] 59
    have hz : (w2.alloc (.cells #[.string ⟨#[107]⟩, .string ⟨#[]⟩, .int .i64 200, .string ⟨#[]⟩, .int .i64 1, .slice none 0 0, .slice none 0 0, .int .i64 0, .int .i64 0] 59)).heap.size = w2.heap.size + 1 := by simp
    rw [hz] at h
    exact h
  have CP := hide' (putK U2.out BAB.out (inv_new 9999 1) (bf_new 9999) avX (.slice none 0 0) (.slice none 0 0) (holdsF_nil _) (holdsB_nil _) (bnd_av rfl (by decide) rfl rfl rfl) (by decide) (by decide) HT.out (by decide) (fun no => by have := av_small no (idOf avX); have h2 : (idOf avX).length = 2 := rfl; simp only at this ⊢; omega) (fun p hp => by cases hp) (by decide))
  go_wp2_with fail
  refine CP.out.mono ?_
  rintro x w4 ⟨rfl, u4, o4⟩
  have U4 : Hid (StU w g lb sb tm 1 (putT 1 avX avQ).1 w4) := u4
  rw [show (putT 1 avX ((sL 9999 (-1) 3 [] 0, 0), [])).2 = 0 from av_put1]
  obtain ⟨⟨y0, y1, y2, y3, y4, y5, y6, y7, y8⟩, -⟩ := cells_nine (blk_off YB.out o4 (by omega))
  clear u4 o4 YB CP BAB
  have CS := hide' (stepsU U4.out)
  rw [av_steps] at CS
  have CP := hide' (putK U4.out (Below.refl _ _) (put_inv (n := 1) (by decide) (inv_new 9999 1) avX).1 bf_av avY (.slice none 0 0) (.slice none 0 0) (holdsF_nil _) (holdsB_nil _) (bnd_av rfl (by decide) rfl rfl rfl) (by decide) (by decide) HT.out (by decide) (fun no => by rw [av_tab]; have : bulkR (recsOf (putN [([107, 10], 0)] (idOf avY) no)) = 34 := rfl; rw [this]; decide) (fun p hp => by rw [av_tab] at hp; rw [List.mem_singleton.1 hp]; decide) (by rw [av_tab]; decide))
  rw [av_put2] at CP
  have CG := hide' (fun W' (u : StU w g lb sb tm 1 (putT 1 avX avQ).1 W') => getU u bf_av (by decide) ⟨#[107, 10]⟩ (by decide) HE.out HT.out)
  rw [show (⟨#[107, 10]⟩ : ByteArray).data.toList = [107, 10] from rfl, av_get] at CG
  have QE : Hid (True) := trivial
  generalize (putT 1 avX avQ).1 = q at U4 CS CP CG
  go_wp2_with fail
  refine CS.out.mono ?_
  rintro e w5 ⟨rfl, ew⟩
  rw [ew]
  clear ew w5 CS
  go_wp2_with fail
  refine CP.out.mono ?_
  rintro x w5 ⟨rfl, u5, -⟩
  have U5 := hide' u5
  clear u5 CP y0 y1 y2 y3 y4 y5 y6 y7 y8
  go_wp2_with fail
  refine (CG.out _ U5.out).mono ?_
  rintro x w6 ⟨lv, bv, rfl, hF, hY⟩
  have B6 := hide' (U5.out.b.trans (hF.2.mono U5.out.b.size))
  obtain ⟨la, lc, _, _, e1, -⟩ := holdsF_parts (holdsF_own hF)
  obtain ⟨ba, bc, e2⟩ := row_sl hY.1
  clear hF hY CG U5 U4
  unfold entV avX at *
  dsimp only at e1 e2 ⊢
  subst e1 e2
  have CQ := hide' (pathC 4095)
  rw [show pathB 4095 = ⟨#[111, 47, 51, 102, 47, 51, 102]⟩ from by decide +kernel] at CQ
  go_wp2_with fail
  refine (CQ.out _).mono ?_
  rintro e w7 ⟨rfl, hb7⟩
  have B7 : Hid (Below w.heap.size w w7) := by
    have h1 := B6.out.trans ((below_alloc' w6 (.cells #[.string ⟨#[107]⟩, .string ⟨#[]⟩, .int .i64 200, .string ⟨#[]⟩, .int .i64 1, .slice la 0 lc, .slice ba 0 bc, .int .i64 0, .int .i64 0] 59)).mono B6.out.size)
    exact h1.trans (hb7.mono h1.size)
  clear hb7
  go_wp2_with fail
  go_ret
  exact ⟨rfl, B7.out⟩
end Go.Proofs.YtibjcofbhldenaaGreatDoor
