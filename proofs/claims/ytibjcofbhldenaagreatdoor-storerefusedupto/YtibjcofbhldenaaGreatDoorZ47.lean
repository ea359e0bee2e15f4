/- Plain: a row of Puts on a disk without faults: what stands, how great it is, and that no more is used than the room. Plain: what Get answers of a store without faults, and behind a refused Put. The entries that were read ahead of a Put: a row of them, and their own slices. -/
import Derived.Test.YtibjcofbhldenaaGreatDoorZ46
import Derived.Test.YtibjcofbhldenaaGreatDoorZ44
namespace Go.Proofs.YtibjcofbhldenaaGreatDoor
open Go.RowKit
theorem act_roomS (s : Dk) (o : DOp) (k : Nat) : (s.act o k).1.room = s.room := by
  unfold Dk.act Dk.named
  split
  · rfl
  split
  · split <;> rfl
  split
  · rfl
  split
  · rfl
  split
  · split <;> rfl
  rfl
theorem step_roomS (s : Dk) (o : DOp) : (s.step o).1.room = s.room := by
  rcases step_cases s o with ⟨n, h⟩ | ⟨k, h, _⟩
  · rw [h]
  · rw [h, act_roomS]
/-- what every step of a disk keeps, a Put keeps -/
def Kps (P : Dk → Prop) : Prop := ∀ s o, P s → P (s.step o).1
theorem kp_run {P : Dk → Prop} : ∀ (gs : List (LSt → LSt × Int)) (st : LSt), (∀ g ∈ gs, ∀ st : LSt, P st.1 → P (g st).1.1) → P st.1 → P (runT gs st).1.1 := by
  intro gs
  induction gs with
  | nil => intro st _ h; exact h
  | cons g r ih =>
    intro st hg h
    have h1 := hg g List.mem_cons_self st h
    by_cases e : (g st).2 = 0
    · rw [runT_ok e]; exact ih _ (fun g' hg' => hg g' (List.mem_cons_of_mem _ hg')) h1
    · rw [runT_bad e]; exact h1
theorem kp_op {P : Dk → Prop} (K : Kps P) (o : DOp) : ∀ st : LSt, P st.1 → P (opT o st).1.1 := fun st h => K st.1 o h
theorem kp_ops {P : Dk → Prop} (K : Kps P) (os : List DOp) (st : LSt) (h : P st.1) : P (runT (os.map opT) st).1.1 :=
  kp_run _ _ (fun g hg => by
    obtain ⟨o, _, rfl⟩ := List.mem_map.1 hg
    exact kp_op K o) h
theorem kp_create {P : Dk → Prop} (K : Kps P) (nm : Nm) (st : LSt) (h : P st.1) : P (createT nm st).1.1 := by
  unfold createT
  split
  · exact kp_ops K [⟨6, nm, [], []⟩, ⟨1, nm, [], []⟩] st h
  · exact kp_op K _ st h
theorem kp_file {P : Dk → Prop} (K : Kps P) (nm : Nm) (d : List UInt8) (st : LSt) (h : P st.1) : P (fileT nm d st).1.1 := kp_ops K [⟨2, nm, [], d⟩, ⟨3, nm, [], []⟩, ⟨4, [], [], []⟩] st h
theorem kp_add {P : Dk → Prop} (K : Kps P) (op no : Int) (id : List UInt8) (st : LSt) (h : P st.1) : P (addT op no id st).1.1 := by
  unfold addT
  split
  · unfold addR
    refine kp_run _ _ (fun g hg => ?_) h
    simp only [List.mem_cons, List.not_mem_nil, or_false] at hg
    rcases hg with rfl | rfl | rfl
    · exact kp_op K _
    · exact fun st h => h
    · exact kp_op K _
  · exact h
theorem kp_rew {P : Dk → Prop} (K : Kps P) (rs : RL) (st : LSt) (h : P st.1) : P (rewT rs st).1.1 := by
  unfold rewT
  split
  · unfold rewR
    refine kp_run _ _ (fun g hg => ?_) h
    simp only [List.mem_cons, List.not_mem_nil, or_false] at hg
    rcases hg with rfl | rfl | rfl | rfl
    · exact kp_op K _
    · intro st h
      have h1 : P (fillT (encG 0 rs).1 st).1.1 := kp_ops K [⟨2, nwN, [], (encG 0 rs).1⟩, ⟨3, nwN, [], []⟩, ⟨5, nwN, lgN, []⟩] st h
      unfold replT
      split
      · exact h1
      · exact K _ _ h1
    · exact fun st h => h
    · exact kp_op K _
  · exact h
theorem kp_put {P : Dk → Prop} (K : Kps P) (n : Nat) (e : En) (q : LSt × NL) (h : P q.1.1) : P (putT n e q).1.1.1 := by
  unfold putT
  split
  · exact h
  · split
    · exact h
    · split
      · exact h
      · unfold putAtT
        have h1 := kp_create K (nameN ((freeI q.2 n).toNat : Int)) q.1 h
        have h2 : P (fadT (freeI q.2 n).toNat (idOf e) (objOf e).1 (createT (nameN ((freeI q.2 n).toNat : Int)) q.1).1).1.1 := by
          unfold fadT
          split
          · exact kp_add K _ _ _ _ (kp_file K _ _ _ h1)
          · exact kp_file K _ _ _ h1
        split
        · exact h1
        · split
          · exact K _ _ h2
          · unfold behT
            simp only
            have h3 : ∀ st : LSt, P st.1 → ∀ t, P (tidyT t st).1 := fun st hs t => by
              unfold tidyT
              split
              · exact kp_rew K _ _ hs
              · exact hs
            apply h3
            split
            · exact K _ _ h2
            · exact h2
/-- no more is used than the room -/
structure Ur (R : Int) (s : Dk) : Prop where
  wf : Wf s
  once : Once s.now
  room : s.room = R
  used : (s.used : Int) ≤ R
theorem ur_kps (R : Int) : Kps (Ur R) := fun s o h => by
  refine ⟨wf_step h.wf o, once_step h.wf h.once o, (step_roomS s o).trans h.room, ?_⟩
  have h1 := h.used
  have h2 := h.room
  rcases used_step h.wf h.once o with h3 | h3 <;> omega
theorem ur_new {R : Int} (hR : 0 ≤ R) : Ur R (sL R (-1) 3 [] 0) := ⟨(inv_new R 0).ok.wf, (inv_new R 0).ok.once, rfl, hR⟩
theorem bulk_ids (B : Nat) : ∀ t : NL, (∀ p ∈ t, p.1.length ≤ B) → bulkR (recsOf t) ≤ t.length * (15 + B) := by
  intro t
  induction t with
  | nil => intro _; exact Nat.zero_le _
  | cons p t ih =>
    intro h
    have h1 := ih (fun p hp => h p (List.mem_cons_of_mem _ hp))
    have h2 := h p List.mem_cons_self
    have e : bulkR (recsOf (p :: t)) = 15 + p.1.length + bulkR (recsOf t) := rfl
    rw [e, List.length_cons, Nat.add_mul]
    omega
theorem bulk_ins (id : Nm) (no : Nat) : ∀ t : NL, bulkR (recsOf (insN id no t)) = 15 + id.length + bulkR (recsOf t) := by
  intro t
  induction t with
  | nil => rfl
  | cons p t ih =>
    have e : bulkR (recsOf (p :: t)) = 15 + p.1.length + bulkR (recsOf t) := rfl
    unfold insN
    split
    · show 15 + id.length + bulkR (recsOf (p :: t)) = _
      rfl
    · show 15 + p.1.length + bulkR (recsOf (insN id no t)) = _
      rw [ih, e]; omega
theorem bulk_del (id : Nm) : ∀ t : NL, bulkR (recsOf (delN t id)) ≤ bulkR (recsOf t) := by
  intro t
  induction t with
  | nil => exact Nat.le_refl _
  | cons p t ih =>
    have e : bulkR (recsOf (p :: t)) = 15 + p.1.length + bulkR (recsOf t) := rfl
    unfold delN at ih ⊢
    rw [List.filter_cons]
    split
    · show 15 + p.1.length + bulkR (recsOf (t.filter _)) ≤ _
      rw [e]; omega
    · rw [e]; omega
theorem bulk_put (id : Nm) (no : Nat) (t : NL) : bulkR (recsOf (putN t id no)) ≤ 15 + id.length + bulkR (recsOf t) := by
  unfold putN
  rw [bulk_ins]
  have := bulk_del id t
  omega
theorem inv_ids {n : Nat} {q : LSt × NL} (I : Inv n q) : ∀ p ∈ q.2, p.1.length ≤ 8193 := fun p hp => by
  obtain ⟨b, e, -, h1, h2⟩ := I.ent p hp
  obtain ⟨-, -, -, z4, z5, -⟩ := obj_sizes (dec_ok h1)
  rw [← h2]
  unfold idOf
  simp
  omega
/-- a store behind k Puts -/
structure PI (R : Int) (n k : Nat) (q : LSt × NL) : Prop where
  inv : Inv n q
  bf : Bf (3 + 30 * k) (2000000 + 4200 * k) q.1.1
  len : q.2.length ≤ k
  ur : Ur R q.1.1
theorem pi_new {R : Int} (hR : 0 ≤ R) (n : Nat) : PI R n 0 ((sL R (-1) 3 [] 0, 0), []) := ⟨inv_new R n, bf_mono (bf_new R) (by omega) (by omega), Nat.le_refl _, ur_new hR⟩
theorem pi_bulk {R : Int} {n k : Nat} {q : LSt × NL} (h : PI R n k q) (hk : k ≤ 61) (e : En) (he : e.key.length + e.vary.length ≤ 1048576) (no : Nat) : bulkR (recsOf (putN q.2 (idOf e) no)) ≤ 2000000 := by
  have h1 := bulk_put (idOf e) no q.2
  have h2 := bulk_ids 8193 q.2 (inv_ids h.inv)
  have h3 : q.2.length * (15 + 8193) ≤ 61 * (15 + 8193) := Nat.mul_le_mul_right _ (by have := h.len; omega)
  have h4 : (idOf e).length = e.key.length + (e.vary.length + 1) := by unfold idOf; simp
  omega
theorem put_tab {n : Nat} (hn : n ≤ 4096) {q : LSt × NL} (I : Inv n q) (e : En) : (putT n e q).1.2.length ≤ q.2.length + 1 := by
  unfold putT
  split
  · exact Nat.le_succ _
  · split
    · exact Nat.le_succ _
    · split
      · exact Nat.le_succ _
      · obtain ⟨no, hno⟩ : ∃ no : Nat, freeI q.2 n = (no : Int) := ⟨(freeI q.2 n).toNat, by omega⟩
        rw [hno, Int.toNat_natCast]
        obtain ⟨f1, f2⟩ := free_not hno
        rcases paT hn I f1 f2 (idOf e) (objOf e).1 with ⟨_, r2, _⟩ | ⟨_, r2, _⟩
        · rw [r2]; exact Nat.le_succ _
        · rw [r2]; exact putN_len _ _ _
theorem pi_step {R : Int} {n k : Nat} (hn : n ≤ 4096) {q : LSt × NL} (h : PI R n k q) (hk : k ≤ 61) (e : En) (he : e.key.length + e.vary.length ≤ 1048576) : PI R n (k + 1) (putT n e q).1 := by
  refine ⟨(put_inv hn h.inv e).1, ?_, Nat.le_trans (put_tab hn h.inv e) (by have := h.len; omega), kp_put (ur_kps R) n e q h.ur⟩
  refine bf_mono (put_bf hn h.inv e h.bf (B := 2000000) (by omega) (pi_bulk h hk e he)) (by omega) ?_
  rw [Nat.max_eq_left (by omega)]
  omega
theorem pi_hm {R : Int} {n k : Nat} {q : LSt × NL} (h : PI R n k q) (hk : k ≤ 61) (e : En) (he : e.key.length + e.vary.length ≤ 1048576) : ∀ no, max (3 + 30 * k) (2000000 + 4200 * k) + 1100000 + 4 * (8 + 3 * bulkR (recsOf (putN q.2 (idOf e) no))) ≤ 50000000 := fun no => by
  have := pi_bulk h hk e he no
  rw [Nat.max_eq_right (by omega)]
  omega
theorem pi_sml {R : Int} {n k : Nat} {q : LSt × NL} (h : PI R n k q) : SmlT q.2 := fun p hp => Nat.le_trans (inv_ids h.inv p hp) (by decide)
end Go.Proofs.YtibjcofbhldenaaGreatDoor
namespace Go.Proofs.YtibjcofbhldenaaGreatDoor
open Go.RowKit
theorem get_in {n : Nat} (hn : n ≤ 4096) {q : LSt × NL} (I : Inv n q) {p : Nm × Nat} (hp : p ∈ q.2) : ∃ e, getT p.1 q.1.1 q.2 = (e, true) ∧ Bnd e := by
  obtain ⟨b, e, h1, h2, -⟩ := I.ent p hp
  refine ⟨e, ?_, bnd_obj (dec_ok h2)⟩
  unfold getT
  rw [at_mem I.srt (name := p.1) (k := p.2) hp]
  exact rd_ent I.ok.fl (by have := I.num p hp; omega) h1 h2
/-- a refused Put: the table, the names, and what Get answers, are as they were -/
theorem refused_same {n : Nat} (hn : n ≤ 4096) {q : LSt × NL} (I : Inv n q) (e : En) (h : (putT n e q).2 ≠ 0) : (putT n e q).1.2 = q.2 ∧ (putT n e q).1.1.1.list = q.1.1.list ∧ ∀ p ∈ q.2, getT p.1 (putT n e q).1.1.1 (putT n e q).1.2 = getT p.1 q.1.1 q.2 := by
  obtain ⟨I2, h2⟩ := put_inv hn I e
  obtain ⟨h3, h4⟩ := h2 h
  refine ⟨h3, list_eq I.ok I2.ok h4, fun p hp => ?_⟩
  rw [h3]
  unfold getT
  rw [at_mem I.srt (name := p.1) (k := p.2) hp]
  exact rd_same I.ok.fl I2.ok.fl (by have := I.num p hp; omega) (h4 _)
end Go.Proofs.YtibjcofbhldenaaGreatDoor
namespace Go.Proofs.YtibjcofbhldenaaGreatDoor
open Go.RowKit
theorem row_offZ {W W' : World} {base k n : Nat} {t : TypeId} {v : Value} {cs : List Value} {S : Nat → Prop} (h : W.ownsRow base t k v n cs) (ho : Off S W W') (hn : ∀ b, v.ownBlock = some b → ¬ S b) : W'.ownsRow base t k v n cs := by
  obtain ⟨hl, h1 | ⟨g, cap, cur, rfl, hg, hh, hr⟩⟩ := h
  · exact ⟨hl, .inl h1⟩
  · have hlt : g < W.heap.size := by
      rcases Nat.lt_or_ge g W.heap.size with h | h
      · exact h
      · rw [Array.getElem?_eq_none (by omega)] at hh; cases hh
    exact ⟨hl, .inr ⟨g, cap, cur, rfl, hg, by rw [ho.block g hlt (hn g rfl)]; exact hh, hr⟩⟩
/-- rows of unlike types lie apart -/
theorem row_apart {W : World} {b1 b2 k1 k2 n1 n2 : Nat} {t1 t2 : TypeId} {v1 v2 : Value} {c1 c2 : List Value} (h1 : W.ownsRow b1 t1 k1 v1 n1 c1) (h2 : W.ownsRow b2 t2 k2 v2 n2 c2) (hne : t1 ≠ t2) : ∀ b, v1.ownBlock = some b → ¬ v2.ownBlock = some b := by
  intro b e1 e2
  obtain ⟨-, ⟨rfl, -⟩ | ⟨g, cap, cur, rfl, -, hh, -⟩⟩ := h1
  · cases e1
  · obtain ⟨-, ⟨rfl, -⟩ | ⟨g', cap', cur', rfl, -, hh', -⟩⟩ := h2
    · cases e2
    · simp only [Value.ownBlock, Option.some.injEq] at e1 e2
      subst e1 e2
      rw [hh] at hh'
      simp only [Option.some.injEq, Obj.cells.injEq] at hh'
      exact hne hh'.2.1
theorem row_above {W : World} {base k n : Nat} {t : TypeId} {v : Value} {cs : List Value} (h : W.ownsRow base t k v n cs) : ∀ b, v.ownBlock = some b → base ≤ b := by
  intro b e
  obtain ⟨-, ⟨rfl, -⟩ | ⟨g, cap, cur, rfl, hg, -⟩⟩ := h
  · cases e
  · simp only [Value.ownBlock, Option.some.injEq] at e
    omega
/-- the slices of an entry, in rows of their own from base on -/
def SlE (base : Nat) (p : Ev) (W : World) : Prop := W.ownsRow base 208 2 p.2.1 p.1.r.fs.length (cellsF p.1.r.fs) ∧ W.ownsRow base 5 1 p.2.2 p.1.body.length (p.1.body.map B)
theorem slE_below {base : Nat} {p : Ev} {W W' : World} (h : SlE base p W) (hb : Below W.heap.size W W') : SlE base p W' := ⟨row_below h.1 hb, row_below h.2 hb⟩
theorem slE_off {base : Nat} {p : Ev} {W W' : World} {S : Nat → Prop} (h : SlE base p W) (ho : Off S W W') (hS : ∀ k, S k → k < base) : SlE base p W' :=
  ⟨row_offZ h.1 ho (fun b e hs => by have := row_above h.1 b e; have := hS b hs; omega), row_offZ h.2 ho (fun b e hs => by have := row_above h.2 b e; have := hS b hs; omega)⟩
theorem slE_holds {w0 : World} {p : Ev} {W : World} (h : SlE w0.heap.size p W) (hb : Below w0.heap.size w0 W) : HoldsF W p.2.1 p.1.r.fs ∧ HoldsB W p.2.2 p.1.body := ⟨holdsF_own (w0 := w0) ⟨h.1, hb⟩, holdsB_own (w0 := w0) ⟨h.2, hb⟩⟩
/-- the entries of the table's first ids, read into a row -/
structure Bef (w5 : World) (q : LSt × NL) (v : Value) (es : EL) (W : World) : Prop where
  own : OwnE w5 v es W
  len : es.length ≤ q.2.length
  ent : ∀ j (h : j < es.length) (hq : j < q.2.length), getT (q.2[j]'hq).1 q.1.1 q.2 = ((es[j]'h).1, true)
  sl : ∀ p ∈ es, SlE w5.heap.size p W
theorem bef_new (w5 : World) (q : LSt × NL) : Bef w5 q (.slice (some ⟨w5.heap.size, 0, none⟩) 0 0) [] (w5.alloc (.cells #[] 59)) :=
  ⟨ownE_empty w5, Nat.zero_le _, fun j h => absurd h (by simp), fun p hp => by cases hp⟩
theorem bef_below {w5 : World} {q : LSt × NL} {v : Value} {es : EL} {W W' : World} (h : Bef w5 q v es W) (hb : Below W.heap.size W W') : Bef w5 q v es W' :=
  ⟨ownE_mono h.own hb, h.len, h.ent, fun p hp => slE_below (h.sl p hp) hb⟩
theorem bef_app {w5 : World} {q : LSt × NL} {v v' : Value} {es : EL} {W W1 W2 W' : World} {e : En} {lv bv : Value} (h : Bef w5 q v es W) (hl : es.length < q.2.length) (hF : OwnF W lv e.r.fs W1) (hY : Own W bv e.body W1) (hb : Below W1.heap.size W1 W2) (hg : getT (q.2[es.length]'hl).1 q.1.1 q.2 = (e, true)) (ho : OwnE w5 v' (es ++ [(e, lv, bv)]) W') (hO : Off (fun k => v.ownBlock = some k) W2 W') : Bef w5 q v' (es ++ [(e, lv, bv)]) W' := by
  have h2 := bef_below (bef_below h hF.2) hb
  have hz := h.own.2.size
  have hn : SlE w5.heap.size (e, lv, bv) W2 := slE_below ⟨row_base hF.1 hz, row_base hY.1 hz⟩ hb
  refine ⟨ho, by simp; omega, ?_, ?_⟩
  · intro j hj hq
    by_cases e1 : j < es.length
    · rw [List.getElem_append_left e1]
      exact h.ent j e1 hq
    · have e2 : j = es.length := by simp at hj; omega
      subst e2
      simp only [List.getElem_concat_length]
      exact hg
  · intro p hp
    have hp2 : SlE w5.heap.size p W2 := by
      rcases List.mem_append.1 hp with hp | hp
      · exact h2.sl p hp
      · rw [List.mem_singleton.1 hp]; exact hn
    exact ⟨row_offZ hp2.1 hO (row_apart hp2.1 h2.own.1 (by decide)), row_offZ hp2.2 hO (row_apart hp2.2 h2.own.1 (by decide))⟩
/-- what a Put leaves of it -/
theorem bef_off {w0 w5 : World} {q : LSt × NL} {v : Value} {es : EL} {W W' : World} {S : Nat → Prop} (h : Bef w5 q v es W) (ho : Off S W W') (hS : ∀ k, S k → k < w5.heap.size) (hw : w0.heap.size ≤ w5.heap.size) (hb : Below w0.heap.size w0 W') : OwnE w0 v es W' ∧ ∀ p ∈ es, SlE w0.heap.size p W' := by
  refine ⟨⟨row_base (row_offZ h.own.1 ho (fun b e hs => by have := row_above h.own.1 b e; have := hS b hs; omega)) hw, hb⟩, fun p hp => ?_⟩
  have h1 := slE_off (h.sl p hp) ho hS
  exact ⟨row_base h1.1 hw, row_base h1.2 hw⟩
end Go.Proofs.YtibjcofbhldenaaGreatDoor
