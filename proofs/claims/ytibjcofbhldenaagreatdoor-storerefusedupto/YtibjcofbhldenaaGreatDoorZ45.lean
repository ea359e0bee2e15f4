/- A list of steps (an entry and an id each) that came in: what the reading says of it. Plain: how great a disk without faults grows by a Put: counts and the files' lengths apart. -/
import Derived.Test.YtibjcofbhldenaaGreatDoorZ17
import Derived.Test.YtibjcofbhldenaaGreatDoorZ44
import Derived.Test.YtibjcofbhldenaaGreatDoorZ43
import Derived.Test.YtibjcofbhldenaaGreatDoorZ19
namespace Go.Proofs.YtibjcofbhldenaaGreatDoor
open Go.ChangeShapes Go.WideShapes Go.ChangeAt Go.RowKit
set_option maxRecDepth 100000 in
theorem entry_trod {H : Type} {enc : TypeId × Value → H} {W : World} {fuel : Nat} {c0 c1 c2 c3 c4 c5 c6 c7 c8 : Value} {y : DataW H × List MemPlace} (hf : DataW.trod enc Tryz.prog W 0 (fun _ => true) true fuel 59 [c0, c1, c2, c3, c4, c5, c6, c7, c8] = some y) :
    ∃ (e : En) (lv bv : Value), [c0, c1, c2, c3, c4, c5, c6, c7, c8] = entL e lv bv ∧ HoldsF W lv e.r.fs ∧ HoldsB W bv e.body ∧ e.key.length + e.vary.length + e.r.r.length + bulkF e.r.fs + e.body.length + 5 ≤ Rows.uptoBulk y.1 := by
  have k1 : Tryz.prog.cellsOf 9 = 1 := by kernel_rfl
  have k2 : Tryz.prog.cellsOf 56 = 4 := by kernel_rfl
  have k3 : Tryz.prog.cellsOf 57 = 1 := by kernel_rfl
  have k4 : Tryz.prog.cellsOf 3 = 1 := by kernel_rfl
  have k5 : Tryz.prog.cellsOf 54 = 1 := by kernel_rfl
  obtain ⟨d, pl⟩ := y
  obtain ⟨xs, n, _, hx, _, hlen, hfl⟩ := DataW.trod_struct Tryz.underlying59 hf
  obtain ⟨y0, y1, y2, y3, y4, y5, rfl⟩ := list6 hlen
  have h0 := hfl 0 _ rfl
  have h1 := hfl 1 _ rfl
  have h2 := hfl 2 _ rfl
  have h3 := hfl 3 _ rfl
  have h4 := hfl 4 _ rfl
  have h5 := hfl 5 _ rfl
  simp [k1, k2, k3, k4] at h0 h1 h2 h3 h4 h5
  simp only [Prod.mk.injEq] at hx
  obtain ⟨rfl, _⟩ := hx
  obtain ⟨s0, e0, x0, _⟩ := DataW.trod_string Tryz.underlying9 h0
  obtain ⟨s1, e1, x1, _⟩ := DataW.trod_string Tryz.underlying9 h1
  obtain ⟨z0, z1, z2, z3, n2, hr, _, g0, g1, g2, g3⟩ := Joins.trod_struct4 Tryz.underlying56 h2
  simp [k1, k4, k5] at g0 g1 g2 g3
  obtain ⟨st, e2, x2, _⟩ := DataW.trod_int Tryz.underlying3 g0
  obtain ⟨s3, e3, x3, _⟩ := DataW.trod_string Tryz.underlying9 g1
  obtain ⟨mi, e4, x4, _⟩ := DataW.trod_int Tryz.underlying3 g2
  obtain ⟨fa, fl, fc, e5⟩ := Joins.slice_form Tryz.underlying54 g3
  obtain ⟨ba, bl, bc, e6⟩ := Joins.slice_form Tryz.underlying57 h3
  obtain ⟨as1, e7, x7, _⟩ := DataW.trod_int Tryz.underlying3 h4
  obtain ⟨gt, e8, x8, _⟩ := DataW.trod_int Tryz.underlying3 h5
  simp only [List.cons.injEq, and_true] at e0 e1 e2 e3 e4 e5 e6 e7 e8
  subst e0 e1 e2 e3 e4 e5 e6 e7 e8 x0 x1 x2 x3 x4 x7 x8
  obtain ⟨fs, hF, hb, _⟩ := open_fieldsS ⟨fa, fl, fc, rfl⟩ (⟨n2, g3⟩ : DataW.Trod enc Tryz.prog W 0 (fun _ => true) true 54 (.slice fa fl fc) z3.1 z3.2)
  obtain ⟨bs, hB, hb2⟩ := open_bytesS ⟨ba, bl, bc, rfl⟩ (⟨n, h3⟩ : DataW.Trod enc Tryz.prog W 0 (fun _ => true) true 57 (.slice ba bl bc) y3.1 y3.2)
  refine ⟨⟨s0.data.toList, s1.data.toList, ⟨st, s3.data.toList, mi, fs⟩, bs, as1, gt⟩, .slice fa fl fc, .slice ba bl bc, by unfold entL; rw [← ba_list, ← ba_list, ← ba_list], hF, hB, ?_⟩
  subst hr
  simp only [Rows.uptoBulk, Rows.uptoBulkAll, List.map_cons, List.map_nil]
  omega
/-- the bytes of a list of steps -/
def bulkSp : List Sp → Nat
  | [] => 0
  | o :: r => o.1.key.length + o.1.vary.length + o.1.r.r.length + bulkF o.1.r.fs + o.1.body.length + 5 + o.2.length + bulkSp r
theorem bulkSp_mem (os : List Sp) : ∀ o ∈ os, o.1.key.length + o.1.vary.length + o.1.r.r.length + bulkF o.1.r.fs + o.1.body.length + 5 ≤ bulkSp os := by
  induction os with
  | nil => intro r h; cases h
  | cons q rs ih =>
    intro r h
    simp only [bulkSp]
    rcases List.mem_cons.1 h with rfl | h
    · omega
    · have := ih r h; omega
theorem bulkSp_len (os : List Sp) : os.length * 5 ≤ bulkSp os := by
  induction os with
  | nil => exact Nat.zero_le _
  | cons r rs ih => simp only [List.length_cons, bulkSp]; omega
theorem bulk_sps {H : Type} (f : Nat → Sp) (g : Nat → DataW H) : ∀ (ks : List Nat), (∀ k ∈ ks, (f k).1.key.length + (f k).1.vary.length + (f k).1.r.r.length + bulkF (f k).1.r.fs + (f k).1.body.length + 5 + (f k).2.length ≤ Rows.uptoBulk (g k)) → bulkSp (ks.map f) ≤ Rows.uptoBulkAll (ks.map g) := by
  intro ks
  induction ks with
  | nil => intro _; exact Nat.zero_le _
  | cons k r ih =>
    intro h
    have h1 := h k (by simp)
    have h2 := ih (fun k hk => h k (by simp [hk]))
    show (f k).1.key.length + (f k).1.vary.length + (f k).1.r.r.length + bulkF (f k).1.r.fs + (f k).1.body.length + 5 + (f k).2.length + bulkSp (r.map f) ≤ Rows.uptoBulk (g k) + Rows.uptoBulkAll (r.map g)
    omega
set_option maxRecDepth 100000 in
theorem open_sps0 {H : Type} {enc : TypeId × Value → H} {W : World} {v : Value} {d : DataW H} {p : List MemPlace} {t e : TypeId} {f0 f1 : Field} (ht : Tryz.prog.underlying t = some (.slice e)) (he : Tryz.prog.underlying e = some (.struct #[f0, f1])) (ce : Tryz.prog.cellsOf e = 10) (o0 : f0.offset = 0) (o1 : f1.offset = 9) (e0 : f0.type = 59) (e1 : f1.type = 9)
    (hform : ∃ a l c, v = .slice a l c) (h : DataW.Trod enc Tryz.prog W 0 (fun _ => true) true t v d p) : ∃ os : List Sp, HoldsSp W v os ∧ bulkSp os + 1 ≤ Rows.uptoBulk d := by
  have k1 : Tryz.prog.cellsOf 9 = 1 := by kernel_rfl
  have k9 : Tryz.prog.cellsOf 59 = 9 := by kernel_rfl
  obtain ⟨a0, len0, cap0, rfl⟩ := hform
  obtain ⟨fuel, hf⟩ := h
  rcases Go.Deep.open_slice ht hf with ⟨hcs, hx⟩ | ⟨a, len, cap, m, n, D, Pl, hcs, _, hl, hm, hmm, hx, hcell⟩
  · simp [Value.cells] at hcs
    obtain ⟨rfl, rfl, rfl⟩ := hcs
    simp only [Prod.mk.injEq] at hx
    obtain ⟨rfl, _⟩ := hx
    exact ⟨[], ⟨none, 0, rfl, fun _ => rfl, Nat.le_refl _, fun h => absurd rfl h⟩, by simp [bulkSp, Rows.uptoBulk]⟩
  · simp [Value.cells] at hcs
    obtain ⟨rfl, rfl, rfl⟩ := hcs
    simp only [Prod.mk.injEq] at hx
    obtain ⟨hd, _⟩ := hx
    have hmm' : m = cap0 := by simpa using hmm
    subst hmm'
    have E : ∀ i, ∃ q : Sp, i < m → (∃ lv bv, (∀ j (_ : j < 9), W.cell? (a.add (i * 10 + j)) = (entL q.1 lv bv)[j]?) ∧ HoldsF W lv q.1.r.fs ∧ HoldsB W bv q.1.body ∧ W.cell? (a.add (i * 10 + 9)) = some (.string ⟨q.2.toArray⟩)) ∧ q.1.key.length + q.1.vary.length + q.1.r.r.length + bulkF q.1.r.fs + q.1.body.length + 5 + q.2.length ≤ Rows.uptoBulk (D i) := by
      intro i
      by_cases hi : i < m
      · obtain ⟨cs', h1, h2⟩ := hcell i hi
        rw [ce] at h1
        obtain ⟨_, hlen, hc⟩ := World.cells?_some h1
        obtain ⟨y0, y1, k, hxy, _, r0, r1⟩ := Go.ChangeShapes.trod_struct2 he h2
        match cs', hlen with
        | [v0, v1, v2, v3, v4, v5, v6, v7, v8, v9], _ =>
          rw [o0, e0, k9] at r0
          rw [o1, e1, k1] at r1
          simp only [List.drop_zero, List.drop_succ_cons, List.take_succ_cons, List.take_zero] at r0 r1
          obtain ⟨en, lv, bv, g1, g2, g3, g4⟩ := entry_trod r0
          obtain ⟨s3, t3, x3, _⟩ := DataW.trod_string Tryz.underlying9 r1
          simp only [List.cons.injEq, and_true] at t3
          simp only [Prod.mk.injEq] at hxy
          refine ⟨(en, s3.data.toList), fun _ => ⟨⟨lv, bv, fun j hj => ?_, g2, g3, ?_⟩, ?_⟩⟩
          · have c := hc j (by omega)
            rw [Go.Deep.add_add] at c
            rw [c, ← g1]
            match j, hj with
            | 0, _ => rfl
            | 1, _ => rfl
            | 2, _ => rfl
            | 3, _ => rfl
            | 4, _ => rfl
            | 5, _ => rfl
            | 6, _ => rfl
            | 7, _ => rfl
            | 8, _ => rfl
          · have c := hc 9 (by omega)
            rw [Go.Deep.add_add] at c
            rw [c]
            simp [t3]
          · rw [hxy.1]
            dsimp only
            rw [x3]
            simp only [Rows.uptoBulk, Rows.uptoBulkAll, Array.length_toList] at g4 ⊢
            omega
      · exact ⟨(En.zero, []), fun h => absurd h hi⟩
    obtain ⟨q, hq⟩ := Classical.axiomOfChoice E
    have hlen : ((List.range len0).map q).length = len0 := by simp
    refine ⟨(List.range len0).map q, ⟨some a, m, by rw [hlen], (fun e => by cases e), by omega, fun hne => ?_⟩, ?_⟩
    · have hpos : 0 < len0 := by
        rcases Nat.eq_zero_or_pos len0 with h | h
        · subst h; simp at hne
        · exact h
      obtain ⟨⟨lv0, bv0, hc0, -⟩, -⟩ := hq 0 (by omega)
      obtain ⟨b, off, rfl, hblt⟩ := addr_at (u := .string ⟨(q 0).1.key.toArray⟩) (by have := hc0 0 (by omega); rw [Nat.zero_mul, Nat.zero_add] at this; exact this)
      refine ⟨b, off, rfl, hblt, fun j hj => ?_⟩
      rw [hlen] at hj
      obtain ⟨⟨lv, bv, hc, hu1, hu2, hu3⟩, _⟩ := hq j (by omega)
      simp only [List.getElem_map, List.getElem_range]
      have c : ∀ k (_ : k < 9), W.cell? ⟨b, off + j * 10 + k, none⟩ = (entL (q j).1 lv bv)[k]? := fun k hk => by
        have := hc k hk
        rw [Go.WideShapes.add_plain, ← Nat.add_assoc] at this
        exact this
      rw [Go.WideShapes.add_plain, ← Nat.add_assoc] at hu3
      exact ⟨lv, bv, ⟨c 0 (by omega), c 1 (by omega), c 2 (by omega), c 3 (by omega), c 4 (by omega), c 5 (by omega), c 6 (by omega), c 7 (by omega), c 8 (by omega)⟩, hu1, hu2, hu3⟩
    · rw [hd]
      have := bulk_sps q D (List.range len0) (fun k hk => (hq k (by have := List.mem_range.1 hk; omega)).2)
      simp only [Rows.uptoBulk]
      omega
set_option maxRecDepth 100000 in
theorem open_sps {H : Type} {enc : TypeId × Value → H} {W : World} {base : Nat} {v : Value} {d : DataW H} {p : List MemPlace} (hok : Value.okWide Tryz.prog W .any base 26 v) (h : DataW.Trod enc Tryz.prog W 0 (fun _ => true) true 26 v d p) : ∃ os : List Sp, HoldsSp W v os ∧ bulkSp os + 1 ≤ Rows.uptoBulk d :=
  open_sps0 Tryz.underlying26 Tryz.underlying61 (by kernel_rfl) rfl rfl rfl rfl (okWide_slice Tryz.underlying26 hok) h
end Go.Proofs.YtibjcofbhldenaaGreatDoor
namespace Go.Proofs.YtibjcofbhldenaaGreatDoor
open Go.RowKit
structure Bf (k f : Nat) (s : Dk) : Prop where
  n : s.n ≤ k
  dl : s.data.length ≤ k
  nl : s.now.length ≤ k
  sl : s.safe.length ≤ k
  pl : s.pend.length ≤ k
  fl : ∀ i, (s.data.getD i []).length ≤ f
theorem bf_bd {k f : Nat} {s : Dk} (h : Bf k f s) : Bd (max k f) s :=
  ⟨Nat.le_trans h.n (Nat.le_max_left _ _), Nat.le_trans h.dl (Nat.le_max_left _ _), Nat.le_trans h.nl (Nat.le_max_left _ _), Nat.le_trans h.sl (Nat.le_max_left _ _), Nat.le_trans h.pl (Nat.le_max_left _ _), fun i => Nat.le_trans (h.fl i) (Nat.le_max_right _ _)⟩
theorem bf_mono {k f k' f' : Nat} {s : Dk} (h : Bf k f s) (hk : k ≤ k') (hf : f ≤ f') : Bf k' f' s :=
  ⟨Nat.le_trans h.n hk, Nat.le_trans h.dl hk, Nat.le_trans h.nl hk, Nat.le_trans h.sl hk, Nat.le_trans h.pl hk, fun i => Nat.le_trans (h.fl i) hf⟩
theorem bf_n {k f : Nat} {s : Dk} (h : Bf k f s) : Bf (k + 1) f { s with n := s.n + 1 } := ⟨by have := h.n; simp only; omega, by have := h.dl; simp only; omega, by have := h.nl; simp only; omega, by have := h.sl; simp only; omega, by have := h.pl; simp only; omega, h.fl⟩
theorem bf_act {k f : Nat} {s : Dk} (h : Bf k f s) (o : DOp) (j : Nat) (ho : o.what ≠ 2) : Bf (k + 1) f (s.act o j).1 := by
  have hd : ∀ n : Nm, (delN s.now n).length ≤ s.now.length := fun n => List.length_filter_le _ _
  have h1 := h.n
  have h2 := h.dl
  have h3 := h.nl
  have h4 := h.sl
  have h5 := h.pl
  unfold Dk.act
  split
  · refine ⟨by simp only [Dk.named]; omega, by simp only [Dk.named, List.length_append, List.length_singleton]; omega, ?_, by simp only [Dk.named]; omega, by simp only [Dk.named, List.length_append, List.length_singleton]; omega, fun i => ?_⟩
    · simp only [Dk.named]
      have := put_lenK s.now o.name s.data.length
      omega
    · simp only [Dk.named]
      rcases Nat.lt_or_ge i s.data.length with hi | hi
      · have := h.fl i
        simpa [List.getD, List.getElem?_append_left hi] using this
      · rw [List.getD_eq_getElem?_getD, List.getElem?_append_right hi]
        cases hz : i - s.data.length with
        | zero => simp
        | succ z => simp
  · split
    · exact ⟨by simp only; omega, by simp only; omega, by simp only; omega, by simp only; omega, by simp only; omega, h.fl⟩
    · split
      · exact ⟨by simp only; omega, by simp only; omega, by simp only; omega, by simp only; omega, by simp, h.fl⟩
      · split
        · split
          · exact bf_mono h (by omega) (Nat.le_refl _)
          · refine ⟨by simp only [Dk.named]; omega, by simp only [Dk.named]; omega, ?_, by simp only [Dk.named]; omega, by simp only [Dk.named, List.length_append, List.length_singleton]; omega, h.fl⟩
            simp only [Dk.named]
            have a := put_lenK (delN s.now o.name) o.to j
            have b := hd o.name
            omega
        · refine ⟨by simp only [Dk.named]; omega, by simp only [Dk.named]; omega, ?_, by simp only [Dk.named]; omega, by simp only [Dk.named, List.length_append, List.length_singleton]; omega, h.fl⟩
          simp only [Dk.named]
          have b := hd o.name
          omega
theorem bf_step {k f : Nat} {s : Dk} (h : Bf k f s) (o : DOp) (ho : o.what ≠ 2) : Bf (k + 2) f (s.step o).1 := by
  have h1 := bf_n h
  unfold Dk.step
  split
  · exact bf_mono h (by omega) (Nat.le_refl _)
  · split
    · exact bf_mono h1 (by omega) (Nat.le_refl _)
    · split
      · exact bf_mono h1 (by omega) (Nat.le_refl _)
      · split
        · split
          · exact bf_act h1 o _ ho
          · exact bf_mono h1 (by omega) (Nat.le_refl _)
        · split
          · exact bf_mono h1 (by omega) (Nat.le_refl _)
          · exact bf_act h1 o _ ho
theorem bf_app {k f : Nat} {s : Dk} (h : Bf k f s) (ok : Ok3 s) {nm : Nm} (hg : goodN nm = true) {b : List UInt8} (hv : vw s nm = some b) (d : List UInt8) : Bf (k + 2) (max f (b.length + d.length)) (s.step ⟨2, nm, [], d⟩).1 := by
  obtain ⟨j, hj, hb⟩ := vw_some hv
  have e := fl_step ok.fl ⟨2, nm, [], d⟩ (by simp [hg])
  simp only at e
  rw [hj] at e
  simp only at e
  rw [if_neg (by decide)] at e
  rw [e]
  have h1 := bf_n h
  unfold Dk.act
  simp only
  rw [if_neg (by decide), if_pos trivial]
  split
  · exact bf_mono h1 (by omega) (Nat.le_max_left _ _)
  · refine ⟨by have := h1.n; simp only at this ⊢; omega, by have := h1.dl; simp only [List.length_set] at this ⊢; omega, by have := h1.nl; simp only at this ⊢; omega, by have := h1.sl; simp only at this ⊢; omega, by have := h1.pl; simp only at this ⊢; omega, fun i => ?_⟩
    by_cases hi : j = i
    · subst hi
      have hl := (ok.wf.now.2 _ (at_some hj)).1
      simp only
      rw [List.getD_eq_getElem?_getD, List.getElem?_set_self hl, Option.getD_some, List.length_append, hb]
      exact Nat.le_max_right _ _
    · simp only
      rw [List.getD_eq_getElem?_getD, List.getElem?_set_ne hi, ← List.getD_eq_getElem?_getD]
      exact Nat.le_trans (h.fl i) (Nat.le_max_left _ _)
theorem vw_len {k f : Nat} {s : Dk} (h : Bf k f s) {nm : Nm} {b : List UInt8} (hv : vw s nm = some b) : b.length ≤ f := by
  obtain ⟨j, _, hb⟩ := vw_some hv
  rw [← hb]
  exact h.fl j
theorem fiB {k f : Nat} {st : LSt} (h : Bf k f st.1) (ok : Ok3 st.1) {nm : Nm} (hg : goodN nm = true) (hv : vw st.1 nm = some []) (d : List UInt8) : Bf (k + 6) (max f d.length) (fileT nm d st).1.1 := by
  obtain ⟨s, c⟩ := st
  simp only at h ok hv
  have b1 := bf_app h ok hg hv d
  simp only [List.length_nil, Nat.zero_add] at b1
  have b2 := bf_step b1 ⟨3, nm, [], []⟩ (show (3 : Int) ≠ 2 by decide)
  have b3 := bf_step b2 ⟨4, [], [], []⟩ (show (4 : Int) ≠ 2 by decide)
  unfold fileT
  by_cases e1 : (opT ⟨2, nm, [], d⟩ (s, c)).2 = 0
  · rw [runT_ok e1]
    by_cases e2 : (opT ⟨3, nm, [], []⟩ (opT ⟨2, nm, [], d⟩ (s, c)).1).2 = 0
    · rw [runT_ok e2]
      by_cases e3 : (opT ⟨4, [], [], []⟩ (opT ⟨3, nm, [], []⟩ (opT ⟨2, nm, [], d⟩ (s, c)).1).1).2 = 0
      · rw [runT_ok e3]; exact b3
      · rw [runT_bad e3]; exact b3
    · rw [runT_bad e2]; exact bf_mono b2 (by omega) (Nat.le_refl _)
  · rw [runT_bad e1]; exact bf_mono b1 (by omega) (Nat.le_refl _)
theorem enc_short {seq op no : Int} {id : List UInt8} : (encOf seq op no id).1.length ≤ 4200 := by
  unfold encOf
  split
  · split
    · rename_i h
      simp only
      rw [recL_len]
      omega
    · simp
  · simp
theorem adB {k f : Nat} {st : LSt} (h : Bf k f st.1) (ok : Ok3 st.1) {b : List UInt8} (hv : vw st.1 lgN = some b) (op no : Int) (id : List UInt8) : Bf (k + 4) (f + 4200) (addT op no id st).1.1 := by
  obtain ⟨s, c⟩ := st
  simp only at h ok hv
  unfold addT
  split
  · have hr := enc_short (seq := c) (op := op) (no := no) (id := id)
    simp only
    generalize (encOf c op no id).1 = r at hr
    have b1 := bf_mono (bf_app h ok lg_good hv r) (Nat.le_refl _) (show max f (b.length + r.length) ≤ f + 4200 by have := vw_len h hv; omega)
    have b2 := bf_step b1 ⟨3, lgN, [], []⟩ (show (3 : Int) ≠ 2 by decide)
    unfold addR
    by_cases e1 : (opT ⟨2, lgN, [], r⟩ (s, c)).2 = 0
    · rw [runT_ok e1, runT_ok (show (setT (c + 1) _).2 = 0 from rfl)]
      by_cases e2 : (opT ⟨3, lgN, [], []⟩ (setT (c + 1) (opT ⟨2, lgN, [], r⟩ (s, c)).1).1).2 = 0
      · rw [runT_ok e2]; exact b2
      · rw [runT_bad e2]; exact b2
    · rw [runT_bad e1]; exact bf_mono b1 (by omega) (Nat.le_refl _)
  · exact bf_mono h (by omega) (by omega)
theorem rwB {k f : Nat} {st : LSt} (h : Bf k f st.1) (ok : Ok3 st.1) (hn : vw st.1 nwN = none) (rs : RL) : Bf (k + 12) (max f (bulkR rs)) (rewT rs st).1.1 := by
  obtain ⟨s, c⟩ := st
  simp only at h ok hn
  unfold rewT
  split
  · rename_i he
    have hr : (encG 0 rs).1.length ≤ bulkR rs := by
      have := encH_len rs 0 []
      unfold encH at this
      rw [if_pos he] at this
      simpa using this
    generalize (encG 0 rs).1 = r at hr
    obtain ⟨e1, v1⟩ := st_create ok nw_good hn
    have o1 := ok3_step ok ⟨1, nwN, [], []⟩
    have hv1 : vw (s.step ⟨1, nwN, [], []⟩).1 nwN = some [] := by rw [v1, if_pos rfl]
    have b1 := bf_step h ⟨1, nwN, [], []⟩ (show (1 : Int) ≠ 2 by decide)
    have b2 := bf_app b1 o1 nw_good hv1 r
    simp only [List.length_nil, Nat.zero_add] at b2
    have b2' : Bf (k + 4) (max f (bulkR rs)) ((s.step ⟨1, nwN, [], []⟩).1.step ⟨2, nwN, [], r⟩).1 := bf_mono b2 (by omega) (by omega)
    have b3 := bf_step b2' ⟨3, nwN, [], []⟩ (show (3 : Int) ≠ 2 by decide)
    have b4 := bf_step b3 ⟨5, nwN, lgN, []⟩ (show (5 : Int) ≠ 2 by decide)
    have hfill : Bf (k + 8) (max f (bulkR rs)) (fillT r ((s.step ⟨1, nwN, [], []⟩).1, c)).1.1 := by
      unfold fillT
      by_cases e2 : (opT ⟨2, nwN, [], r⟩ ((s.step ⟨1, nwN, [], []⟩).1, c)).2 = 0
      · rw [runT_ok e2]
        by_cases e3 : (opT ⟨3, nwN, [], []⟩ (opT ⟨2, nwN, [], r⟩ ((s.step ⟨1, nwN, [], []⟩).1, c)).1).2 = 0
        · rw [runT_ok e3]
          by_cases e4 : (opT ⟨5, nwN, lgN, []⟩ (opT ⟨3, nwN, [], []⟩ (opT ⟨2, nwN, [], r⟩ ((s.step ⟨1, nwN, [], []⟩).1, c)).1).1).2 = 0
          · rw [runT_ok e4]; exact b4
          · rw [runT_bad e4]; exact b4
        · rw [runT_bad e3]; exact bf_mono b3 (by omega) (Nat.le_refl _)
      · rw [runT_bad e2]; exact bf_mono b2' (by omega) (Nat.le_refl _)
    have hrepl : Bf (k + 10) (max f (bulkR rs)) (replT r ((s.step ⟨1, nwN, [], []⟩).1, c)).1.1 := by
      unfold replT
      split
      · exact bf_mono hfill (by omega) (Nat.le_refl _)
      · exact bf_step hfill ⟨6, nwN, [], []⟩ (show (6 : Int) ≠ 2 by decide)
    unfold rewR
    rw [runT_ok (show (opT ⟨1, nwN, [], []⟩ (s, c)).2 = 0 from e1)]
    show Bf _ _ (runT _ ((s.step ⟨1, nwN, [], []⟩).1, c)).1.1
    by_cases e5 : (replT r ((s.step ⟨1, nwN, [], []⟩).1, c)).2 = 0
    · rw [runT_ok e5, runT_ok (show (setT (rs.length : Int) _).2 = 0 from rfl)]
      have b6 := bf_step hrepl ⟨4, [], [], []⟩ (show (4 : Int) ≠ 2 by decide)
      by_cases e6 : (opT ⟨4, [], [], []⟩ (setT (rs.length : Int) (replT r ((s.step ⟨1, nwN, [], []⟩).1, c)).1).1).2 = 0
      · rw [runT_ok e6]; exact b6
      · rw [runT_bad e6]; exact b6
    · rw [runT_bad e5]; exact bf_mono hrepl (by omega) (Nat.le_refl _)
  · exact bf_mono h (by omega) (Nat.le_max_left _ _)
theorem tdB {k f : Nat} {st : LSt} (h : Bf k f st.1) (ok : Ok3 st.1) (hn : vw st.1 nwN = none) (t : NL) : Bf (k + 12) (max f (bulkR (recsOf t))) (tidyT t st).1 := by
  unfold tidyT
  split
  · exact rwB h ok hn _
  · exact bf_mono h (by omega) (Nat.le_max_left _ _)
/-- how great a Put makes the disk -/
theorem put_bf {n : Nat} (hn : n ≤ 4096) {q : LSt × NL} (I : Inv n q) (e : En) {k f B : Nat} (h : Bf k f q.1.1) (hB : 81968 ≤ B) (hB2 : ∀ no, bulkR (recsOf (putN q.2 (idOf e) no)) ≤ B) : Bf (k + 30) (max f B + 4200) (putT n e q).1.1.1 := by
  have hsame : Bf (k + 30) (max f B + 4200) q.1.1 := bf_mono h (by omega) (by omega)
  unfold putT
  split
  · exact hsame
  · rename_i hob
    split
    · exact hsame
    · split
      · exact hsame
      · rename_i hlen hfr
        have hz : (objOf e).2 = 0 := by
          rcases Int.decEq (objOf e).2 0 with h | h
          · exact absurd h hob
          · exact h
        have hdl := (obj_len (e := e) (w := (objOf e).1) (Prod.ext rfl hz)).2
        obtain ⟨no, hno⟩ : ∃ no : Nat, freeI q.2 n = (no : Int) := ⟨(freeI q.2 n).toNat, by omega⟩
        rw [hno, Int.toNat_natCast]
        obtain ⟨f1, f2⟩ := free_not hno
        generalize (objOf e).1 = d at hdl
        generalize idOf e = id at hB2
        obtain ⟨st, t⟩ := q
        have hk : no < 4096 := by omega
        have hg := name_good hk
        have hv0 : vw st.1 (nameN (no : Int)) = none := by
          cases ev : vw st.1 (nameN (no : Int)) with
          | none => rfl
          | some b =>
            rcases I.all (nameN (no : Int)) (by rw [ev]; simp) with h1 | ⟨p, hp, h1⟩
            · exact absurd h1 (name_lg hk)
            · have := name_inj hk (by have := I.num p hp; omega) h1
              exact absurd this.symm (f2 p hp)
        obtain ⟨lb, hlb⟩ := I.log
        simp only at hlb h
        obtain ⟨c1, c2, c3, c4⟩ := crT I.ok hg hv0
        simp only at c1 c2 c3 c4
        have b1 : Bf (k + 2) f (createT (nameN (no : Int)) st).1.1 := by
          unfold createT
          rw [if_neg (in_list I.ok hv0)]
          exact bf_step h ⟨1, nameN (no : Int), [], []⟩ (show (1 : Int) ≠ 2 by decide)
        unfold putAtT
        rw [if_neg (by simp only; rw [c1]; simp)]
        simp only
        generalize (createT (nameN (no : Int)) st).1 = st1 at c2 c3 c4 b1
        have hv1 : vw st1.1 (nameN (no : Int)) = some [] := by rw [c4, if_pos rfl]
        have hl1 : vw st1.1 lgN = some lb := by rw [c4, if_neg (name_lg hk).symm, hlb]
        have hw1 : vw st1.1 nwN = none := by rw [c4, if_neg (name_nw hk).symm]; exact I.nw
        obtain ⟨g1, g2, g3⟩ := fiT c3 hg hv1 d
        have b2 := fiB b1 c3 hg hv1 d
        have F : Bf (k + 12) (max f B + 4200) (fadT no id d st1).1.1 ∧ Ok3 (fadT no id d st1).1.1 ∧ vw (fadT no id d st1).1.1 nwN = none := by
          unfold fadT
          rcases g3 with ⟨g4, g5⟩ | ⟨g4, g5⟩
          · rw [if_neg (by rw [g4]; decide)]
            exact ⟨bf_mono b2 (by omega) (by omega), g2, by rw [g5, hw1]⟩
          · rw [if_pos g4]
            have hl2 : vw (fileT (nameN (no : Int)) d st1).1.1 lgN = some lb := by rw [g5, if_neg (name_lg hk).symm, hl1]
            obtain ⟨a1, a2⟩ := adT g2 hl2 1 (no : Int) id
            refine ⟨bf_mono (adB b2 g2 hl2 1 (no : Int) id) (by omega) (by omega), a1, ?_⟩
            have hw2 : vw (fileT (nameN (no : Int)) d st1).1.1 nwN = none := by rw [g5, if_neg (name_nw hk).symm, hw1]
            rcases a2 with ⟨_, _, a5⟩ | ⟨_, _, b', a5⟩
            · rw [a5, hw2]
            · rw [a5, if_neg lg_nw.symm, hw2]
        generalize fadT no id d st1 = fa at F
        obtain ⟨F1, F2, F3⟩ := F
        split
        · exact bf_mono (bf_step F1 ⟨6, nameN (no : Int), [], []⟩ (show (6 : Int) ≠ 2 by decide)) (by omega) (Nat.le_refl _)
        · unfold behT
          simp only
          have hbk := hB2 no
          simp only at hbk
          cases ha : atN t id with
          | none =>
            simp only
            exact bf_mono (tdB F1 F2 F3 (putN t id no)) (by omega) (by omega)
          | some j =>
            simp only
            have b3 := bf_step F1 ⟨6, nameN (j : Int), [], []⟩ (show (6 : Int) ≠ 2 by decide)
            have hj := at_some ha
            have hj4 : j < 4096 := by have := I.num _ hj; simp only at this; omega
            have o3 := ok3_step F2 ⟨6, nameN (j : Int), [], []⟩
            have hw3 : vw (opT ⟨6, nameN (j : Int), [], []⟩ fa.1).1.1 nwN = none := by
              show vw (fa.1.1.step _).1 nwN = _
              cases ev : vw fa.1.1 (nameN (j : Int)) with
              | none =>
                have e0 := fl_step F2.fl ⟨6, nameN (j : Int), [], []⟩ (by simp [name_good hj4])
                simp only at e0
                rw [vw_none.1 ev] at e0
                simp only at e0
                rw [if_neg (by decide)] at e0
                rw [e0]
                exact F3
              | some bb =>
                obtain ⟨_, r2⟩ := st_remove F2 (name_good hj4) ev
                rw [r2, if_neg (name_nw hj4).symm, F3]
            exact bf_mono (tdB (st := (opT ⟨6, nameN (j : Int), [], []⟩ fa.1).1) b3 o3 hw3 (putN t id no)) (by omega) (by omega)
end Go.Proofs.YtibjcofbhldenaaGreatDoor
