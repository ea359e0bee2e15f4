/- A list of steps (a record and a list of records each) that came in: what the reading says of it. -/
import Derived.Test.YtijnjgnckipghaaGreatOpnRl
namespace Go.Proofs.YtijnjgnckipghaaGreat
open Go.ChangeShapes Go.WideShapes Go.ChangeAt Go.RowKit
abbrev StT := Rc × RL
/-- v is a slice whose elements are such steps -/
def HoldsSt (w : World) (v : Value) (os : List StT) : Prop :=
  ∃ ao cap, v = .slice ao os.length cap ∧ (ao = none → cap = 0) ∧ os.length ≤ cap ∧ (os ≠ [] → ∃ b off, ao = some ⟨b, off, none⟩ ∧ b < w.heap.size ∧ ∀ j (h : j < os.length), RcAt w b (off + j * 5) os[j].1 ∧ ∃ u, w.cell? ⟨b, off + j * 5 + 4, none⟩ = some u ∧ HoldsR w u os[j].2)
theorem holdsSt_mono {w w' : World} {v : Value} {os : List StT} (h : HoldsSt w v os) (hb : Below w.heap.size w w') : HoldsSt w' v os := by
  obtain ⟨ao, cap, rfl, h0, hcp, hc⟩ := h
  refine ⟨ao, cap, rfl, h0, hcp, fun hne => ?_⟩
  obtain ⟨b, off, rfl, hlt, hcell⟩ := hc hne
  refine ⟨b, off, rfl, Nat.lt_of_lt_of_le hlt hb.size, fun j hj => ?_⟩
  obtain ⟨⟨h1, h2, h3, h4⟩, u, h5, h6⟩ := hcell j hj
  have c : ∀ o, w'.cell? ⟨b, o, none⟩ = w.cell? ⟨b, o, none⟩ := fun o => hb.cell (p := ⟨b, o, none⟩) hlt
  exact ⟨⟨by rw [c]; exact h1, by rw [c]; exact h2, by rw [c]; exact h3, by rw [c]; exact h4⟩, u, by rw [c]; exact h5, holdsR_mono h6 hb⟩
def bulkZ : List StT → Nat
  | [] => 0
  | o :: r => o.1.2.2.2.length + 4 + bulkQ o.2 + bulkZ r
theorem bulkZ_len (os : List StT) : os.length * 4 ≤ bulkZ os := by
  induction os with
  | nil => exact Nat.zero_le _
  | cons r rs ih => simp only [List.length_cons, bulkZ]; omega
theorem bulkZ_mem (os : List StT) : ∀ o ∈ os, o.1.2.2.2.length + bulkQ o.2 ≤ bulkZ os := by
  induction os with
  | nil => intro r h; cases h
  | cons q rs ih =>
    intro r h
    simp only [bulkZ]
    rcases List.mem_cons.1 h with rfl | h
    · omega
    · have := ih r h; omega
theorem bulk_stps {H : Type} (f : Nat → StT) (g : Nat → DataW H) : ∀ (ks : List Nat), (∀ k ∈ ks, (f k).1.2.2.2.length + 4 + bulkQ (f k).2 ≤ Rows.uptoBulk (g k)) → bulkZ (ks.map f) ≤ Rows.uptoBulkAll (ks.map g) := by
  intro ks
  induction ks with
  | nil => intro _; exact Nat.zero_le _
  | cons k r ih =>
    intro h
    have h1 := h k (by simp)
    have h2 := ih (fun k hk => h k (by simp [hk]))
    show (f k).1.2.2.2.length + 4 + bulkQ (f k).2 + bulkZ (r.map f) ≤ Rows.uptoBulk (g k) + Rows.uptoBulkAll (r.map g)
    omega
set_option maxRecDepth 100000 in
theorem recs_trod {H : Type} {enc : TypeId × Value → H} {W : World} {n : Nat} {v : Value} {y : DataW H × List MemPlace} (hf : DataW.trod enc Tryz.prog W 0 (fun _ => true) true n 42 [v] = some y) : ∃ rs : RL, HoldsR W v rs ∧ bulkQ rs + 1 ≤ Rows.uptoBulk y.1 := by
  have hform : ∃ a l c, v = .slice a l c := by
    rcases Go.Deep.open_slice Tryz.underlying42 hf with ⟨hcs, _⟩ | ⟨a, len, cap, m, n, D, Pl, hcs, _⟩
    · simp only [List.cons.injEq, and_true] at hcs; exact ⟨_, _, _, hcs⟩
    · simp only [List.cons.injEq, and_true] at hcs; exact ⟨_, _, _, hcs⟩
  obtain ⟨a, l, c, rfl⟩ := hform
  obtain ⟨d, pl⟩ := y
  exact open_recs0 (d := d) (p := pl) Tryz.underlying42 Tryz.underlying53 (by kernel_rfl) rfl rfl rfl rfl rfl rfl rfl rfl ⟨a, l, c, rfl⟩ ⟨n, hf⟩
set_option maxRecDepth 100000 in
theorem open_stps0 {H : Type} {enc : TypeId × Value → H} {W : World} {v : Value} {d : DataW H} {p : List MemPlace} {t e : TypeId} {f0 f1 g0 g1 g2 g3 : Field} (ht : Tryz.prog.underlying t = some (.slice e)) (he : Tryz.prog.underlying e = some (.struct #[f0, f1])) (ce : Tryz.prog.cellsOf e = 5) (o0 : f0.offset = 0) (o1 : f1.offset = 4) (e0 : f0.type = 53) (e1 : f1.type = 42)
    (hr : Tryz.prog.underlying 53 = some (.struct #[g0, g1, g2, g3])) (p0 : g0.offset = 0) (p1 : g1.offset = 1) (p2 : g2.offset = 2) (p3 : g3.offset = 3) (q0 : g0.type = 3) (q1 : g1.type = 3) (q2 : g2.type = 3) (q3 : g3.type = 9)
    (hform : ∃ a l c, v = .slice a l c) (h : DataW.Trod enc Tryz.prog W 0 (fun _ => true) true t v d p) : ∃ os : List StT, HoldsSt W v os ∧ bulkZ os + 1 ≤ Rows.uptoBulk d := by
  have k0 : Tryz.prog.cellsOf 3 = 1 := by kernel_rfl
  have k1 : Tryz.prog.cellsOf 9 = 1 := by kernel_rfl
  have k4 : Tryz.prog.cellsOf 53 = 4 := by kernel_rfl
  have k5 : Tryz.prog.cellsOf 42 = 1 := by kernel_rfl
  obtain ⟨a0, len0, cap0, rfl⟩ := hform
  obtain ⟨fuel, hf⟩ := h
  rcases Go.Deep.open_slice ht hf with ⟨hcs, hx⟩ | ⟨a, len, cap, m, n, D, Pl, hcs, _, hl, hm, hmm, hx, hcell⟩
  · simp [Value.cells] at hcs
    obtain ⟨rfl, rfl, rfl⟩ := hcs
    simp only [Prod.mk.injEq] at hx
    obtain ⟨rfl, _⟩ := hx
    exact ⟨[], ⟨none, 0, rfl, fun _ => rfl, Nat.le_refl _, fun h => absurd rfl h⟩, by simp [bulkZ, Rows.uptoBulk]⟩
  · simp [Value.cells] at hcs
    obtain ⟨rfl, rfl, rfl⟩ := hcs
    simp only [Prod.mk.injEq] at hx
    obtain ⟨hd, _⟩ := hx
    have hmm' : m = cap0 := by simpa using hmm
    subst hmm'
    have E : ∀ i, ∃ q : StT, i < m → (W.cell? (a.add (i * 5)) = some (.int .i64 q.1.1) ∧ W.cell? (a.add (i * 5 + 1)) = some (.int .i64 q.1.2.1) ∧ W.cell? (a.add (i * 5 + 2)) = some (.int .i64 q.1.2.2.1) ∧ W.cell? (a.add (i * 5 + 3)) = some (S q.1.2.2.2) ∧ ∃ u, W.cell? (a.add (i * 5 + 4)) = some u ∧ HoldsR W u q.2) ∧ q.1.2.2.2.length + 4 + bulkQ q.2 ≤ Rows.uptoBulk (D i) := by
      intro i
      by_cases hi : i < m
      · obtain ⟨cs', h1, h2⟩ := hcell i hi
        rw [ce] at h1
        obtain ⟨_, hlen, hc⟩ := World.cells?_some h1
        obtain ⟨y0, y1, k, hxy, _, r0, r1⟩ := Go.ChangeShapes.trod_struct2 he h2
        match cs', hlen with
        | [v0, v1, v2, v3, v4], _ =>
          rw [o0, e0, k4] at r0
          rw [o1, e1, k5] at r1
          simp only [List.drop_zero, List.drop_succ_cons, List.take_succ_cons, List.take_zero] at r0 r1
          obtain ⟨w0, w1, w2, w3, k', hxw, _, s0, s1, s2, s3⟩ := Go.Joins.trod_struct4 hr r0
          rw [p0, q0, k0] at s0
          rw [p1, q1, k0] at s1
          rw [p2, q2, k0] at s2
          rw [p3, q3, k1] at s3
          simp only [List.drop_zero, List.drop_succ_cons, List.take_succ_cons, List.take_zero] at s0 s1 s2 s3
          obtain ⟨z0, t0, x0, _⟩ := DataW.trod_int Tryz.underlying3 s0
          obtain ⟨z1, t1, x1, _⟩ := DataW.trod_int Tryz.underlying3 s1
          obtain ⟨z2, t2, x2, _⟩ := DataW.trod_int Tryz.underlying3 s2
          obtain ⟨s3', t3, x3, _⟩ := DataW.trod_string Tryz.underlying9 s3
          obtain ⟨rs, hrs, hk⟩ := recs_trod r1
          simp only [List.cons.injEq, and_true] at t0 t1 t2 t3
          have c0 := hc 0 (by omega)
          have c1 := hc 1 (by omega)
          have c2 := hc 2 (by omega)
          have c3 := hc 3 (by omega)
          have c4 := hc 4 (by omega)
          rw [Go.Deep.add_add] at c0 c1 c2 c3 c4
          simp at c0 c1 c2 c3 c4
          simp only [Prod.mk.injEq] at hxy
          refine ⟨((z0, z1, z2, s3'.data.toList), rs), fun _ => ⟨⟨by rw [c0, t0], by rw [c1, t1], by rw [c2, t2], by rw [c3, t3]; unfold S; simp, v4, c4, hrs⟩, ?_⟩⟩
          rw [hxy.1, hxw]
          dsimp only
          rw [x0, x1, x2, x3]
          simp only [Rows.uptoBulk, Rows.uptoBulkAll, Array.length_toList] at hk ⊢
          omega
      · exact ⟨((0, 0, 0, []), []), fun h => absurd h hi⟩
    obtain ⟨q, hq⟩ := Classical.axiomOfChoice E
    have hlen : ((List.range len0).map q).length = len0 := by simp
    refine ⟨(List.range len0).map q, ⟨some a, m, by rw [hlen], (fun e => by cases e), by omega, fun hne => ?_⟩, ?_⟩
    · have hpos : 0 < len0 := by
        rcases Nat.eq_zero_or_pos len0 with h | h
        · subst h; simp at hne
        · exact h
      obtain ⟨b, off, rfl, hblt⟩ := addr_at (by have := (hq 0 (by omega)).1.1; rwa [Nat.zero_mul] at this)
      refine ⟨b, off, rfl, hblt, fun j hj => ?_⟩
      rw [hlen] at hj
      obtain ⟨⟨c0, c1, c2, c3, u, c4, hu⟩, _⟩ := hq j (by omega)
      rw [Go.WideShapes.add_plain] at c0 c1 c2 c3 c4
      simp only [List.getElem_map, List.getElem_range]
      exact ⟨⟨c0, by rw [Nat.add_assoc]; exact c1, by rw [Nat.add_assoc]; exact c2, by rw [Nat.add_assoc]; exact c3⟩, u, by rw [Nat.add_assoc]; exact c4, hu⟩
    · rw [hd]
      have := bulk_stps q D (List.range len0) (fun k hk => (hq k (by have := List.mem_range.1 hk; omega)).2)
      simp only [Rows.uptoBulk]
      omega
set_option maxRecDepth 100000 in
theorem open_stps {H : Type} {enc : TypeId × Value → H} {W : World} {base : Nat} {v : Value} {d : DataW H} {p : List MemPlace} (hok : Value.okWide Tryz.prog W .any base 26 v) (h : DataW.Trod enc Tryz.prog W 0 (fun _ => true) true 26 v d p) : ∃ os : List StT, HoldsSt W v os ∧ bulkZ os + 1 ≤ Rows.uptoBulk d :=
  open_stps0 Tryz.underlying26 Tryz.underlying55 (by kernel_rfl) rfl rfl rfl rfl Tryz.underlying53 rfl rfl rfl rfl rfl rfl rfl rfl (okWide_slice Tryz.underlying26 hok) h
end Go.Proofs.YtijnjgnckipghaaGreat
