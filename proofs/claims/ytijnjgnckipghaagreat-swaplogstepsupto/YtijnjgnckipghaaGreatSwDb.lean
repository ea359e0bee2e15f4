/- The contract of the document's Add. -/
import Derived.Test.YtijnjgnckipghaaGreatSwDa
import Derived.Test.YtijnjgnckipghaaGreatRcH
import Derived.Deep.DeepCutAuto
namespace Go.Proofs.YtijnjgnckipghaaGreat
open Go.RowKit
theorem encOf_lenA (seq op no : Int) (id : List UInt8) : (encOf seq op no id).1.length ≤ 4111 := by
  unfold encOf
  split
  · split
    · show (recL _ _ _ id).length ≤ _
      rw [recL_len]; omega
    · simp
  · simp
theorem sl_of {W : World} {v : Value} {bs : List UInt8} (h : HoldsB W v bs) : ∃ a n c, v = .slice a n c := by
  obtain ⟨ao, cap, rfl, _⟩ := h
  exact ⟨_, _, _, rfl⟩
theorem cells_ten {b : Nat} {W : World} {v0 v1 v2 v3 v4 v5 v6 v7 v8 v9 : Value} (h : Blk b W [v0, v1, v2, v3, v4, v5, v6, v7, v8, v9]) : (W.cell? ⟨b, 0, none⟩ = some v0 ∧ W.cell? ⟨b, 1, none⟩ = some v1 ∧ W.cell? ⟨b, 2, none⟩ = some v2 ∧ W.cell? ⟨b, 3, none⟩ = some v3 ∧ W.cell? ⟨b, 4, none⟩ = some v4 ∧ W.cell? ⟨b, 5, none⟩ = some v5 ∧ W.cell? ⟨b, 6, none⟩ = some v6 ∧ W.cell? ⟨b, 7, none⟩ = some v7 ∧ W.cell? ⟨b, 8, none⟩ = some v8 ∧ W.cell? ⟨b, 9, none⟩ = some v9) ∧ W.frozen? ⟨b, 0, none⟩ = false ∧ W.frozen? ⟨b, 1, none⟩ = false ∧ W.frozen? ⟨b, 2, none⟩ = false ∧ W.frozen? ⟨b, 3, none⟩ = false ∧ W.frozen? ⟨b, 4, none⟩ = false ∧ W.frozen? ⟨b, 5, none⟩ = false ∧ W.frozen? ⟨b, 6, none⟩ = false ∧ W.frozen? ⟨b, 7, none⟩ = false ∧ W.frozen? ⟨b, 8, none⟩ = false ∧ W.frozen? ⟨b, 9, none⟩ = false := by
  have k := fun j (hj : j < 10) => h.1 j (by simpa using hj)
  exact ⟨⟨(k 0 (by decide)).1, (k 1 (by decide)).1, (k 2 (by decide)).1, (k 3 (by decide)).1, (k 4 (by decide)).1, (k 5 (by decide)).1, (k 6 (by decide)).1, (k 7 (by decide)).1, (k 8 (by decide)).1, (k 9 (by decide)).1⟩, (k 0 (by decide)).2, (k 1 (by decide)).2, (k 2 (by decide)).2, (k 3 (by decide)).2, (k 4 (by decide)).2, (k 5 (by decide)).2, (k 6 (by decide)).2, (k 7 (by decide)).2, (k 8 (by decide)).2, (k 9 (by decide)).2⟩
theorem sti_putN {S : Nat → Prop} {W0 W : World} {zs vs : List Value} {v : Value} {s : Dk} {m : Nat} (h : StI S W0 zs vs v s m W) (us : List Value) (hu : us.length ≤ vs.length) : StI S W0 zs (us ++ vs.drop us.length) v s m (putFrom W0.heap.size 0 W us) := by
  refine ⟨?_, blk_putX (b := W0.heap.size + 1) (c := W0.heap.size) (by omega) us 0 _ h.b1, below_put (Nat.le_refl _) us 0 W h.bel, refS_sub h.ref (off_mask (off_put (.inr (.inl rfl)) us 0 W) (fun _ e => .inl e)), h.wf, h.bd⟩
  have := cells_putFrom us 0 W vs h.b0 (by omega)
  simpa using this
theorem sti_set {S : Nat → Prop} {W0 W : World} {zs vs : List Value} {v : Value} {s : Dk} {m : Nat} (h : StI S W0 zs vs v s m W) (j : Nat) (hj : j < vs.length) (x : Value) : StI S W0 zs (vs.set j x) v s m (W.setCell ⟨W0.heap.size, j, none⟩ x) :=
  ⟨cells_set h.b0 hj x, cells_other h.b1 (by omega) x, h.bel.setCell (Nat.le_refl _) x, refS_sub h.ref (off_mask (S := fun k => S k ∨ k = W0.heap.size ∨ k = W0.heap.size + 1) (S' := fun k => S k ∨ k = W0.heap.size ∨ k = W0.heap.size + 1) (off_poke ⟨W0.heap.size, j, none⟩ (.inr (.inl rfl)) x) (fun _ e => .inl e)), h.wf, h.bd⟩
theorem sti_begin {S : Nat → Prop} {W0 : World} {v : Value} {s : Dk} {m : Nat} (xs zs : Array Value) (hr : RefS (mask S W0) v s) (hw : Wf s) (hd : Bd m s) (t t2 : TypeId) : StI S W0 zs.toList xs.toList v s m ((W0.alloc (.cells xs t)).alloc (.cells zs t2)) := by
  have a1 := cells_lit W0 xs t
  have z1 : (W0.alloc (.cells xs t)).heap.size = W0.heap.size + 1 := by simp
  have a2 := cells_lit (W0.alloc (.cells xs t)) zs t2
  have e1 := below_alloc' W0 (.cells xs t)
  have e2 := below_alloc' (W0.alloc (.cells xs t)) (.cells zs t2)
  rw [z1] at a2
  have hb := e1.trans (e2.mono e1.size)
  exact ⟨cells_below a1 e2, a2, hb, refS_sub hr (off_mask (S := S) (S' := fun k => S k ∨ k = W0.heap.size ∨ k = W0.heap.size + 1) (off_of hb) (fun k e => by rcases e with e | e | e; exact .inl e; exact .inr (by omega); exact .inr (by omega))), hw, hd⟩
/-- the result is laid -/
theorem sti_end {S : Nat → Prop} {W0 W : World} {zs vs us : List Value} {v : Value} {s : Dk} {m : Nat} (h : StI S W0 zs vs v s m W) (hu : us.length = zs.length) : Blk (W0.heap.size + 1) (putFrom (W0.heap.size + 1) 0 W us) us ∧ Below W0.heap.size W0 (putFrom (W0.heap.size + 1) 0 W us) ∧ RefS (mask S (putFrom (W0.heap.size + 1) 0 W us)) v s := by
  have FB := cells_putFrom us 0 _ _ h.b1 (by omega)
  rw [List.drop_eq_nil_of_le (by omega)] at FB
  refine ⟨by simpa using FB, below_put (m := W0.heap.size) (b := W0.heap.size + 1) (Nat.le_succ _) us 0 _ h.bel, ?_⟩
  exact refS_sub h.ref (Sub.trans (off_mask (S := fun k => S k ∨ k = W0.heap.size ∨ k = W0.heap.size + 1) (S' := fun k => S k ∨ k = W0.heap.size ∨ k = W0.heap.size + 1) (off_put (.inr (.inr rfl)) us 0 _) (fun _ e => .inl e)) (mask_mono (S := S) (fun _ e => .inl e)))
def cellsO : List (OpT × Value) → List Value
  | [] => []
  | p :: r => .int .i64 p.1.1 :: S p.1.2.1 :: S p.1.2.2.1 :: p.2 :: cellsO r
theorem cellsO_at : ∀ (l : List (OpT × Value)) (j : Nat) (h : j < l.length), (cellsO l)[j * 4]? = some (.int .i64 l[j].1.1) ∧ (cellsO l)[j * 4 + 1]? = some (S l[j].1.2.1) ∧ (cellsO l)[j * 4 + 2]? = some (S l[j].1.2.2.1) ∧ (cellsO l)[j * 4 + 3]? = some l[j].2 := by
  intro l
  induction l with
  | nil => intro j h; cases h
  | cons p r ih =>
    intro j h
    cases j with
    | zero => exact ⟨rfl, rfl, rfl, rfl⟩
    | succ j =>
      have := ih j (by simpa using h)
      have e : (j + 1) * 4 = j * 4 + 4 := by omega
      rw [e]
      exact this
theorem ho_lit (W : World) (ws : List (OpT × Value)) (t : TypeId) (h : ∀ p ∈ ws, HoldsB W p.2 p.1.2.2.2) : HoldsO (W.alloc (.cells (cellsO ws).toArray t)) (.slice (some ⟨W.heap.size, 0, none⟩) ws.length ws.length) (ws.map (fun p => p.1)) := by
  have hb := below_alloc' W (.cells (cellsO ws).toArray t)
  refine ⟨_, ws.length, by rw [List.length_map], fun e => (by cases e), by rw [List.length_map]; exact Nat.le_refl _, fun _ => ⟨W.heap.size, 0, rfl, by simp, fun j hj => ?_⟩⟩
  have hj' : j < ws.length := by simpa using hj
  obtain ⟨c0, c1, c2, c3⟩ := cellsO_at ws j hj'
  have cc : ∀ o, (W.alloc (.cells (cellsO ws).toArray t)).cell? ⟨W.heap.size, o, none⟩ = (cellsO ws)[o]? := fun o => by simp
  refine ⟨by rw [cc, Nat.zero_add, c0]; simp, by rw [cc, Nat.zero_add, c1]; simp, by rw [cc, Nat.zero_add, c2]; simp, (ws[j]'hj').2, by rw [cc, Nat.zero_add, c3], ?_⟩
  rw [List.getElem_map]
  exact holdsB_mono (h _ (List.getElem_mem hj')) hb
theorem holdsB_none (W : World) : HoldsB W (.slice none 0 0) [] := ⟨none, 0, rfl, fun _ => rfl, Nat.le_refl _, fun h => absurd rfl h⟩
theorem stps_keeps : ∀ (os : List OpT) {m : Nat} {s : Dk}, Wf s → Bd m s → Wf (stpsT (opsD os) s).1 ∧ Bd (m + bulkO os) (stpsT (opsD os) s).1 ∧ (stpsT (opsD os) s).1.fails = s.fails := by
  intro os
  induction os with
  | nil => intro m s hw hb; exact ⟨hw, hb, rfl⟩
  | cons o r ih =>
    intro m s hw hb
    have e : opsD (o :: r) = ⟨o.1, o.2.1, o.2.2.1, o.2.2.2⟩ :: opsD r := rfl
    have b1 := bd_step hb ⟨o.1, o.2.1, o.2.2.1, o.2.2.2⟩
    have w1 := wf_step hw ⟨o.1, o.2.1, o.2.2.1, o.2.2.2⟩
    have f1 := step_fails s ⟨o.1, o.2.1, o.2.2.1, o.2.2.2⟩
    rw [e]
    by_cases h : (s.step ⟨o.1, o.2.1, o.2.2.1, o.2.2.2⟩).2 = 0
    · rw [stps_ok h]
      obtain ⟨h1, h2, h3⟩ := ih w1 b1
      exact ⟨h1, bd_mono h2 (by simp only [bulkO]; omega), h3.trans f1⟩
    · rw [stps_bad h]
      exact ⟨w1, bd_mono b1 (by simp only [bulkO]; omega), f1⟩
set_option maxRecDepth 20000 in
set_option maxHeartbeats 16000000 in
theorem addRC {S : Nat → Prop} {W0 : World} (hS : ∀ k, S k → k < W0.heap.size) {a0 a1 a2 a3 a4 a6 : Option Addr} {n0 c0 n1 c1 n2 c2 n3 c3 n4 c4 n6 c6 : Nat} {t : Dk} (h : RefS (mask S W0) (.agg #[.slice a0 n0 c0, .slice a1 n1 c1, .slice a2 n2 c2, .slice a3 n3 c3, .slice a4 n4 c4, .int .i64 t.room, .slice a6 n6 c6, .int .i64 t.power, .int .i64 (t.n : Int)]) t) (hw : Wf t) (m : Nat) (hB : Bd m t) (hfl : t.fails.length ≤ 1000000000) (c op no : Int) (id : List UInt8) (hid : id.length ≤ 1000000000000000) (hm : m ≤ 60000000) :
    Calls Tryz.prog 15 #[.agg #[.slice a0 n0 c0, .slice a1 n1 c1, .slice a2 n2 c2, .slice a3 n3 c3, .slice a4 n4 c4, .int .i64 t.room, .slice a6 n6 c6, .int .i64 t.power, .int .i64 (t.n : Int), .int .i64 c], .int .i64 op, .int .i64 no, .string ⟨id.toArray⟩] W0 fun e w' => ∃ (y0 y1 y2 y3 y4 y6 : Sl) (s' : Dk), s' = (addT op no id (t, c)).1.1 ∧ e = .returned (.tuple #[.agg #[.slice y0.a y0.n y0.c, .slice y1.a y1.n y1.c, .slice y2.a y2.n y2.c, .slice y3.a y3.n y3.c, .slice y4.a y4.n y4.c, .int .i64 s'.room, .slice y6.a y6.n y6.c, .int .i64 s'.power, .int .i64 (s'.n : Int), .int .i64 (addT op no id (t, c)).1.2], .int .i64 (addT op no id (t, c)).2]) ∧ RefS (mask S w') (.agg #[.slice y0.a y0.n y0.c, .slice y1.a y1.n y1.c, .slice y2.a y2.n y2.c, .slice y3.a y3.n y3.c, .slice y4.a y4.n y4.c, .int .i64 s'.room, .slice y6.a y6.n y6.c, .int .i64 s'.power, .int .i64 (s'.n : Int)]) s' ∧ Below W0.heap.size W0 w' := by
  have I0 : Hid (StI S W0 [.slice none 0 0, .slice none 0 0, .slice none 0 0, .slice none 0 0, .slice none 0 0, .int .i64 0, .slice none 0 0, .int .i64 0, .int .i64 0, .int .i64 0] [.slice a0 n0 c0, .slice a1 n1 c1, .slice a2 n2 c2, .slice a3 n3 c3, .slice a4 n4 c4, .int .i64 t.room, .slice a6 n6 c6, .int .i64 t.power, .int .i64 (t.n : Int), .int .i64 c] (.agg #[.slice a0 n0 c0, .slice a1 n1 c1, .slice a2 n2 c2, .slice a3 n3 c3, .slice a4 n4 c4, .int .i64 t.room, .slice a6 n6 c6, .int .i64 t.power, .int .i64 (t.n : Int)]) t m ((W0.alloc (.cells #[.slice a0 n0 c0, .slice a1 n1 c1, .slice a2 n2 c2, .slice a3 n3 c3, .slice a4 n4 c4, .int .i64 t.room, .slice a6 n6 c6, .int .i64 t.power, .int .i64 (t.n : Int), .int .i64 c] 46)).alloc (.cells #[.slice none 0 0, .slice none 0 0, .slice none 0 0, .slice none 0 0, .slice none 0 0, .int .i64 0, .slice none 0 0, .int .i64 0, .int .i64 0, .int .i64 0] 46))) := sti_begin #[.slice a0 n0 c0, .slice a1 n1 c1, .slice a2 n2 c2, .slice a3 n3 c3, .slice a4 n4 c4, .int .i64 t.room, .slice a6 n6 c6, .int .i64 t.power, .int .i64 (t.n : Int), .int .i64 c] #[.slice none 0 0, .slice none 0 0, .slice none 0 0, .slice none 0 0, .slice none 0 0, .int .i64 0, .slice none 0 0, .int .i64 0, .int .i64 0, .int .i64 0] h hw hB _ _
  have HS := hide' hS
  have FL := hide' hfl
  have b2 : Below W0.heap.size W0 ((W0.alloc (.cells #[.slice a0 n0 c0, .slice a1 n1 c1, .slice a2 n2 c2, .slice a3 n3 c3, .slice a4 n4 c4, .int .i64 t.room, .slice a6 n6 c6, .int .i64 t.power, .int .i64 (t.n : Int), .int .i64 c] 46)).alloc (.cells #[.slice none 0 0, .slice none 0 0, .slice none 0 0, .slice none 0 0, .slice none 0 0, .int .i64 0, .slice none 0 0, .int .i64 0, .int .i64 0, .int .i64 0] 46)) := I0.out.bel
  have CE := hide' (encRC c op no id ((W0.alloc (.cells #[.slice a0 n0 c0, .slice a1 n1 c1, .slice a2 n2 c2, .slice a3 n3 c3, .slice a4 n4 c4, .int .i64 t.room, .slice a6 n6 c6, .int .i64 t.power, .int .i64 (t.n : Int), .int .i64 c] 46)).alloc (.cells #[.slice none 0 0, .slice none 0 0, .slice none 0 0, .slice none 0 0, .slice none 0 0, .int .i64 0, .slice none 0 0, .int .i64 0, .int .i64 0, .int .i64 0] 46)) hid)
  unfold recV at CE
  have LE : Hid ((encOf c op no id).1.length ≤ 4111) := encOf_lenA c op no id
  obtain ⟨⟨k0, k1, k2, k3, k4, k5, k6, k7, k8, k9⟩, -⟩ := cells_ten I0.out.b0
  clear h hw hB hfl hS b2
  go_enter Tryz.func15, Tryz.ntmps15
  go_wp2_with fail
  refine CE.out.mono ?_
  rintro e w3 ⟨u, rfl, ho⟩
  have I3 := hide' (sti_below I0.out ho.2)
  have HU := hide' (holdsB_own ho)
  obtain ⟨ua, ul, uc, hu⟩ := sl_of HU.out
  subst hu
  clear I0 CE ho k0 k1 k2 k3 k4 k5 k6 k7 k8 k9
  obtain ⟨⟨k0, k1, k2, k3, k4, k5, k6, k7, k8, k9⟩, kf⟩ := cells_ten I3.out.b0
  obtain ⟨⟨g0, g1, g2, g3, g4, g5, g6, g7, g8, g9⟩, ⟨f0, f1, f2, f3, f4, f5, f6, f7, f8, f9⟩⟩ := cells_ten I3.out.b1
  have J3 : W0.heap.size ≠ W0.heap.size + 1 := by omega
  have J4 : W0.heap.size + 1 ≠ W0.heap.size := by omega
  by_cases hz : ¬ (encOf c op no id).2 = 0
  · have dz : ((encOf c op no id).2 != 0) = true := by simpa using hz
    have AD : Hid (addT op no id (t, c) = ((t, c), (encOf c op no id).2)) := by unfold Hid addT; rw [if_neg hz]
    have EN := sti_end I3.out (us := [.slice a0 n0 c0, .slice a1 n1 c1, .slice a2 n2 c2, .slice a3 n3 c3, .slice a4 n4 c4, .int .i64 t.room, .slice a6 n6 c6, .int .i64 t.power, .int .i64 (t.n : Int), .int .i64 c]) rfl
    simp only [putFrom] at EN
    have ENH := hide' EN
    clear EN hz HU I3
    generalize (encOf c op no id).2 = er at dz AD ⊢
    go_wp2_with fail
    obtain ⟨⟨z0, z1, z2, z3, z4, z5, z6, z7, z8, z9⟩, -⟩ := cells_ten ENH.out.1
    exact bodyPost_ret (v := .tuple #[.agg #[.slice a0 n0 c0, .slice a1 n1 c1, .slice a2 n2 c2, .slice a3 n3 c3, .slice a4 n4 c4, .int .i64 t.room, .slice a6 n6 c6, .int .i64 t.power, .int .i64 (t.n : Int), .int .i64 c], .int .i64 er]) (by simp [results, Tryz.results15, go_sem, z0, z1, z2, z3, z4, z5, z6, z7, z8, z9]) rfl (by rw [AD.out]; exact ⟨⟨a0, n0, c0⟩, ⟨a1, n1, c1⟩, ⟨a2, n2, c2⟩, ⟨a3, n3, c3⟩, ⟨a4, n4, c4⟩, ⟨a6, n6, c6⟩, t, rfl, rfl, ENH.out.2.2, ENH.out.2.1⟩)
  have hz' : (encOf c op no id).2 = 0 := by simpa using hz
  have CR : Hid (0 ≤ c ∧ c ≤ 4294967295) := by
    have h1 : encOf c op no id = ((encOf c op no id).1, 0) := by rw [← hz']
    exact (enc_inv h1).2.1
  have AD : Hid (addT op no id (t, c) = refAddR (encOf c op no id).1 (t, c)) := by unfold Hid addT; rw [if_pos hz', add_ref]
  have AD2 : Hid (addT op no id (t, c) = (((stpsT [⟨2, lgN, [], (encOf c op no id).1⟩, ⟨3, lgN, [], []⟩] t).1, if 1 ≤ (stpsT [⟨2, lgN, [], (encOf c op no id).1⟩, ⟨3, lgN, [], []⟩] t).2.1 then c + 1 else c), (stpsT [⟨2, lgN, [], (encOf c op no id).1⟩, ⟨3, lgN, [], []⟩] t).2.2)) := by unfold Hid; rw [AD.out]; rfl
  rw [hz']
  generalize (encOf c op no id).1 = bs at HU LE AD2 ⊢
  clear AD hz hz'
  have I4 := hide' (sti_below I3.out (below_alloc' w3 (.cells #[.int .i64 2, .string ⟨#[108, 111, 103]⟩, .string ⟨#[]⟩, .slice ua ul uc, .int .i64 3, .string ⟨#[108, 111, 103]⟩, .string ⟨#[]⟩, .slice none 0 0] 83)))
  have HO := ho_lit w3 [((2, lgN, [], bs), .slice ua ul uc), ((3, lgN, [], []), .slice none 0 0)] 83 (fun p hp => by
    simp only [List.mem_cons, List.not_mem_nil, or_false] at hp
    rcases hp with rfl | rfl
    · exact HU.out
    · exact holdsB_none _)
  have hbk : m + bulkO [(2, lgN, [], bs), (3, lgN, [], [])] ≤ 80000000 := by have := LE.out; simp only [bulkO, lgN, List.length_cons, List.length_nil]; omega
  have KEEP := hide' (stps_keeps [(2, lgN, [], bs), (3, lgN, [], [])] I3.out.wf I3.out.bd)
  have CS := hide' (stepsRC (S := fun k => S k ∨ k = W0.heap.size ∨ k = W0.heap.size + 1) (sti_lt I4.out HS.out) I4.out.ref I4.out.wf m I4.out.bd FL.out _ _ HO (fun o h => by
    simp only [List.map_cons, List.map_nil, List.mem_cons, List.not_mem_nil, or_false] at h
    rcases h with rfl | rfl
    · exact ⟨(by decide : (1 : Int) ≤ 2), (by decide : (2 : Int) ≤ 6)⟩
    · exact ⟨(by decide : (1 : Int) ≤ 3), (by decide : (3 : Int) ≤ 6)⟩) hbk)
  clear HO hbk I3 HU
  go_wp2_with fail
  refine CS.out.mono ?_
  rintro e w5 ⟨v', rfl, hr, hb⟩
  have hop : opsD [(2, lgN, [], bs), (3, lgN, [], [])] = [⟨2, lgN, [], bs⟩, ⟨3, lgN, [], []⟩] := rfl
  have EQ : Hid (stpsT (opsD [(2, lgN, [], bs), (3, lgN, [], [])]) t = stpsT [⟨2, lgN, [], bs⟩, ⟨3, lgN, [], []⟩] t) := by unfold Hid; rw [hop]
  simp only [List.map_cons, List.map_nil] at hr ⊢
  rw [EQ.out] at hr KEEP ⊢
  generalize stpsT [⟨2, lgN, [], bs⟩, ⟨3, lgN, [], []⟩] t = Q at hr KEEP AD2 ⊢
  obtain ⟨s', nn, er⟩ := Q
  dsimp only at hr KEEP AD2 ⊢
  obtain ⟨⟨ra0, rn0, rc0⟩, ⟨ra1, rn1, rc1⟩, ⟨ra2, rn2, rc2⟩, ⟨ra3, rn3, rc3⟩, ⟨ra4, rn4, rc4⟩, ⟨ra6, rn6, rc6⟩, ev, -⟩ := _root_.id hr
  unfold stV at ev
  dsimp only at ev
  subst ev
  have I6 := hide' (sti_below (sti_ref I4.out hb hr KEEP.out.1 KEEP.out.2.1) (below_alloc' w5 (.cells #[.slice ra0 rn0 rc0, .slice ra1 rn1 rc1, .slice ra2 rn2 rc2, .slice ra3 rn3 rc3, .slice ra4 rn4 rc4, .int .i64 s'.room, .slice ra6 rn6 rc6, .int .i64 s'.power, .int .i64 (s'.n : Int)] 38)))
  have P6 := sti_putN I6.out [.slice ra0 rn0 rc0, .slice ra1 rn1 rc1, .slice ra2 rn2 rc2, .slice ra3 rn3 rc3, .slice ra4 rn4 rc4, .int .i64 s'.room, .slice ra6 rn6 rc6, .int .i64 s'.power, .int .i64 (s'.n : Int)] (by simp)
  simp only [putFrom, List.cons_append, List.nil_append, List.length_cons, List.length_nil, List.drop_succ_cons, List.drop_zero] at P6
  have hc0 := CR.out.1
  have hc1 := CR.out.2
  have P6H := hide' P6
  obtain ⟨⟨p0, p1, p2, p3, p4, p5, p6, p7, p8, p9⟩, ⟨r0, r1, r2, r3, r4, r5, r6, r7, r8, r9⟩⟩ := cells_ten I6.out.b0
  clear hr hb CS KEEP I4 EQ hop FL LE P6 I6 k0 k1 k2 k3 k4 k5 k6 k7 k8 k9 g0 g1 g2 g3 g4 g5 g6 g7 g8 g9 f0 f1 f2 f3 f4 f5 f6 f7 f8 f9 kf
  go_upto_region 6 with fail
  generalize ((((((((((w5.alloc (.cells #[.slice ra0 rn0 rc0, .slice ra1 rn1 rc1, .slice ra2 rn2 rc2, .slice ra3 rn3 rc3, .slice ra4 rn4 rc4, .int .i64 s'.room, .slice ra6 rn6 rc6, .int .i64 s'.power, .int .i64 (s'.n : Int)] 38)).setCell ⟨W0.heap.size, 0, none⟩ (.slice ra0 rn0 rc0)).setCell ⟨W0.heap.size, 1, none⟩ (.slice ra1 rn1 rc1)).setCell ⟨W0.heap.size, 2, none⟩ (.slice ra2 rn2 rc2)).setCell ⟨W0.heap.size, 3, none⟩ (.slice ra3 rn3 rc3)).setCell ⟨W0.heap.size, 4, none⟩ (.slice ra4 rn4 rc4)).setCell ⟨W0.heap.size, 5, none⟩ (.int .i64 s'.room)).setCell ⟨W0.heap.size, 6, none⟩ (.slice ra6 rn6 rc6)).setCell ⟨W0.heap.size, 7, none⟩ (.int .i64 s'.power)).setCell ⟨W0.heap.size, 8, none⟩ (.int .i64 (s'.n : Int))) = wA at P6H ⊢
  clear p0 p1 p2 p3 p4 p5 p6 p7 p8 p9 r0 r1 r2 r3 r4 r5 r6 r7 r8 r9
  by_cases hn1 : 1 ≤ nn
  · have dn : decide ((1 : Int) ≤ (nn : Int)) = true := by simp; omega
    have P7 := sti_set P6H.out 9 (by simp) (.int .i64 (c + 1))
    simp only [List.set_cons_succ, List.set_cons_zero] at P7
    have P7H := hide' P7
    obtain ⟨⟨-, -, -, -, -, -, -, -, -, q9⟩, ⟨-, -, -, -, -, -, -, -, -, t9⟩⟩ := cells_ten P6H.out.b0
    rw [if_pos hn1] at AD2
    clear P7 P6H
    go_upto_region 8 with fail
    generalize (wA.setCell ⟨W0.heap.size, 9, none⟩ (.int .i64 (c + 1))) = wB at P7H ⊢
    clear q9 t9
    obtain ⟨⟨k0, k1, k2, k3, k4, k5, k6, k7, k8, k9⟩, -⟩ := cells_ten P7H.out.b0
    obtain ⟨⟨g0, g1, g2, g3, g4, g5, g6, g7, g8, g9⟩, ⟨f0, f1, f2, f3, f4, f5, f6, f7, f8, f9⟩⟩ := cells_ten P7H.out.b1
    have EN := sti_end P7H.out (us := [.slice ra0 rn0 rc0, .slice ra1 rn1 rc1, .slice ra2 rn2 rc2, .slice ra3 rn3 rc3, .slice ra4 rn4 rc4, .int .i64 s'.room, .slice ra6 rn6 rc6, .int .i64 s'.power, .int .i64 (s'.n : Int), .int .i64 (c + 1)]) rfl
    simp only [putFrom] at EN
    have ENH := hide' EN
    clear EN P7H
    go_wp2_with fail
    obtain ⟨⟨z0, z1, z2, z3, z4, z5, z6, z7, z8, z9⟩, -⟩ := cells_ten ENH.out.1
    exact bodyPost_ret (v := .tuple #[.agg #[.slice ra0 rn0 rc0, .slice ra1 rn1 rc1, .slice ra2 rn2 rc2, .slice ra3 rn3 rc3, .slice ra4 rn4 rc4, .int .i64 s'.room, .slice ra6 rn6 rc6, .int .i64 s'.power, .int .i64 (s'.n : Int), .int .i64 (c + 1)], .int .i64 er]) (by simp [results, Tryz.results15, go_sem, z0, z1, z2, z3, z4, z5, z6, z7, z8, z9]) rfl (by rw [AD2.out]; exact ⟨⟨ra0, rn0, rc0⟩, ⟨ra1, rn1, rc1⟩, ⟨ra2, rn2, rc2⟩, ⟨ra3, rn3, rc3⟩, ⟨ra4, rn4, rc4⟩, ⟨ra6, rn6, rc6⟩, s', rfl, rfl, ENH.out.2.2, ENH.out.2.1⟩)
  · have dn : decide ((1 : Int) ≤ (nn : Int)) = false := by simp; omega
    rw [if_neg hn1] at AD2
    obtain ⟨⟨k0, k1, k2, k3, k4, k5, k6, k7, k8, k9⟩, -⟩ := cells_ten P6H.out.b0
    obtain ⟨⟨g0, g1, g2, g3, g4, g5, g6, g7, g8, g9⟩, ⟨f0, f1, f2, f3, f4, f5, f6, f7, f8, f9⟩⟩ := cells_ten P6H.out.b1
    have EN := sti_end P6H.out (us := [.slice ra0 rn0 rc0, .slice ra1 rn1 rc1, .slice ra2 rn2 rc2, .slice ra3 rn3 rc3, .slice ra4 rn4 rc4, .int .i64 s'.room, .slice ra6 rn6 rc6, .int .i64 s'.power, .int .i64 (s'.n : Int), .int .i64 c]) rfl
    simp only [putFrom] at EN
    have ENH := hide' EN
    clear EN P6H
    go_wp2_with fail
    obtain ⟨⟨z0, z1, z2, z3, z4, z5, z6, z7, z8, z9⟩, -⟩ := cells_ten ENH.out.1
    exact bodyPost_ret (v := .tuple #[.agg #[.slice ra0 rn0 rc0, .slice ra1 rn1 rc1, .slice ra2 rn2 rc2, .slice ra3 rn3 rc3, .slice ra4 rn4 rc4, .int .i64 s'.room, .slice ra6 rn6 rc6, .int .i64 s'.power, .int .i64 (s'.n : Int), .int .i64 c], .int .i64 er]) (by simp [results, Tryz.results15, go_sem, z0, z1, z2, z3, z4, z5, z6, z7, z8, z9]) rfl (by rw [AD2.out]; exact ⟨⟨ra0, rn0, rc0⟩, ⟨ra1, rn1, rc1⟩, ⟨ra2, rn2, rc2⟩, ⟨ra3, rn3, rc3⟩, ⟨ra4, rn4, rc4⟩, ⟨ra6, rn6, rc6⟩, s', rfl, rfl, ENH.out.2.2, ENH.out.2.1⟩)
end Go.Proofs.YtijnjgnckipghaaGreat
