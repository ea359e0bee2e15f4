/- The contract of tellings: the map of what a request's fields tell. -/
import Derived.Test.YtmibgcbolnpffaaDoorVrM
import Derived.Deep.AppendLies
namespace Go.Proofs.YtmibgcbolnpffaaDoor
open Go.RowKit Go.Maps Go.WideMaps
theorem isF_next (fs : FL) (k : Nat) (hk : k < fs.length) : isF (fs.take (k + 1)) = updV (isF (fs.take k)) (lows (fs[k]).1) true := by
  funext y
  unfold isF
  rw [valsF_next fs k hk y]
  by_cases h : y = lows (fs[k]).1
  · rw [if_pos h, h, upd_same]; simp
  · rw [if_neg h, upd_other _ _ _ h]
theorem elsF_next (fs : FL) (k : Nat) (hk : k < fs.length) : elsF (fs.take (k + 1)) = updV (elsF (fs.take k)) (lows (fs[k]).1) (elsF (fs.take k) (lows (fs[k]).1) ++ listOf (fs[k]).2) := by
  funext y
  unfold elsF
  rw [valsF_next fs k hk y]
  by_cases h : y = lows (fs[k]).1
  · rw [if_pos h, h, upd_same, List.flatMap_append]; simp
  · rw [if_neg h, upd_other _ _ _ h]
theorem elsF_len (fs : FL) (x : Nm) : (elsF fs x).length ≤ bulkF fs := by
  have h1 : bulkT (valsF fs x) ≤ bulkF fs := by
    unfold valsF
    induction fs with
    | nil => simp [bulkT, bulkF]
    | cons f r ih =>
      rw [List.filter_cons]
      split
      · simp only [List.map_cons, bulkT, bulkF]; omega
      · simp only [bulkF]; omega
  have h2 := toks_len (valsF fs x)
  unfold toksOf at h2
  rw [List.length_map] at h2
  unfold elsF
  omega
theorem bulkF_take (fs : FL) : ∀ k, bulkF (fs.take k) ≤ bulkF fs := by
  induction fs with
  | nil => intro k; simp
  | cons f r ih =>
    intro k
    cases k with
    | zero => simp [bulkF]
    | succ j => rw [List.take_succ_cons]; simp only [bulkF]; have := ih j; omega
/-- the list of a name grows, and the map is told so -/
theorem tell_grow {w0 W : World} {m k : Nat} {is : Nm → Bool} {val : Nm → Value} {els : Nm → List Nm} {u : Value} {qs : List Nm} {wb : World} (hm : MapV m k is val W) (hr : RowsV w0 val els W) (hw : w0.heap.size ≤ m) (hu : OwnS wb u qs W)
    (s : ByteArray) (x : Nm) (hx : s.data.toList = x) (hs : s.size ≤ 140737488351232) (hk : k < 1000000000) (hl : (els x).length + qs.length ≤ 10000000) (t : TypeId) :
    ∃ v' W1 W2, (Builtin.append_ #[25, 25] t #[val x, u]).run Tryd.prog W = .ok v' W1 ∧ (Instr.mapUpdate 50 (.map (some m)) (.string s) (.agg #[v'])).run Tryd.prog W1 = .ok () W2 ∧
      MapV m (k + 1) (updV is x true) (updV val x v') W2 ∧ RowsV w0 (updV val x v') (updV els x (els x ++ qs)) W2 := by
  obtain ⟨i0, hi, hz0, hz1, hz2⟩ := info_parts Tryd.info9
  have hbase : w0.heap.size ≤ W.heap.size := (hr.row x).2.size
  have key : ∃ v' W1, (Builtin.append_ #[25, 25] t #[val x, u]).run Tryd.prog W = .ok v' W1 ∧ OwnS w0 v' (els x ++ qs) W1 ∧ W.grownBy W1 (val x).ownBlock ∧ (v'.ownBlock = (val x).ownBlock ∨ v'.ownBlock = some W.heap.size) := by
    have fin : ∀ v' W1, W1.ownsRow w0.heap.size 9 1 v' ((els x).length + qs.length) ((els x).map S ++ qs.map S) → W.grownBy W1 (val x).ownBlock → OwnS w0 v' (els x ++ qs) W1 := by
      intro v' W1 h1 h2
      refine ⟨by rw [List.map_append, List.length_append]; exact h1, Below.grown (hr.row x).2 h2 hbase (fun k hk => ((hr.row x).1.lt k hk).1)⟩
    obtain ⟨hl2, h1 | ⟨g, cap, cur, rfl, hg, hh, h3, h4, h5, h6⟩⟩ := hu.1
    · obtain ⟨rfl, hn⟩ := h1
      obtain rfl : qs = [] := List.eq_nil_of_length_eq_zero hn
      have hrun := run_append_owned_none (P := Tryd.prog) (w := W) w0.heap.size 25 t 9 i0 1 Tryd.underlying25 hi (val x) (els x).length ((els x).map S) (hr.row x).1
      exact ⟨_, _, hrun, by rw [List.append_nil]; exact hr.row x, ⟨rfl, rfl, rfl, Nat.le_refl _, fun _ _ _ => rfl⟩, .inl rfl⟩
    · obtain ⟨v', W1, e1, e2, e3, _, e5⟩ := run_append_own_at (P := Tryd.prog) (w := W) w0.heap.size 25 t 9 i0 (.string ⟨#[]⟩) 1 16 Tryd.underlying25 hi hz0 hz1 hz2 rfl (by decide) (val x) (els x).length ((els x).map S) (hr.row x).1 ⟨g, 0, none⟩ qs.length cap (qs.map S) (by simp) (fun j y hj => by
          rw [Go.WideShapes.add_plain, Nat.zero_add, hu.1.cellAt j (by have := (List.getElem?_eq_some_iff.1 hj).1; simpa using this)]
          exact hj) (fun y hy => by obtain ⟨z, _, rfl⟩ := List.mem_map.1 hy; rfl) (by unfold maxLen; omega) (by omega) hbase
      exact ⟨v', W1, e1, fin v' W1 e2 e3, e3, e5⟩
  obtain ⟨v', W1, e1, e2, e3, e5⟩ := key
  have ne1 : some m ≠ (val x).ownBlock := fun e => rowsV_ne hr hm x e.symm
  have hm1 : MapV m k is val W1 := mapV_block hm (e3.block m (mapV_lt hm) ne1)
  obtain ⟨W2, f1, f2, f3⟩ := mapV_put hm1 hk hs x hx v'
  have hlt : ∀ y g, (val y).ownBlock = some g → g < W.heap.size := fun y g h => ((hr.row y).1.lt g h).2
  have hr1 : RowsV w0 (updV val x v') (updV els x (els x ++ qs)) W1 := by
    refine ⟨fun y => ?_, fun y z g hyz hy => ?_⟩
    · by_cases h : y = x
      · subst h; rw [upd_same, upd_same]; exact e2
      · rw [upd_other _ _ _ h, upd_other _ _ _ h]
        refine ⟨(hr.row y).1.kept e3 ?_, e2.2⟩
        cases hb : (val y).ownBlock with
        | none => exact .inl rfl
        | some g => exact .inr (fun e => hr.apart y x g h hb e.symm)
    · by_cases h : y = x
      · subst h
        rw [upd_same] at hy
        rw [upd_other _ _ _ (fun e => hyz e.symm)]
        rcases e5 with e5 | e5
        · rw [e5] at hy; exact hr.apart y z g hyz hy
        · rw [e5] at hy
          intro e
          have := hlt z g e
          cases hy
          omega
      · rw [upd_other _ _ _ h] at hy
        by_cases h2 : z = x
        · subst h2
          rw [upd_same]
          rcases e5 with e5 | e5
          · rw [e5]; exact hr.apart y z g hyz hy
          · rw [e5]
            intro e
            have := hlt y g hy
            cases e
            omega
        · rw [upd_other _ _ _ h2]; exact hr.apart y z g hyz hy
  have hnm : ∀ y, (updV val x v' y).ownBlock ≠ some m := by
    intro y
    exact rowsV_ne hr1 hm1 y
  exact ⟨v', W1, W2, e1, f1, f2, rowsV_off hr1 hnm hw f3⟩
theorem stepTell {ops : Array Oper} {o : Oper} {a : Act} {K : Act → World → Prop} {Q : Exit → Act → World → Prop} {E : Prop} {w0 W wb : World} {m k : Nat} {is : Nm → Bool} {val : Nm → Value} {els : Nm → List Nm} {u vx : Value} {qs : List Nm} (hgd : o.guard = none) (s z : Operand)
    (ho : o.op = .call { callee := .builtin .append, args := #[s, z], argTypes := #[25, 25] }) (hm : MapV m k is val W) (hr : RowsV w0 val els W) (hw : w0.heap.size ≤ m) (hu : OwnS wb u qs W)
    (b : ByteArray) (x : Nm) (hx : b.data.toList = x) (hvx : val x = vx) (hs : a.eval s = vx) (hz : a.eval z = u) (hb : b.size ≤ 140737488351232) (hk : k < 1000000000) (hl : (els x).length + qs.length ≤ 10000000)
    (h : ∀ va vn vc W1 W2, (Instr.mapUpdate 50 (.map (some m)) (.string b) (.agg #[.slice va vn vc])).run Tryd.prog W1 = .ok () W2 → MapV m (k + 1) (updV is x true) (updV val x (.slice va vn vc)) W2 → RowsV w0 (updV val x (.slice va vn vc)) (updV els x (els x ++ qs)) W2 → K (a.put o.dst (.slice va vn vc)) W1) : if Region.wanted o (yielded ops a.tmps) = true then Oper.wp Tryd.prog o a W K Q else E := by
  have hwt : Region.wanted o (yielded ops a.tmps) = true := by simp [Region.wanted, hgd]
  rw [if_pos hwt]
  subst hvx
  obtain ⟨v', W1, W2, e1, e2, e3, e4⟩ := tell_grow hm hr hw hu b x hx hb hk hl o.type
  unfold Oper.wp execOp
  simp only [ho, resolve, invoke, builtin, Sem.run_bind, Sem.run_pure, Result.andThen_ok, List.map_toArray, List.map_cons, List.map_nil, hs, hz, e1]
  have hsl := isSl_own (e4.row x)
  rw [upd_same] at hsl
  rcases hsl with ⟨n, c, rfl⟩ | ⟨b, o, n, c, rfl⟩
  · exact h _ _ _ W1 W2 e2 e3 e4
  · exact h _ _ _ W1 W2 e2 e3 e4
theorem mkmapV (n : Int) (W : World) : (Instr.makeMap 50 (some (.int .i64 n))).run Tryd.prog W = .ok (.map (some W.heap.size)) (W.alloc (.map #[] 0)) := by kernel_rfl
theorem step_listG {ops : Array Oper} {o : Oper} {a : Act} {K : Act → World → Prop} {Q : Exit → Act → World → Prop} {E : Prop} {X : World} {R : Ending → World → Prop} (hgd : o.guard = none) (x : Operand) (ty : TypeId)
    (ho : o.op = .call { callee := .value (.func 41), args := #[x], argTypes := #[ty] }) (v : Value) (hv : a.eval x = v) (hc : Calls Tryd.prog 41 #[v] X R)
    (h : ∀ e w', R e w' → ∃ u, e = .returned u ∧ K (a.put o.dst u) w') : if Region.wanted o (yielded ops a.tmps) = true then Oper.wp Tryd.prog o a X K Q else E := by
  have hw : Region.wanted o (yielded ops a.tmps) = true := by simp [Region.wanted, hgd]
  rw [if_pos hw]
  subst hv
  have hrun : (execOp a.eval o).run Tryd.prog X = .ok (.enter 41 #[a.eval x]) X := by
    simp only [execOp, ho]
    simp [resolve, invoke, Deferred.ofValue, go_sem]
  unfold Oper.wp
  rw [hrun, Oper.upon_enter]
  refine hc.mono ?_
  intro e w' hr
  obtain ⟨u, rfl, hk⟩ := h e w' hr
  exact hk
theorem fieldV (v : Value) (W : World) : (Instr.field 60 (.agg #[v]) 0).run Tryd.prog W = .ok v W := by kernel_rfl
set_option maxHeartbeats 4000000 in
set_option maxRecDepth 20000 in
theorem tellC (v : Value) (fs : FL) (w : World) (hv : HoldsF w v fs) (hb : bulkF fs ≤ 1048576) :
    Calls Tryd.prog 28 #[v] w fun e w' => e = .returned (.map (some w.heap.size)) ∧ ∃ val, MapV w.heap.size fs.length (isF fs) val w' ∧ RowsV w val (elsF fs) w' := by
  obtain ⟨ao, ca, b1, o1, rfl, hca⟩ := holdsF_parts hv
  have CA : Hid _ := hca
  have hlb := bulkF_len fs
  have hnb : fs.length ≤ 1048576 := by omega
  have FT : Hid (∀ f ∈ fs, f.1.length + f.2.length ≤ 1048576) := fun f hf => by have := bulkF_mem fs f hf; omega
  have EL : Hid (∀ k x, (elsF (fs.take k) x).length ≤ 1048576) := fun k x => by have h1 := elsF_len (fs.take k) x; have h2 := bulkF_take fs k; omega
  have M0 := hide' (mapV_empty w)
  have R0 := hide' (rowsV_empty w (w.alloc (.map #[] 0)) ((Below.refl _ _).alloc (Nat.le_refl _) _))
  clear hca hv hb
  obtain ⟨n, en⟩ : ∃ n, n = fs.length := ⟨_, rfl⟩
  have N : Hid (fs.length = n) := en.symm
  rw [N.out] at hlb hnb ⊢
  clear en
  obtain ⟨m, em⟩ : ∃ m, m = w.heap.size := ⟨_, rfl⟩
  have EM : Hid (w.heap.size = m) := em.symm
  rw [EM.out]
  clear em
  have hmm := mkmapV (n : Int)
  go_enter Tryd.func28, Tryd.ntmps28
  go_wp2_with fail
  rw [EM.out]
  go_loopw [12] (fun i wr => ∃ (j : Nat) (val : Nm → Value), j ≤ n ∧ i = .int .i64 j ∧ Hid (MapV m j (isF (fs.take j)) val wr) ∧ Hid (RowsV w val (elsF (fs.take j)) wr)) (fun i _ => n - (intOf i).toNat)
  case atStart => exact ⟨0, _, Nat.zero_le _, rfl, by rw [← EM.out]; exact M0, R0⟩
  case round =>
    obtain ⟨j, val, hj, rfl, HM, HR⟩ := hrel
    by_cases hlt : j < n
    · have G : Hid (j < fs.length) := by unfold Hid; rw [N.out]; exact hlt
      obtain ⟨hao, hblt, hcell⟩ := CA.out (by have := G.out; omega)
      subst hao
      obtain ⟨h1, h2⟩ := hcell j G.out
      have bw := (HR.out.row []).2
      have c1 : wr.cell? ⟨b1, o1 + j * 2, none⟩ = some (.string ⟨(fs[j]'G.out).1.toArray⟩) := by
        rw [bw.cell (p := ⟨b1, o1 + j * 2, none⟩) hblt]; exact h1
      have c2 : wr.cell? ⟨b1, o1 + j * 2 + 1, none⟩ = some (.string ⟨(fs[j]'G.out).2.toArray⟩) := by
        rw [bw.cell (p := ⟨b1, o1 + j * 2 + 1, none⟩) hblt]; exact h2
      have hs := FT.out _ (List.getElem_mem G.out)
      have IS := hide' (isF_next fs j G.out)
      have ES := hide' (elsF_next fs j G.out)
      have el := EL.out j (lows (fs[j]'G.out).1)
      have LL := listOf_len (fs[j]'G.out).2
      have CF := hide' (fun W => foldTok ⟨(fs[j]'G.out).1.toArray⟩ W (by rw [size_l]; omega))
      have CL := hide' (fun W => listTok ⟨(fs[j]'G.out).2.toArray⟩ W (by rw [size_l]; omega))
      simp only at CF CL
      have lx : (lows (fs[j]'G.out).1).length ≤ 1048576 := by rw [lows_len]; omega
      clear hcell h1 h2
      generalize (fs[j]'G.out).1 = q1 at c1 CF hs IS ES el lx
      generalize (fs[j]'G.out).2 = q2 at c2 CL hs ES LL
      obtain ⟨x, ex⟩ : ∃ x, x = lows q1 := ⟨_, rfl⟩
      rw [← ex] at CF IS ES el lx
      clear ex
      go_wp2_with fail
      have C1 := hide' (show (wr.alloc (.cells #[.string ⟨q1.toArray⟩, .string ⟨q2.toArray⟩] 43)).cell? ⟨wr.heap.size, 1, none⟩ = some (.string ⟨q2.toArray⟩) by simp)
      refine (CF.out _).mono ?_
      rintro e w2 ⟨rfl, hb2⟩
      have bW := (below_alloc' wr (.cells #[.string ⟨q1.toArray⟩, .string ⟨q2.toArray⟩] 43)).trans (hb2.mono (by simp))
      have d1 : w2.cell? ⟨wr.heap.size, 1, none⟩ = some (.string ⟨q2.toArray⟩) := by rw [hb2.cell (p := ⟨wr.heap.size, 1, none⟩) (by simp)]; exact C1.out
      have sz : wr.heap.size < w2.heap.size := by have := hb2.size; simp at this; omega
      have HM2 := hide' (mapV_below HM.out bW)
      have HR2 := hide' (rowsV_below HR.out bW)
      clear bW hb2 C1 c1 c2 HM HR CF
      obtain ⟨z, ez⟩ : ∃ z, z = wr.heap.size := ⟨_, rfl⟩
      rw [← ez] at d1 sz ⊢
      clear ez
      have hx : (⟨x.toArray⟩ : ByteArray).data.toList = x := by simp
      have hsx : (⟨x.toArray⟩ : ByteArray).size ≤ 140737488351232 := by rw [size_l]; omega
      have L2 := mapV_look (W := w2.drew) (mapV_below HM2.out (Below.refl _ _).drew) (rowsV_below HR2.out (Below.refl _ _).drew) hsx x hx
      have LK : Hid (∀ W, Below w2.heap.size w2 W → (Instr.lookup 50 (.map (some m)) (.string ⟨x.toArray⟩) false).run Tryd.prog W = .ok (.agg #[val x]) W) := fun W hW => mapV_look (mapV_below HM2.out hW) (rowsV_below HR2.out hW) hsx x hx
      obtain ⟨vx, evx⟩ : ∃ vx, vx = val x := ⟨_, rfl⟩
      have EVX : Hid (val x = vx) := evx.symm
      rw [EVX.out] at L2 LK
      clear evx
      have hsx2 := hide' hsx
      clear hx hsx
      have hF := fieldV vx
      go_wp2_with fail
      go_region_law (first
          | (refine step_listG rfl (.tmp 26) 9 rfl _ rfl (CL.out _) ?_; rintro e w3 ⟨u3, rfl, ho3⟩; refine ⟨u3, rfl, ?_⟩; have b3 := ((Below.refl _ w2).drew).trans ho3.2; have L3 := LK.out w3 b3; have HM3 := hide' (mapV_below HM2.out b3); have HR3 := hide' (rowsV_below HR2.out b3); have U3 := hide' ho3; clear ho3 b3)
          | (refine stepTell rfl (.tmp 24) (.tmp 27) rfl HM3.out HR3.out (by rw [EM.out]; omega) U3.out ⟨x.toArray⟩ x rfl EVX.out rfl rfl hsx2.out (by omega) (by omega) ?_; intro va vn vc W1 W2 e1 m2 r2; have M2 := hide' m2; have R2 := hide' r2; clear m2 r2 HM3 HR3 U3 L3))
      all_goals
        go_wp2_with fail
        go_roundw
        case rel => exact ⟨j + 1, _, by omega, by go_num, by rw [IS.out]; exact M2, by rw [ES.out]; exact R2⟩
        case measure => simp [intOf]; omega
    · have E : Hid (fs.take j = fs) := List.take_of_length_le (by rw [N.out]; omega)
      have ej : j = n := by omega
      subst ej
      rw [E.out] at HM HR
      go_wp2_with fail
      go_ret
      exact ⟨rfl, val, HM.out, HR.out⟩
end Go.Proofs.YtmibgcbolnpffaaDoor
