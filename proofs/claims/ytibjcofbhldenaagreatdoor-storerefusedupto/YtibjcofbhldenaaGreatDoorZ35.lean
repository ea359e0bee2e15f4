/- The contract of rising: are the files' names good and in their order? A disk under way: what New has laid behind some files. -/
import Derived.Test.YtibjcofbhldenaaGreatDoorZ33
namespace Go.Proofs.YtibjcofbhldenaaGreatDoor
open Go.RowKit Go.Maps
theorem chain_snoc : ∀ (l : List Nm) (a b : Nm), chainOk (l ++ [a, b]) = (chainOk (l ++ [a]) && lessN a b) := by
  intro l
  induction l with
  | nil => intro a b; show (lessN a b && true) = (true && lessN a b); simp
  | cons x r ih =>
    intro a b
    cases r with
    | nil =>
      show (lessN x a && (lessN a b && true)) = ((lessN x a && true) && lessN a b)
      simp
    | cons y t =>
      have h := ih a b
      show (lessN x y && chainOk ((y :: t) ++ [a, b])) = ((lessN x y && chainOk ((y :: t) ++ [a])) && lessN a b)
      rw [h, Bool.and_assoc]
theorem take_two (fs : FilL) (i : Nat) (h : i + 1 < fs.length) : fs.take (i + 1 + 1) = fs.take i ++ [fs[i], fs[i + 1]] := by
  rw [List.take_succ_eq_append_getElem h, List.take_succ_eq_append_getElem (show i < fs.length by omega), List.append_assoc]
  rfl
theorem ok_first (fs : FilL) (h : 0 < fs.length) : filesOk (fs.take (0 + 1)) = goodN (fs[0]).1 := by
  rw [List.take_succ_eq_append_getElem h]
  simp [filesOk, chainOk]
theorem ok_next (fs : FilL) (i : Nat) (h : i + 1 < fs.length) : filesOk (fs.take (i + 1 + 1)) = (filesOk (fs.take (i + 1)) && (goodN (fs[i + 1]).1 && lessN (fs[i]).1 (fs[i + 1]).1)) := by
  rw [take_two fs i h]
  have e : fs.take (i + 1) = fs.take i ++ [fs[i]] := List.take_succ_eq_append_getElem (by omega)
  rw [e]
  unfold filesOk
  rw [List.map_append, List.map_append, List.all_append, List.all_append]
  have hc := chain_snoc ((fs.take i).map (fun f => f.1)) (fs[i]).1 (fs[i + 1]).1
  simp only [List.map_cons, List.map_nil, List.all_cons, List.all_nil, Bool.and_true] at hc ⊢
  rw [hc]
  cases (fs.take i).all (fun f => goodN f.1) <;> cases goodN (fs[i]).1 <;> cases goodN (fs[i + 1]).1 <;> cases chainOk ((fs.take i).map (fun f => f.1) ++ [(fs[i]).1]) <;> cases lessN (fs[i]).1 (fs[i + 1]).1 <;> rfl
theorem ok_mono (fs : FilL) (j : Nat) (h : filesOk fs = true) : filesOk (fs.take j) = true := by
  induction j with
  | zero => rfl
  | succ j ih =>
    rcases Nat.lt_or_ge j fs.length with hj | hj
    · unfold filesOk at h ⊢
      rw [Bool.and_eq_true] at h ⊢
      refine ⟨List.all_eq_true.2 (fun f hf => List.all_eq_true.1 h.1 f (List.mem_of_mem_take hf)), ?_⟩
      have := chain_pair _ h.2
      rw [List.map_take]
      exact pair_chain _ (this.sublist (List.take_sublist _ _))
    · rw [List.take_of_length_le (by omega)]; exact h
theorem ok_bad (fs : FilL) (j : Nat) (h : filesOk (fs.take j) = false) : filesOk fs = false := by
  cases e : filesOk fs with
  | false => rfl
  | true => rw [ok_mono fs j e] at h; cases h
/-- 'b <= a' in the words of the comparison that the language makes -/
theorem le_less (a b : Nm) : (Op.bytesLess b a || b == a) = !(lessN a b) := by
  rcases less_total a b with h | h | h
  · rw [h]
    have := less_irrefl b
    rw [this]
    simp
  · have h2 := less_asymm a b h
    have h3 : (b == a) = false := by
      cases e : b == a with
      | false => rfl
      | true => rw [beq_iff_eq] at e; rw [e, less_irrefl] at h; cases h
    rw [h, h3]
    show (lessN b a || false) = false
    rw [h2]; rfl
  · have h2 := less_asymm b a h
    rw [h2]
    show (lessN b a || _) = true
    rw [h]; rfl
theorem goodNameL (l : Nm) (w : World) (hs : l.length ≤ 140737488351232) : Calls Tryz.prog 119 #[.string ⟨l.toArray⟩] w fun e w' => e = .returned (.bool (goodN l)) ∧ w' = w := by
  have := goodNameC ⟨l.toArray⟩ w (by rw [size_l]; exact hs)
  simpa using this
set_option maxRecDepth 20000 in
set_option maxHeartbeats 4000000 in
theorem risingF (v : Value) (fs : FilL) (w : World) (hv : HoldsFi w v fs) (hl : ∀ f ∈ fs, f.1.length ≤ 140737488351232) (hn : fs.length ≤ 1000000000) :
    Calls Tryz.prog 70 #[v] w fun e w' => e = .returned (.bool (filesOk fs)) ∧ Below w.heap.size w w' := by
  obtain ⟨ao, ca, rfl, h0, hcp, hca⟩ := hv
  by_cases hz : fs = []
  · subst hz
    clear hca hl hn
    go_enter Tryz.func70, Tryz.ntmps70
    go_wp2_with fail
    go_rounds 1
    go_ret
    exact ⟨rfl, Below.refl _ _⟩
  · obtain ⟨b1, o1, rfl, hlt1, c1⟩ := hca hz
    have C1 : Hid _ := c1
    obtain ⟨n, hN⟩ : ∃ n, n = fs.length := ⟨_, rfl⟩
    have N1 : Hid (fs.length = n) := hN.symm
    have ln : n ≤ 1000000000 := by omega
    rw [N1.out]
    clear hca c1 hz hn hN h0 hcp
    go_enter Tryz.func70, Tryz.ntmps70
    go_wp2_with fail
    go_loopw [3, 4, 7] (fun _ _ i wr => ∃ j : Nat, j ≤ n ∧ i = .int .i64 j ∧ Hid (filesOk (fs.take j) = true) ∧ Hid (Below w.heap.size w wr)) (fun _ _ i _ => n - (intOf i).toNat)
    case atStart => exact ⟨0, by omega, rfl, rfl, Below.refl _ _⟩
    case round =>
      obtain ⟨j, hj, rfl, hE, HB⟩ := hrel
      by_cases hlt : j < n
      · have G : Hid (j < fs.length) := by unfold Hid; rw [N1.out]; exact hlt
        obtain ⟨x1, u, x2, x3⟩ := C1.out j G.out
        obtain ⟨ua, uc, hu, _⟩ := x3
        subst hu
        rw [← HB.out.cell (p := ⟨b1, o1 + j * 2, none⟩) hlt1] at x1
        rw [← HB.out.cell (p := ⟨b1, o1 + j * 2 + 1, none⟩) hlt1] at x2
        have hb1 : b1 < wr.heap.size := Nat.lt_of_lt_of_le hlt1 HB.out.size
        have hb1n : ¬ wr.heap.size = b1 := by omega
        unfold S at x1
        have cg : ∀ wx, Calls Tryz.prog 119 #[.string ⟨((fs[j]'G.out).1).toArray⟩] wx fun e w' => e = .returned (.bool (goodN (fs[j]'G.out).1)) ∧ w' = wx := fun wx => goodNameL _ wx (hl _ (List.getElem_mem _))
        have BA : Hid (Below w.heap.size w (wr.alloc (.cells #[.string ⟨((fs[j]'G.out).1).toArray⟩, .slice ua (fs[j]'G.out).2.length uc] 91))) := HB.out.trans ((below_alloc' wr _).mono HB.out.size)
        cases hg : goodN (fs[j]'G.out).1 with
        | false =>
          have F : Hid (filesOk fs = false) := by
            refine ok_bad fs (j + 1) ?_
            cases j with
            | zero => rw [ok_first fs G.out]; exact hg
            | succ i => rw [ok_next fs i G.out, hg]; simp
          rw [hg] at cg
          generalize (fs[j]'G.out).2.length = L2 at x2 BA
          generalize (⟨((fs[j]'G.out).1).toArray⟩ : ByteArray) = y at x1 cg BA
          have CG := hide' cg
          clear cg hg
          go_wp2_with fail
          go_quiet (first | (go_at_call 119; refine Calls.quiet_of_same (CG.out _)))
          go_wp2_with fail
          go_ret
          rw [F.out]
          exact ⟨rfl, BA.out.trans (below_drawn (Below.refl _ _) _)⟩
        | true =>
          rcases Nat.eq_zero_or_pos j with hj0 | hj0
          · have A : Hid (filesOk (fs.take (j + 1)) = true) := by
              unfold Hid
              have G' := G.out
              subst hj0
              rw [ok_first fs G']; exact hg
            have q0 : decide (0 < j) = false := by rw [hj0]; rfl
            rw [hg] at cg
            generalize (fs[j]'G.out).2.length = L2 at x2 BA
            generalize (⟨((fs[j]'G.out).1).toArray⟩ : ByteArray) = y at x1 cg BA
            have CG := hide' cg
            clear cg hg hj0
            go_wp2_with fail
            go_quiet (first | (go_at_call 119; refine Calls.quiet_of_same (CG.out _)))
            go_wp2_with fail
            go_roundw
            case rel => exact ⟨j + 1, by omega, by go_num, A, BA.out.trans (below_drawn (Below.refl _ _) _)⟩
            case measure => simp [intOf]; omega
          · obtain ⟨i, hij⟩ : ∃ i, j = i + 1 := ⟨j - 1, by omega⟩
            have hi : i < fs.length := by have := G.out; omega
            have x0 := (C1.out i hi).1
            rw [← HB.out.cell (p := ⟨b1, o1 + i * 2, none⟩) hlt1] at x0
            unfold S at x0
            have hle : (Op.bytesLess (⟨((fs[j]'G.out).1).toArray⟩ : ByteArray).toList (⟨((fs[i]'hi).1).toArray⟩ : ByteArray).toList || (⟨((fs[j]'G.out).1).toArray⟩ : ByteArray).toList == (⟨((fs[i]'hi).1).toArray⟩ : ByteArray).toList) = !(lessN (fs[i]'hi).1 (fs[j]'G.out).1) := by
              rw [Lib.toList_data, Lib.toList_data]
              exact le_less (fs[i]'hi).1 (fs[j]'G.out).1
            have ON : filesOk (fs.take (j + 1)) = (filesOk (fs.take j) && (goodN (fs[j]'G.out).1 && lessN (fs[i]'hi).1 (fs[j]'G.out).1)) := by
              have G' := G.out
              subst hij
              exact ok_next fs i G'
            rw [hE.out, hg, Bool.true_and, Bool.true_and] at ON
            have qj : (0 : Int) < (j : Int) := by omega
            have qw : IntKind.i64.wrap ((j : Int) - 1) = (i : Int) := by rw [wrap_small _ (by omega) (by omega)]; omega
            have qi0 : (0 : Int) ≤ (i : Int) := by omega
            have qin : (i : Int) < (n : Int) := by have := N1.out; omega
            rw [hg] at cg
            cases hc : lessN (fs[i]'hi).1 (fs[j]'G.out).1 with
            | true =>
              rw [hc] at ON hle
              have A := hide' ON
              generalize (fs[j]'G.out).2.length = L2 at x2 BA
              generalize (⟨((fs[j]'G.out).1).toArray⟩ : ByteArray) = y at x1 cg BA hle
              generalize (⟨((fs[i]'hi).1).toArray⟩ : ByteArray) = y0 at x0 hle
              have hr : ∀ W, Sem.run Tryz.prog (binOp .leq 9 (.string y) (.string y0)) W = .ok (.bool false) W := fun W => by
                show Result.ok (Value.bool (Op.bytesLess y.toList y0.toList || y.toList == y0.toList)) W = _
                rw [hle]; rfl
              clear hle
              have CG := hide' cg
              clear cg hg hij ON hc hi
              go_wp2_with fail
              go_quiet (first | (go_at_call 119; refine Calls.quiet_of_same (CG.out _)))
              go_wp2_with fail
              go_roundw
              case rel => exact ⟨j + 1, by omega, by go_num, A, BA.out.trans (below_drawn (Below.refl _ _) _)⟩
              case measure => simp [intOf]; omega
            | false =>
              rw [hc] at ON hle
              have F : Hid (filesOk fs = false) := ok_bad fs (j + 1) ON
              generalize (fs[j]'G.out).2.length = L2 at x2 BA
              generalize (⟨((fs[j]'G.out).1).toArray⟩ : ByteArray) = y at x1 cg BA hle
              generalize (⟨((fs[i]'hi).1).toArray⟩ : ByteArray) = y0 at x0 hle
              have hr : ∀ W, Sem.run Tryz.prog (binOp .leq 9 (.string y) (.string y0)) W = .ok (.bool true) W := fun W => by
                show Result.ok (Value.bool (Op.bytesLess y.toList y0.toList || y.toList == y0.toList)) W = _
                rw [hle]; rfl
              clear hle
              have CG := hide' cg
              clear cg hg hij ON hc hi
              go_wp2_with fail
              go_quiet (first | (go_at_call 119; refine Calls.quiet_of_same (CG.out _)))
              go_wp2_with fail
              go_ret
              rw [F.out]
              exact ⟨rfl, BA.out.trans (below_drawn (Below.refl _ _) _)⟩
      · have F : Hid (filesOk fs = true) := by
          have := hE.out
          rwa [List.take_of_length_le (by rw [N1.out]; omega)] at this
        go_wp2_with fail
        go_ret
        rw [F.out]
        exact ⟨rfl, HB.out⟩
end Go.Proofs.YtibjcofbhldenaaGreatDoor
namespace Go.Proofs.YtibjcofbhldenaaGreatDoor
open Go.RowKit Go.Maps
set_option maxHeartbeats 1000000 in
theorem newFileB {g n : Nat} {a0 a1 a2 a3 a5 a6 a7 : Value} {W : World} (h : Blk g W [a0, a1, a2, a3, .int .i64 (n : Int), a5, a6, a7]) (hb : n ≤ 1000000000) :
    Calls Tryz.prog 71 #[.pointer (some ⟨g, 0, none⟩)] W fun e W' => e = .returned (.pointer (some ⟨W.heap.size, 0, none⟩)) ∧ W' = newB W g n := by
  have hg := h.2
  have hne : ¬ W.heap.size = g := by omega
  have hne2 : ¬ g = W.heap.size := by omega
  obtain ⟨⟨_, _, _, _, c4, _⟩, ⟨_, f4, _⟩⟩ := cells_eight h
  clear h
  go_enter Tryz.func71, Tryz.ntmps71
  go_wp2_with fail
  go_ret
  exact ⟨rfl, rfl⟩
/-- a map that holds just these numbers, put in one by one -/
def FailsN (W : World) (m n : Nat) (fs : List Int) : Prop := ∃ D, W.ownsMap Tryz.prog 3 (unitElem (H := Unit)) m n D ∧ ∀ i : Int, Maps.has D (.int .i64 i) = decide (i ∈ fs)
theorem fails_put {D : DU} {fs : List Int} {z : Int} (hm : Maps.IsMap D) (h : ∀ i : Int, Maps.has D (.int .i64 i) = decide (i ∈ fs)) (i : Int) : Maps.has (D.put (.int .i64 z) (.agg [])) (.int .i64 i) = decide (i ∈ fs ++ [z]) := by
  by_cases e : i = z
  · subst e
    rw [Maps.has_put_same (k := .int .i64 i) hm trivial]
    simp
  · rw [Maps.has_put_other (by simpa using e), h i]
    apply decide_eq_decide.2
    simp [e]
/-- a disk under way: so many files are laid, none of them safe by name -/
structure NewP (o : Ow) (g m0 m1 : Nat) (fb : Nat → Nat) (room power : Int) (fails : List Int) (fs : FilL) (n0 : Nat) (W : World) : Prop where
  blk : Blk g W [.int .i64 room, .int .i64 power, .map (some m0), .int .i64 0, .int .i64 (fs.length : Int), .map (some m1), .map none, .slice none 0 0]
  fails : FailsAt W m0 fails
  seen : Tbl W m1 fb (numbered fs)
  files : ∀ i (h : i < fs.length), FileAt o W (fb i) i (fs[i]).2 (fs[i]).2.length
  og : o g = some .disk
  o0 : o m0 = some .fails
  o1 : o m1 = some .seen
  lt : ∀ k, o.has k → k < W.heap.size
  new : ∀ k, o.has k → n0 ≤ k
theorem newP_same {o : Ow} {g m0 m1 : Nat} {fb : Nat → Nat} {room power : Int} {fails : List Int} {fs : FilL} {n0 : Nat} {W W' : World} (h : NewP o g m0 m1 fb room power fails fs n0 W) (hs : Same o (fun _ => True) W W') : NewP o g m0 m1 fb room power fails fs n0 W' :=
  ⟨blk_same h.blk hs h.og trivial, fails_same h.fails hs h.o0 trivial, tbl_same h.seen hs h.o1 trivial, fun i hi => file_same (h.files i hi) hs trivial trivial, h.og, h.o0, h.o1, fun k hk => Nat.lt_of_lt_of_le (h.lt k hk) hs.size, h.new⟩
theorem newP_below {o : Ow} {g m0 m1 : Nat} {fb : Nat → Nat} {room power : Int} {fails : List Int} {fs : FilL} {n0 : Nat} {W W' : World} (h : NewP o g m0 m1 fb room power fails fs n0 W) (hb : Below W.heap.size W W') : NewP o g m0 m1 fb room power fails fs n0 W' := newP_same h (same_below hb h.lt)
theorem num_snoc (fs : FilL) (f : Nm × List UInt8) : numbered (fs ++ [f]) = numbered fs ++ [(f.1, fs.length)] := by
  unfold numbered
  rw [List.zipIdx_append, List.map_append]
  simp
theorem put_last {l : NL} {n : Nm} {k : Nat} (h : ∀ p ∈ l, lessN p.1 n = true) : putN l n k = l ++ [(n, k)] := by
  have h1 : delN l n = l := by
    unfold delN
    refine List.filter_eq_self.2 (fun p hp => ?_)
    have := h p hp
    simp only [ne_eq, decide_eq_true_eq]
    intro e
    rw [e, less_irrefl] at this
    cases this
  unfold putN
  rw [h1]
  clear h1
  induction l with
  | nil => rfl
  | cons q r ih =>
    have hq := less_asymm _ _ (h q (List.mem_cons_self ..))
    unfold insN
    rw [if_neg (by rw [hq]; decide), ih (fun p hp => h p (List.mem_cons_of_mem _ hp))]
    rfl
theorem num_put (fs : FilL) (f : Nm × List UInt8) (h : filesOk (fs ++ [f]) = true) : putN (numbered fs) f.1 fs.length = numbered (fs ++ [f]) := by
  rw [num_snoc]
  refine put_last (fun p hp => ?_)
  have hs := num_sorted h
  rw [num_snoc] at hs
  exact (List.pairwise_append.1 hs).2.2 p hp (f.1, fs.length) (by simp)
/-- one file more, in block X, whose bytes lie in rows of its own; its name is put in -/
theorem newP_file {o : Ow} {g m0 m1 : Nat} {fb : Nat → Nat} {room power : Int} {fails : List Int} {fs : FilL} {n0 : Nat} {W W' : World} {X : Nat} {rv : Value} {f : Nm × List UInt8} (h : NewP o g m0 m1 fb room power fails fs n0 W) (hn0 : n0 ≤ W.heap.size) (hX : W.heap.size ≤ X) (hXl : X < W'.heap.size)
    (hs : Same o (fun r => r ≠ .disk ∧ r ≠ .seen) W W') (hb : Blk g W' [.int .i64 room, .int .i64 power, .map (some m0), .int .i64 0, .int .i64 ((fs.length : Int) + 1), .map (some m1), .map none, .slice none 0 0])
    (hx : Blk X W' [.int .i64 (fs.length : Int), rv, .int .i64 (f.2.length : Int)]) (hr : W'.ownsRow (X + 1) 5 1 rv f.2.length (f.2.map B)) (ht : Tbl W' m1 (upd fb fs.length X) (putN (numbered fs) f.1 fs.length)) (hok : filesOk (fs ++ [f]) = true) :
    NewP ((o.set X (.file fs.length)).row rv fs.length) g m0 m1 (upd fb fs.length X) room power fails (fs ++ [f]) n0 W' := by
  have nX : o X = none := none_of_lt h.lt hX
  have le0 : o.le (o.set X (.file fs.length)) := le_set _ (.inl nX)
  have nr : ∀ rb, rv.ownBlock = some rb → X < rb ∧ rb < W'.heap.size ∧ (o.set X (.file fs.length)) rb = none := by
    intro rb e
    have hlt := hr.lt rb e
    refine ⟨by omega, hlt.2, ?_⟩
    rw [set_other _ _ (by omega)]
    exact none_of_lt h.lt (by omega)
  have le1 : (o.set X (.file fs.length)).le ((o.set X (.file fs.length)).row rv fs.length) := by
    unfold Ow.row
    cases e : rv.ownBlock with
    | none => exact fun _ _ h => h
    | some rb => exact le_set _ (.inl (nr rb e).2.2)
  have hle : o.le ((o.set X (.file fs.length)).row rv fs.length) := fun k r e => le1 k r (le0 k r e)
  have hhas : ∀ k, ((o.set X (.file fs.length)).row rv fs.length).has k → o.has k ∨ k = X ∨ rv.ownBlock = some k := by
    intro k hk
    unfold Ow.row at hk
    cases e : rv.ownBlock with
    | none =>
      rw [e] at hk
      rcases has_set hk with h1 | h1
      · exact .inr (.inl h1)
      · exact .inl h1
    | some rb =>
      rw [e] at hk
      rcases has_set hk with h1 | h1
      · exact .inr (.inr (by rw [h1]))
      · rcases has_set h1 with h2 | h2
        · exact .inr (.inl h2)
        · exact .inl h2
  refine ⟨?_, fails_same h.fails hs h.o0 (by decide), ?_, fun i hi => ?_, hle _ _ h.og, hle _ _ h.o0, hle _ _ h.o1, fun k hk => ?_, fun k hk => ?_⟩
  · have e : ((fs ++ [f]).length : Int) = (fs.length : Int) + 1 := by simp
    rw [e]
    exact hb
  · rw [← num_put fs f hok]; exact ht
  · by_cases e : i < fs.length
    · rw [upd_lt e, List.getElem_append_left e]
      exact file_le (file_same (h.files i e) hs (by simp) (by simp)) hle
    · have ei : i = fs.length := by simp at hi; omega
      subst ei
      have e2 : (fs ++ [f])[fs.length]'hi = f := by simp
      rw [upd_same, e2]
      refine ⟨rv, hx, row_base hr (Nat.zero_le _), le1 _ _ (set_same _ _ _), fun rb e => ?_⟩
      unfold Ow.row
      rw [e]
      exact set_same _ _ _
  · rcases hhas k hk with h1 | h1 | h1
    · exact Nat.lt_of_lt_of_le (h.lt k h1) hs.size
    · rw [h1]; exact hXl
    · exact (nr k h1).2.1
  · rcases hhas k hk with h1 | h1 | h1
    · exact h.new k h1
    · omega
    · have := (nr k h1).1; omega
/-- the names' copy, and the disk is whole -/
theorem newP_dkV {o : Ow} {g m0 m1 m2 : Nat} {fb : Nat → Nat} {room power : Int} {fails : List Int} {fs : FilL} {n0 : Nat} {W W' : World} (h : NewP o g m0 m1 fb room power fails fs n0 W) (hok : filesOk fs = true) (hrm : 0 ≤ room ∧ room ≤ 1073741824) (hm2 : W.heap.size ≤ m2) (hb : Below W.heap.size W W') (ht : Tbl W' m2 fb (numbered fs)) :
    DkV (o.set m2 .safe) g m0 m1 m2 (.slice none 0 0) fb (newS fs room fails power) [] (W'.setCell ⟨g, 6, none⟩ (.map (some m2))) := by
  have h1 := newP_below h hb
  have n2 : o m2 = none := none_of_lt h.lt hm2
  have hle : o.le (o.set m2 .safe) := le_set _ (.inl n2)
  have s1 : Same o (fun r => r ≠ .disk) W' (W'.setCell ⟨g, 6, none⟩ (.map (some m2))) := same_poke h.og _
  have s2 : Same (o.set m2 .safe) (fun r => r ≠ .disk) W' (W'.setCell ⟨g, 6, none⟩ (.map (some m2))) := same_poke (hle _ _ h.og) _
  have hw := wf_new hok room fails power
  have hl2 : m2 < W'.heap.size := World.ownsMap.lt ht
  have hdl : (newS fs room fails power).data.length = fs.length := by simp [newS]
  refine ⟨?_, fails_same h1.fails s1 h.o0 (by decide), tbl_same h1.seen s1 h.o1 (by decide), tbl_same ht s2 (set_same _ _ _) (by decide), ⟨[], World.ownsRow_nil _ _ _ _, fun i hi => absurd hi (by simp), fun rb e => by cases e⟩, fun i hi => ?_, hle _ _ h.og, hle _ _ h.o0, hle _ _ h.o1, set_same _ _ _, fun k hk => ?_, hw.1, hw.2, ⟨rfl, rfl⟩, hrm⟩
  · have := cells_set h1.blk (j := 6) (by simp) (.map (some m2))
    rw [hdl]
    exact this
  · rw [hdl] at hi
    have e1 : (newS fs room fails power).data.getD i [] = (fs[i]).2 := by simp [newS, List.getD, hi]
    have e2 : (newS fs room fails power).firm.getD i 0 = (fs[i]).2.length := by simp [newS, List.getD, hi]
    rw [e1, e2]
    exact file_le (file_same (h1.files i hi) s1 (by simp) (by simp)) hle
  · have e : (W'.setCell ⟨g, 6, none⟩ (.map (some m2))).heap.size = W'.heap.size := by simp [World.setCell]
    rw [e]
    rcases has_set hk with e1 | e1
    · rw [e1]; exact hl2
    · exact h1.lt k e1
end Go.Proofs.YtibjcofbhldenaaGreatDoor
