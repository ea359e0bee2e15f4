/- The contract of the document's Names. -/
import Derived.Test.YtmibgcbolnpffabDoorVrN
namespace Go.Proofs.YtmibgcbolnpffabDoor
open Go.RowKit
/-- is x met, or what stands behind it -/
def putU (x : Nm) (l : List Nm) : Bool := l.any (fun y => decide (y = x) || lessN x y)
def accU (x : Nm) (l : List Nm) : List Nm := if putU x l = true then insU x l else l
theorem ins_true (x : Nm) (m : List Nm) : ∀ l : List Nm, putU x l = true → insU x (l ++ m) = insU x l ++ m := by
  intro l
  induction l with
  | nil => intro h; cases h
  | cons y r ih =>
    intro h
    rw [List.cons_append, insU, insU]
    by_cases e : y = x
    · rw [if_pos e, if_pos e]; rfl
    · rw [if_neg e, if_neg e]
      by_cases e2 : lessN x y = true
      · rw [if_pos e2, if_pos e2]; rfl
      · rw [if_neg e2, if_neg e2]
        have : putU x r = true := by
          unfold putU at h ⊢
          rw [List.any_cons] at h
          simpa [e, e2] using h
        rw [ih this]; rfl
theorem ins_false (x : Nm) (m : List Nm) : ∀ l : List Nm, putU x l = false → insU x (l ++ m) = l ++ insU x m := by
  intro l
  induction l with
  | nil => intro _; rfl
  | cons y r ih =>
    intro h
    unfold putU at h
    rw [List.any_cons, Bool.or_eq_false_iff, Bool.or_eq_false_iff] at h
    obtain ⟨⟨h1, h2⟩, h3⟩ := h
    rw [List.cons_append, insU, if_neg (by simpa using h1), if_neg (by rw [h2]; decide), ih h3]
    rfl
theorem put_snoc (x y : Nm) (l : List Nm) : putU x (l ++ [y]) = (putU x l || (decide (y = x) || lessN x y)) := by unfold putU; simp
theorem acc_put (x y : Nm) (l : List Nm) (h : putU x l = true) : accU x (l ++ [y]) = accU x l ++ [y] := by
  unfold accU
  rw [put_snoc, h, Bool.true_or, if_pos rfl, if_pos rfl, ins_true x [y] l h]
theorem acc_eq (x : Nm) (l : List Nm) (h : putU x l = false) : accU x (l ++ [x]) = accU x l ++ [x] := by
  unfold accU
  rw [put_snoc, h, ins_false x [x] l h]
  simp [insU]
theorem acc_less (x y : Nm) (l : List Nm) (h : putU x l = false) (hn : ¬ y = x) (hl : lessN x y = true) : accU x (l ++ [y]) = (accU x l ++ [x]) ++ [y] := by
  unfold accU
  rw [put_snoc, h, ins_false x [y] l h, hl]
  simp [insU, hn, hl]
theorem acc_more (x y : Nm) (l : List Nm) (h : putU x l = false) (hn : ¬ y = x) (hl : lessN x y = false) : accU x (l ++ [y]) = accU x l ++ [y] := by
  unfold accU
  rw [put_snoc, h, hl]
  simp [hn]
theorem acc_len (x : Nm) (l : List Nm) : (accU x l).length ≤ l.length + 1 := by
  unfold accU
  split
  · exact insU_len x l
  · omega
theorem acc_end (x : Nm) (l : List Nm) (h : putU x l = true) : insU x l = accU x l := by unfold accU; rw [if_pos h]
theorem acc_end2 (x : Nm) (l : List Nm) (h : putU x l = false) : insU x l = accU x l ++ [x] := by
  unfold accU
  rw [h, if_neg (by decide)]
  have := ins_false x [] l h
  simpa [insU] using this
/-- 'greater than', in the words of the comparison that the language makes -/
theorem gtr_less (y x : Nm) : (!(Op.bytesLess y x || y == x)) = lessN x y := by
  by_cases h : y = x
  · subst h
    rw [less_irrefl]; simp
  · exact gt_less y x h
set_option maxHeartbeats 8000000 in
set_option maxRecDepth 20000 in
theorem namesRC (v : Value) (fs : FL) (w : World) (hv : HoldsF w v fs) (hb : bulkF fs ≤ 1048576) :
    Calls Tryd.prog 6 #[v] w fun e w' => ∃ u, e = .returned (.tuple #[u, .bool (namesB fs)]) ∧ OwnS w u (namesV fs) w' := by
  have cT := tokensRef v fs varyL w hv hb (by decide)
  rw [words_low] at cT
  replace cT := hide' cT
  have hl : (wordsV fs).length ≤ 1048576 := by
    have h1 := toks_len (valsOf fs varyN)
    have h2 := bulk_vals fs varyN
    unfold wordsV; omega
  obtain ⟨fa, fc, _, _, ef, _⟩ := holdsF_parts hv
  subst ef
  obtain ⟨nb, enb⟩ : ∃ nb, nb = namesB fs := ⟨_, rfl⟩
  obtain ⟨nv, env⟩ : ∃ nv, nv = namesV fs := ⟨_, rfl⟩
  have NB := hide' (show nb = !decide (([42] : Nm) ∈ wordsV fs) from enb)
  have NV := hide' (show nv = if nb = true then uniqS (wordsV fs) else [] from by rw [env, enb]; rfl)
  rw [← enb, ← env]
  clear enb env
  obtain ⟨ts, et⟩ : ∃ ts, ts = wordsV fs := ⟨_, rfl⟩
  have ET : Hid (wordsV fs = ts) := et.symm
  rw [← et] at hl cT
  rw [ET.out] at NB NV
  clear et hv hb ET
  generalize fs.length = fn at cT ⊢
  go_enter Tryd.func6, Tryd.ntmps6
  go_wp2_with fail
  refine cT.out.mono ?_
  rintro e w1 ⟨u, rfl, ho⟩
  obtain ⟨ao, ca, b1, o1, hu, hc⟩ := holds_parts (holds_own ho)
  have C := hide' hc
  have B1 := hide' ho.2
  rw [hu]
  clear ho hu hc cT
  obtain ⟨n, en⟩ : ∃ n, n = ts.length := ⟨_, rfl⟩
  have N : Hid (ts.length = n) := en.symm
  rw [N.out] at hl ⊢
  clear en
  go_wp2_with fail
  go_loopw [5, 6] (fun v i wr => ∃ (vo : Value) (k : Nat), vo = v ∧ k ≤ n ∧ i = .int .i64 k ∧ Hid (([42] : Nm) ∉ ts.take k) ∧ Hid (OwnS w1 vo (uniqS (ts.take k)) wr)) (fun _ i _ => n - (intOf i).toNat)
  case atStart => exact ⟨_, 0, rfl, Nat.zero_le _, rfl, by unfold Hid; simp, ownS_empty w1⟩
  case round =>
    obtain ⟨vo, k, rfl, hk, rfl, HS, HO⟩ := hrel
    obtain ⟨w2, ew⟩ : ∃ w2, w2 = wr := ⟨_, rfl⟩
    subst ew
    by_cases hlt : k < n
    · have G : Hid (k < ts.length) := by unfold Hid; rw [N.out]; exact hlt
      obtain ⟨hao, hblt, hcell⟩ := C.out (by have := G.out; omega)
      subst hao
      have ck : w2.cell? ⟨b1, o1 + k, none⟩ = some (.string ⟨(ts[k]'G.out).toArray⟩) := by
        rw [HO.out.2.cell (p := ⟨b1, o1 + k, none⟩) hblt]; exact hcell k G.out
      have T1 := hide' (List.take_succ_eq_append_getElem G.out)
      have UQ := hide' (show uniqS (ts.take (k + 1)) = insU (ts[k]'G.out) (uniqS (ts.take k)) from by rw [T1.out, uniq_snoc])
      have MS := hide' (fun (h : (ts[k]'G.out) = [42]) => (show ([42] : Nm) ∈ ts from by rw [← h]; exact List.getElem_mem G.out))
      have NS := hide' (fun (h : ¬ (ts[k]'G.out) = [42]) => (show ([42] : Nm) ∉ ts.take (k + 1) from by
        rw [T1.out, List.mem_append, List.mem_singleton]
        rintro (h1 | h1)
        · exact HS.out h1
        · exact h h1.symm))
      have ul : (uniqS (ts.take k)).length ≤ k := Nat.le_trans (uniq_len _) (List.length_take_le _ _)
      clear hcell T1
      generalize ts[k]'G.out = x at ck UQ MS NS
      by_cases hs : x = [42]
      · subst hs
        have HD : Hid (decide (([42] : Nm) ∈ ts) = true) := by have := MS.out rfl; unfold Hid; simpa using this
        go_wp2_with fail
        go_ret2
        have hnb : nb = false := by rw [NB.out, HD.out]; rfl
        have hnv : nv = [] := by rw [NV.out, hnb]; rfl
        exact ⟨.slice none 0 0, by rw [hnb]; rfl, by rw [hnv]; exact ownS_nil _ _ (bt' B1.out HO.out.2)⟩
      · have hne := ba_eqlC _ _ hs
        have hne2 : (x == [42]) = false := by simpa using hs
        have NS2 := hide' (NS.out hs)
        clear hs NS MS
        obtain ⟨oa, oc, ob, oo, hvo, hoc⟩ := holds_parts (holds_own HO.out)
        have HOC := hide' hoc
        rw [hvo]
        generalize uniqS (ts.take k) = o at HO UQ ul HOC ⊢
        obtain ⟨m, em⟩ : ∃ m, m = o.length := ⟨_, rfl⟩
        have M : Hid (o.length = m) := em.symm
        rw [M.out] at ul ⊢
        clear em hvo hoc
        have AB := hide' (fun W (h : Below w2.heap.size w2 W) => h.cell (p := ⟨b1, o1 + k, none⟩) (Nat.lt_of_lt_of_le hblt HO.out.2.size))
        have ck2 := hide' ck
        go_wp2_with fail
        go_loopw [7, 8, 9] (fun v pv i wr => ∃ (vn : Value) (j : Nat) (pt : Bool), vn = v ∧ pv = .bool pt ∧ j ≤ m ∧ i = .int .i64 j ∧ Hid (OwnS w2 vn (accU x (o.take j)) wr) ∧ Hid (putU x (o.take j) = pt)) (fun _ _ i _ => m - (intOf i).toNat)
        case atStart => exact ⟨_, 0, false, rfl, rfl, Nat.zero_le _, rfl, ownS_empty w2, rfl⟩
        case round =>
          obtain ⟨vn, j, pt, rfl, rfl, hj, rfl, O0, HP⟩ := hrel
          by_cases hjt : j < m
          · have G2 : Hid (j < o.length) := by unfold Hid; rw [M.out]; exact hjt
            obtain ⟨hoa, hobl, hocell⟩ := HOC.out (by have := G2.out; omega)
            subst hoa
            have HC : Hid (∀ W, Below w2.heap.size w2 W → W.cell? ⟨ob, oo + j, none⟩ = some (.string ⟨(o[j]'G2.out).toArray⟩) ∧ W.cell? ⟨b1, o1 + k, none⟩ = some (.string ⟨x.toArray⟩)) := by
              intro W hW
              have hbl : b1 < w2.heap.size := Nat.lt_of_lt_of_le hblt HO.out.2.size
              exact ⟨by rw [hW.cell (p := ⟨ob, oo + j, none⟩) hobl]; exact hocell j G2.out, by rw [hW.cell (p := ⟨b1, o1 + k, none⟩) hbl]; exact ck2.out⟩
            have T2 := hide' (List.take_succ_eq_append_getElem G2.out)
            have al := acc_len x (o.take j)
            have al2 : (o.take j).length ≤ j := List.length_take_le _ _
            obtain ⟨p0, q0⟩ := HC.out _ O0.out.2
            clear hocell
            have hj0 : (0 : Int) ≤ (j : Int) := by omega
            have hj1 : (j : Int) < (m : Int) := by omega
            have hk0 : (0 : Int) ≤ (k : Int) := by omega
            have hk1 : (k : Int) < (n : Int) := by omega
            generalize o[j]'G2.out = y at p0 HC T2
            cases pt with
            | true =>
              by_cases he : y = x
              · subst he
                have RA := hide' (show accU y (o.take (j + 1)) = accU y (o.take j) ++ [y] from by rw [T2.out]; exact acc_put y y _ HP.out)
                have RP := hide' (show putU y (o.take (j + 1)) = true from by rw [T2.out, put_snoc]; simp)
                clear T2
                generalize accU y (o.take j) = acc at O0 RA al
                go_wp2_with fail
                go_quiet (fail)
                have O1 := hide' (ownS_mono O0.out (below_drewN _ nq))
                obtain ⟨p1, q1⟩ := HC.out _ O1.out.2
                generalize World.drewN _ nq = W1 at O1 p1 q1 ⊢
                clear O0 p0 q0
                go_wp2_with fail
                go_quiet (fail)
                have O2 := hide' (ownS_mono O1.out (below_drewN _ nq))
                obtain ⟨p2, q2⟩ := HC.out _ O2.out.2
                generalize World.drewN _ nq = W2 at O2 p2 q2 ⊢
                clear O1 p1 q1
                go_wp2_with (first
                  | (at_builtin; refine appS rfl (.tmp 60) (.tmp 65) rfl w2 _ _ rfl O2.out y rfl rfl (by omega) ?_; intro v4 w4 ho4; have O4 := hide' ho4; clear O2 p2 q2 ho4))
                go_roundw
                case rel => exact ⟨_, j + 1, true, rfl, rfl, by omega, by go_num, by rw [RA.out]; exact O4, RP.out⟩
                case measure => simp [intOf]; omega
              · have hne := ba_eqlC _ _ he
                have hne2 : (y == x) = false := by simpa using he
                have RA := hide' (show accU x (o.take (j + 1)) = accU x (o.take j) ++ [y] from by rw [T2.out]; exact acc_put x y _ HP.out)
                have RP := hide' (show putU x (o.take (j + 1)) = true from by rw [T2.out, put_snoc]; rw [HP.out]; rfl)
                clear T2 he
                generalize accU x (o.take j) = acc at O0 RA al
                go_wp2_with fail
                go_quiet (fail)
                have O1 := hide' (ownS_mono O0.out (below_drewN _ nq))
                obtain ⟨p1, q1⟩ := HC.out _ O1.out.2
                generalize World.drewN _ nq = W1 at O1 p1 q1 ⊢
                clear O0 p0 q0
                go_wp2_with fail
                go_quiet (fail)
                have O2 := hide' (ownS_mono O1.out (below_drewN _ nq))
                obtain ⟨p2, q2⟩ := HC.out _ O2.out.2
                generalize World.drewN _ nq = W2 at O2 p2 q2 ⊢
                clear O1 p1 q1
                go_wp2_with (first
                  | (at_builtin; refine appS rfl (.tmp 60) (.tmp 65) rfl w2 _ _ rfl O2.out y rfl rfl (by omega) ?_; intro v4 w4 ho4; have O4 := hide' ho4; clear O2 p2 q2 ho4))
                go_roundw
                case rel => exact ⟨_, j + 1, true, rfl, rfl, by omega, by go_num, by rw [RA.out]; exact O4, RP.out⟩
                case measure => simp [intOf]; omega
            | false =>
              by_cases he : y = x
              · subst he
                have RA := hide' (show accU y (o.take (j + 1)) = accU y (o.take j) ++ [y] from by rw [T2.out]; exact acc_eq y _ HP.out)
                have RP := hide' (show putU y (o.take (j + 1)) = true from by rw [T2.out, put_snoc]; simp)
                clear T2
                generalize accU y (o.take j) = acc at O0 RA al
                go_wp2_with fail
                go_quiet (fail)
                have O1 := hide' (ownS_mono O0.out (below_drewN _ nq))
                obtain ⟨p1, q1⟩ := HC.out _ O1.out.2
                generalize World.drewN _ nq = W1 at O1 p1 q1 ⊢
                clear O0 p0 q0
                go_wp2_with fail
                go_quiet (fail)
                have O2 := hide' (ownS_mono O1.out (below_drewN _ nq))
                obtain ⟨p2, q2⟩ := HC.out _ O2.out.2
                generalize World.drewN _ nq = W2 at O2 p2 q2 ⊢
                clear O1 p1 q1
                go_wp2_with (first
                  | (at_builtin; refine appS rfl (.tmp 60) (.tmp 65) rfl w2 _ _ rfl O2.out y rfl rfl (by omega) ?_; intro v4 w4 ho4; have O4 := hide' ho4; clear O2 p2 q2 ho4))
                go_roundw
                case rel => exact ⟨_, j + 1, true, rfl, rfl, by omega, by go_num, by rw [RA.out]; exact O4, RP.out⟩
                case measure => simp [intOf]; omega
              · have hne := ba_eqlC _ _ he
                have hne2 : (y == x) = false := by simpa using he
                by_cases hl2 : lessN x y = true
                · have hg : Op.bytesLess (⟨y.toArray⟩ : ByteArray).toList (⟨x.toArray⟩ : ByteArray).toList = false := by rw [Lib.toList_data, Lib.toList_data]; exact less_asymm _ _ hl2
                  have RA := hide' (show accU x (o.take (j + 1)) = (accU x (o.take j) ++ [x]) ++ [y] from by rw [T2.out]; exact acc_less x y _ HP.out he hl2)
                  have RP := hide' (show putU x (o.take (j + 1)) = true from by rw [T2.out, put_snoc]; rw [HP.out, hl2]; simp)
                  have hr : ∀ W, Sem.run Tryd.prog (binOp .gtr 9 (.string ⟨y.toArray⟩) (.string ⟨x.toArray⟩)) W = .ok (.bool true) W := fun W => by
                    show Result.ok (Value.bool (!(Op.bytesLess (⟨y.toArray⟩ : ByteArray).toList (⟨x.toArray⟩ : ByteArray).toList || (⟨y.toArray⟩ : ByteArray).toList == (⟨x.toArray⟩ : ByteArray).toList))) W = _
                    rw [hg, hne]; rfl
                  clear hg
                  clear T2 he hl2
                  generalize accU x (o.take j) = acc at O0 RA al
                  go_wp2_with fail
                  go_quiet (fail)
                  have O1 := hide' (ownS_mono O0.out (below_drewN _ nq))
                  obtain ⟨p1, q1⟩ := HC.out _ O1.out.2
                  generalize World.drewN _ nq = W1 at O1 p1 q1 ⊢
                  clear O0 p0 q0
                  go_wp2_with fail
                  go_quiet (fail)
                  have O2 := hide' (ownS_mono O1.out (below_drewN _ nq))
                  obtain ⟨p2, q2⟩ := HC.out _ O2.out.2
                  generalize World.drewN _ nq = W2 at O2 p2 q2 ⊢
                  clear O1 p1 q1
                  go_wp2_with (first
                    | (at_builtin; refine appS rfl (.tmp 53) (.tmp 58) rfl w2 _ _ rfl O2.out x rfl rfl (by omega) ?_; intro v3 w3 ho3; have O3 := hide' ho3; obtain ⟨p3, q3⟩ := HC.out _ ho3.2; clear O2 p2 q2 ho3)
                    | (at_builtin; refine appS rfl (.tmp 60) (.tmp 65) rfl w2 _ _ rfl O3.out y rfl rfl (by rw [List.length_append]; simp only [List.length_cons, List.length_nil]; omega) ?_; intro v4 w4 ho4; have O4 := hide' ho4; clear O3 p3 q3 ho4))
                  go_roundw
                  case rel => exact ⟨_, j + 1, true, rfl, rfl, by omega, by go_num, by rw [RA.out]; exact O4, RP.out⟩
                  case measure => simp [intOf]; omega
                · have hl3 : lessN x y = false := by simpa using hl2
                  have hg : Op.bytesLess (⟨y.toArray⟩ : ByteArray).toList (⟨x.toArray⟩ : ByteArray).toList = true := by
                    rw [Lib.toList_data, Lib.toList_data]
                    rcases less_total y x with h | h | h
                    · exact absurd h he
                    · exact h
                    · exact absurd h hl2
                  have RA := hide' (show accU x (o.take (j + 1)) = accU x (o.take j) ++ [y] from by rw [T2.out]; exact acc_more x y _ HP.out he hl3)
                  have RP := hide' (show putU x (o.take (j + 1)) = false from by rw [T2.out, put_snoc]; rw [HP.out, hl3]; simpa using he)
                  have hr : ∀ W, Sem.run Tryd.prog (binOp .gtr 9 (.string ⟨y.toArray⟩) (.string ⟨x.toArray⟩)) W = .ok (.bool false) W := fun W => by
                    show Result.ok (Value.bool (!(Op.bytesLess (⟨y.toArray⟩ : ByteArray).toList (⟨x.toArray⟩ : ByteArray).toList || (⟨y.toArray⟩ : ByteArray).toList == (⟨x.toArray⟩ : ByteArray).toList))) W = _
                    rw [hg, hne]; rfl
                  clear hg
                  clear T2 he hl2 hl3
                  generalize accU x (o.take j) = acc at O0 RA al
                  go_wp2_with fail
                  go_quiet (fail)
                  have O1 := hide' (ownS_mono O0.out (below_drewN _ nq))
                  obtain ⟨p1, q1⟩ := HC.out _ O1.out.2
                  generalize World.drewN _ nq = W1 at O1 p1 q1 ⊢
                  clear O0 p0 q0
                  go_wp2_with fail
                  go_quiet (fail)
                  have O2 := hide' (ownS_mono O1.out (below_drewN _ nq))
                  obtain ⟨p2, q2⟩ := HC.out _ O2.out.2
                  generalize World.drewN _ nq = W2 at O2 p2 q2 ⊢
                  clear O1 p1 q1
                  go_wp2_with (first
                    | (at_builtin; refine appS rfl (.tmp 60) (.tmp 65) rfl w2 _ _ rfl O2.out y rfl rfl (by omega) ?_; intro v4 w4 ho4; have O4 := hide' ho4; clear O2 p2 q2 ho4))
                  go_roundw
                  case rel => exact ⟨_, j + 1, false, rfl, rfl, by omega, by go_num, by rw [RA.out]; exact O4, RP.out⟩
                  case measure => simp [intOf]; omega
          · have E2 : Hid (o.take j = o) := List.take_of_length_le (by rw [M.out]; omega)
            have al := acc_len x (o.take j)
            have al2 : (o.take j).length ≤ j := List.length_take_le _ _
            have ck3 : wr.cell? ⟨b1, o1 + k, none⟩ = some (.string ⟨x.toArray⟩) := (AB.out wr O0.out.2).trans ck2.out
            cases pt with
            | true =>
              have UE := hide' (show insU x o = accU x (o.take j) from by have := HP.out; rw [E2.out] at this ⊢; exact acc_end x o this)
              go_wp2_with fail
              go_roundw
              case rel => exact ⟨_, k + 1, rfl, by omega, by go_num, NS2.out, by unfold Hid; rw [UQ.out, UE.out]; exact ownS_base O0.out HO.out.2⟩
              case measure => simp [intOf]; omega
            | false =>
              have UE := hide' (show insU x o = accU x (o.take j) ++ [x] from by have := HP.out; rw [E2.out] at this ⊢; exact acc_end2 x o this)
              go_wp2_with (first
                | (at_builtin; refine appS rfl (.tmp 69) (.tmp 74) rfl w2 _ _ rfl O0.out x rfl rfl (by omega) ?_; intro v4 w4 ho4; have O4 := hide' ho4; clear ho4))
              go_roundw
              case rel => exact ⟨_, k + 1, rfl, by omega, by go_num, NS2.out, by unfold Hid; rw [UQ.out, UE.out]; exact ownS_base O4.out HO.out.2⟩
              case measure => simp [intOf]; omega
    · have E : Hid (ts.take k = ts) := List.take_of_length_le (by rw [N.out]; omega)
      have HD : Hid (decide (([42] : Nm) ∈ ts) = false) := by have := HS.out; rw [E.out] at this; unfold Hid; simpa using this
      rw [E.out] at HO
      obtain ⟨oa, oc, ob, oo, hvo, hoc⟩ := holds_parts (holds_own HO.out)
      rw [hvo] at HO ⊢
      clear hoc hvo
      go_wp2_with fail
      go_ret2
      have hnb : nb = true := by rw [NB.out, HD.out]; rfl
      have hnv : nv = uniqS ts := by rw [NV.out, hnb]; rfl
      exact ⟨_, by rw [hnb]; rfl, by rw [hnv]; exact ownS_base HO.out B1.out⟩
end Go.Proofs.YtmibgcbolnpffabDoor
