/- The walk of LruBounds. -/
import Derived.Test.YtikkmnclcbanfaaLrX
namespace Go.Proofs.Ytikkmnclcbanfaa
open Go.RowKit Go.Maps Go.WideMaps
theorem tbq_more {w W : World} {g c c' : Nat} {room : Int} {l lr : IL} {q : List Nat} {rv : Value} (h : TbQ w g room l c q rv lr W) (hc : c ≤ c') : TbQ w g room l c' q rv lr W := by
  obtain ⟨U, ⟨m, rb, ns, nl, O, N, k1, k2, k3, k4, k5, k6⟩, h2, h3, h4, h5⟩ := h
  exact ⟨U, ⟨m, rb, ns, nl, O, N, k1, k2, by omega, by omega, k5, k6⟩, h2, h3, h4, h5⟩
theorem get_first (l : IL) (k : Nm) : ∃ (v0 : Int) (fb : Bool), peekI l k = .tuple #[.int .i64 v0, .bool fb] ∧ (fb = true → ∃ t, keysT (getT l k) = k :: t) := by
  unfold peekI getT
  cases h : findT l k with
  | none => exact ⟨0, false, rfl, fun e => by cases e⟩
  | some x => exact ⟨x.v, true, rfl, fun _ => ⟨keysT (withT l k), by show x.key :: _ = _; rw [(find_some h).2]; rfl⟩⟩
theorem put_first (room : Int) (l : IL) (x : ItI) (h : putOk room x.size = true) : ∃ t, keysT (putT room l x) = x.key :: t := by
  unfold putT
  rw [h]
  exact ⟨_, rfl⟩
theorem keys_len (l : IL) : (keysT l).length = l.length := by unfold keysT; rw [List.length_map]
theorem tbq_len {w W : World} {g c : Nat} {room : Int} {l lr : IL} {q : List Nat} {rv : Value} (h : TbQ w g room l c q rv lr W) : l.length ≤ c := by
  obtain ⟨U, ⟨m, rb, ns, nl, O, N, k1, k2, k3, k4, k5, k6⟩, _⟩ := h
  exact k4
/-- what stands among the keys is found -/
theorem find_key {l : IL} {j : Nat} {k : Nm} (h : (keysT l)[j]? = some k) : ∃ v0, peekI l k = .tuple #[.int .i64 v0, .bool true] := by
  unfold peekI
  cases e : findT l k with
  | none => exact absurd (List.mem_of_getElem? h) (find_none e)
  | some x => exact ⟨x.v, rfl⟩
theorem holdsK_at {w : World} {v : Value} {ps : KL} (h : HoldsK w v ps) : ∃ a cap, v = .slice a ps.length cap ∧ ∀ j (hj : j < ps.length), ∃ b off, a = some ⟨b, off, none⟩ ∧ b < w.heap.size ∧ KAt w b (off + j * 4) ps[j] := by
  obtain ⟨ao, cap, rfl, h0, hcp, hc⟩ := h
  refine ⟨ao, cap, rfl, fun j hj => ?_⟩
  obtain ⟨b, off, rfl, hlt, hcell⟩ := hc (fun e => by rw [e] at hj; simp at hj)
  exact ⟨b, off, rfl, hlt, hcell j hj⟩
theorem holds_at {w : World} {v : Value} {ss : List Nm} (h : Holds w v ss) : ∃ a cap, v = .slice a ss.length cap ∧ ∀ j (hj : j < ss.length), ∃ b off, a = some ⟨b, off, none⟩ ∧ b < w.heap.size ∧ w.cell? ⟨b, off + j, none⟩ = some (.string ⟨ss[j].toArray⟩) := by
  obtain ⟨ao, cap, rfl, hc⟩ := h
  refine ⟨ao, cap, rfl, fun j hj => ?_⟩
  obtain ⟨b, off, rfl, hlt, hcell⟩ := hc (fun e => by rw [e] at hj; simp at hj)
  exact ⟨b, off, rfl, hlt, hcell j hj⟩
set_option maxRecDepth 20000 in
set_option maxHeartbeats 8000000 in
theorem boundsC (room : Int) (v : Value) (os : KL) (w : World) (h : HoldsK w v os) (hl : ∀ o ∈ os, o.key.length ≤ 140737488351232) (hn : os.length * 40 ≤ 140737488351232) :
    Calls Try.prog 5 #[.int .i64 room, v] w fun e w' => e = .returned (.bool true) ∧ Below w.heap.size w w' := by
  have CA := hide' (aliveC w)
  have HK := hide' h
  have HLN := hide' hl
  have hn2 : os.length ≤ 9000000000000000000 := by omega
  clear h hl
  go_enter Try.func5, Try.ntmps5
  go_wp2_with fail
  refine CA.out.mono ?_
  rintro e w1 ⟨rfl, b1⟩
  have CN := hide' (newQ w w1 room b1)
  clear b1 CA
  go_wp2_with fail
  refine CN.out.mono ?_
  rintro e w2 ⟨g, rfl, t2, b2⟩
  obtain ⟨rm, hrm⟩ : ∃ rm, rm = min (max room 0) 1073741824 := ⟨_, rfl⟩
  rw [← hrm] at t2
  have HRM := hide' hrm
  have T2 := hide' t2
  have CC := hide' (cutC v os w w2 HK.out hn2)
  clear t2 b2 CN hrm
  go_wp2_with fail
  refine CC.out.mono ?_
  rintro e w3 ⟨v', rfl, h3, ew⟩
  rw [ew]
  clear ew w3 CC
  obtain ⟨n, hN⟩ : ∃ n, n = (os.take 300).length := ⟨_, rfl⟩
  have hn3 : n ≤ 300 := by rw [hN, List.length_take]; omega
  have HL3 : Hid (∀ j (hj : j < (os.take 300).length), ((os.take 300)[j]).key.length ≤ 140737488351232) := fun j hj => HLN.out _ (List.mem_of_mem_take (List.getElem_mem hj))
  obtain ⟨a3, c3, rfl, hat⟩ := holdsK_at h3
  have HAT := hide' hat
  have HN := hide' hN
  rw [← hN]
  clear h3 hat hN hn
  generalize os.take 300 = os3 at *
  go_wp2_with fail
  go_loopw [6, 7, 8, 9, 10, 11, 12] (fun iv _ _ _ _ _ _ wr => ∃ (i : Nat) (l : IL), i ≤ n ∧ iv = .int .i64 i ∧ Hid (TbQ w g rm l i [] (.slice none 0 0) [] wr)) (fun iv _ _ _ _ _ _ _ => n - (intOf iv).toNat)
  case atStart => exact ⟨0, [], by omega, rfl, T2⟩
  case round =>
    obtain ⟨i, l, hi, rfl, HT⟩ := hrel
    by_cases hlt : i < n
    · have hil : i < os3.length := by rw [← HN.out]; exact hlt
      obtain ⟨b, off, rfl, hb, e0, e1, e2, e3⟩ := HAT.out i hil
      have KP : ∀ o, wr.cell? ⟨b, o, none⟩ = w.cell? ⟨b, o, none⟩ := fun o => (tbq_bel HT.out).cell (p := ⟨b, o, none⟩) hb
      rw [← KP] at e0 e1 e2 e3
      have hkl := HL3.out i hil
      obtain ⟨op, hop⟩ : ∃ op, op = os3[i] := ⟨_, rfl⟩
      rw [← hop] at e0 e1 e2 e3 hkl
      obtain ⟨wt, key, ov, sz⟩ := op
      simp only at e0 e1 e2 e3 hkl
      obtain ⟨kb, hkb⟩ : ∃ kb : ByteArray, kb = ⟨key.toArray⟩ := ⟨_, rfl⟩
      have HKB := hide' hkb
      have hks : kb.size ≤ 140737488351232 := by rw [hkb, size_l]; exact hkl
      have HKD : Hid (kb.data.toList = key) := by unfold Hid; rw [hkb]
      rw [← hkb] at e1
      have bN := below_alloc' wr (.cells #[.int .i64 wt, .string kb, .int .i64 ov, .int .i64 sz] 32)
      have T1 := hide' (tbq_new (b := wr.heap.size) HT.out bN (Nat.le_refl _) (by simp))
      have K1 := hide' (cells_lit wr #[.int .i64 wt, .string kb, .int .i64 ov, .int .i64 sz] 32)
      obtain ⟨bo, hbo⟩ : ∃ bo, bo = wr.heap.size := ⟨_, rfl⟩
      have HBO := hide' hbo
      rw [← hbo] at T1 K1
      clear KP hkl hop hkb bN hbo
      by_cases hw : wt = 2
      case' pos =>
        subst hw
        have CG := hide' (getQ T1.out kb hks)
        obtain ⟨v0, fb, e5, hfb⟩ := get_first l key
        rw [HKD.out, e5] at CG
        clear e5
        go_wp2_with fail
        rw [← HBO.out]
        refine CG.out.mono ?_
        rintro e w4 ⟨rfl, t4, k4, z4⟩
        have B4 := hide' (keepQ_blk K1.out k4 (by simp) z4)
        obtain ⟨l2, hl2⟩ : ∃ l2, l2 = getT l key := ⟨_, rfl⟩
        rw [← hl2] at t4 hfb
        have T4 := hide' (tbq_more t4 (Nat.le_succ i))
        have FB := hide' hfb
        have HL2 : Hid (l2 = l2) := rfl
        clear CG t4 k4 z4 hl2 hfb
        go_wp2_with fail
      case' neg =>
        have CP := hide' (putQ T1.out (by omega) ⟨key, ov, sz⟩ kb HKD.out.symm hks)
        have hfb := put_first rm l ⟨key, ov, sz⟩
        obtain ⟨fb, hfbe⟩ : ∃ fb, fb = putOk rm sz := ⟨_, rfl⟩
        simp only at CP hfb
        rw [← hfbe] at CP hfb
        have q : (wt == 2) = false := by simpa using hw
        clear hfbe hw
        go_wp2_with fail
        rw [← HBO.out]
        refine CP.out.mono ?_
        rintro e w4 ⟨gv, rfl, _, t4, k4, z4⟩
        have B4 := hide' (keepQ_blk K1.out k4 (by simp) z4)
        obtain ⟨l2, hl2⟩ : ∃ l2, l2 = putT rm l ⟨key, ov, sz⟩ := ⟨_, rfl⟩
        rw [← hl2] at t4 hfb
        have T4 := hide' (tbq_sub t4 (q' := [bo]) (fun k hk => by simp at hk; simp [hk]))
        have FB := hide' hfb
        have HL2 : Hid (l2 = l2) := rfl
        clear CP t4 k4 z4 hl2 hfb
        go_wp2_with fail
      all_goals
        have CK := hide' (keysQ T4.out (by omega))
        refine CK.out.mono ?_
        rintro e w5 ⟨kv, rfl, o5⟩
        have T5 := hide' (tbq_below T4.out o5.2)
        have b5 := cells_below B4.out o5.2
        have d1 : w5.cell? ⟨bo, 1, none⟩ = some (.string kb) := (b5.1 1 (by simp)).1
        obtain ⟨ka, kc, rfl, hkat⟩ := holds_at (holds_own o5)
        have HKAT := hide' hkat
        obtain ⟨nk, hnk⟩ : ∃ nk, nk = (keysT l2).length := ⟨_, rfl⟩
        have hnk3 : nk ≤ 1000 := by rw [hnk, keys_len]; have := tbq_len T5.out; omega
        have HNK := hide' hnk
        rw [← hnk]
        have hok := tbq_ok T5.out
        have HOK := hide' hok
        have hu0 := used_pos hok.pos
        have hu1 := hok.fit
        have CU : Hid (∀ m, Calls Try.prog 21 #[.pointer (some ⟨g, 0, none⟩)] (w5.drewN m) fun e w' => e = .returned (.int .i64 (usedT l2)) ∧ w' = w5.drewN m) := fun m => usedQ (tbq_below T5.out (below_drewN w5 m))
        generalize usedT l2 = u at *
        have qu0 : decide (u < 0) = false := by rw [decide_eq_false_iff_not]; omega
        have qu1 : 0 < u → decide (room < u) = false := fun h => by rw [decide_eq_false_iff_not]; have := HRM.out; omega
        obtain ⟨b6, o6, KEYS⟩ : ∃ b6 o6, ∀ j (hj : j < nk), ka = some ⟨b6, o6, none⟩ ∧ b6 < w5.heap.size ∧ w5.cell? ⟨b6, o6 + j, none⟩ = some (.string ⟨((keysT l2)[j]'(by rw [← HNK.out]; exact hj)).toArray⟩) := by
          by_cases h0 : 0 < nk
          · obtain ⟨b, off, q1, q2, _⟩ := HKAT.out 0 (by rw [← HNK.out]; exact h0)
            refine ⟨b, off, fun j hj => ?_⟩
            obtain ⟨b', off', r1, r2, r3⟩ := HKAT.out j (by rw [← HNK.out]; exact hj)
            rw [q1] at r1
            cases r1
            exact ⟨q1, q2, r3⟩
          · exact ⟨0, 0, fun j hj => absurd hj (by omega)⟩
        have HKEYS := hide' KEYS
        have GO : Hid (fb = true → 0 < nk ∧ ka = some ⟨b6, o6, none⟩ ∧ b6 < w5.heap.size ∧ w5.cell? ⟨b6, o6, none⟩ = some (.string kb)) := fun e => by
          obtain ⟨t, ht⟩ := FB.out e
          have hp : 0 < nk := by rw [HNK.out, ht]; simp
          obtain ⟨q1, q2, q3⟩ := HKEYS.out 0 hp
          refine ⟨hp, q1, q2, ?_⟩
          rw [Nat.add_zero] at q3
          rw [q3, HKB.out]
          simp only [ht]
          rfl
        clear hkat o5 b5 hok CK hnk KEYS
        by_cases hu : u = 0
        case' pos =>
          subst hu
          clear qu1
          cases fb
          case' false =>
            go_wp2_with fail
            go_quiet (first | (go_at_call 21; exact Calls.quiet_of_same (CU.out _)))
          case' true =>
            obtain ⟨hp, rfl, hb6, x6⟩ := GO.out rfl
            have qp : ((nk : Int) == 0) = false := by simp; omega
            go_wp2_with fail
            go_quiet (first | (go_at_call 21; exact Calls.quiet_of_same (CU.out _)))
        case' neg =>
          have qu2 : decide (0 < u) = true := by rw [decide_eq_true_iff]; omega
          have qu3 := qu1 (by omega)
          clear qu1 hu
          cases fb
          case' false =>
            go_wp2_with fail
            go_quiet (first | (go_at_call 21; exact Calls.quiet_of_same (CU.out _)))
          case' true =>
            obtain ⟨hp, rfl, hb6, x6⟩ := GO.out rfl
            have qp : ((nk : Int) == 0) = false := by simp; omega
            go_wp2_with fail
            go_quiet (first | (go_at_call 21; exact Calls.quiet_of_same (CU.out _)))
        all_goals
          go_wp2_with fail
          have HB0 := hide' (below_drewN w5 nq)
          clear HT HBO K1 T1 e0 e1 e2 e3 d1 T4 B4
          go_loopw [10, 11, 12] (fun av _ _ wz => ∃ j : Nat, j ≤ nk ∧ av = .int .i64 j ∧ Hid (Below w5.heap.size w5 wz)) (fun av _ _ _ => nk - (intOf av).toNat)
          case atStart => exact ⟨0, by omega, rfl, HB0⟩
          case round =>
            obtain ⟨j, hj, rfl, HB⟩ := hrel
            by_cases hjl : j < nk
            · obtain ⟨hka, hb7, x7⟩ := HKEYS.out j hjl
              try subst hka
              have HJ : Hid (j < (keysT l2).length) := by unfold Hid; rw [← HNK.out]; exact hjl
              have HG : Hid ((keysT l2)[j]? = some ((keysT l2)[j]'HJ.out)) := List.getElem?_eq_getElem HJ.out
              have x8 : wr.cell? ⟨b6, o6 + j, none⟩ = some (.string ⟨((keysT l2)[j]'HJ.out).toArray⟩) := by rw [HB.out.cell (p := ⟨b6, o6 + j, none⟩) hb7]; exact x7
              obtain ⟨kj, hkj⟩ : ∃ kj, kj = (keysT l2)[j]'HJ.out := ⟨_, rfl⟩
              rw [← hkj] at x8 HG
              have hkjl : kj.length ≤ 140737488351232 := by
                obtain ⟨y, hy, e⟩ := List.mem_map.1 (List.mem_of_getElem? HG.out)
                rw [← e]; exact HOK.out.len y hy
              obtain ⟨yb, hyb⟩ : ∃ yb : ByteArray, yb = ⟨kj.toArray⟩ := ⟨_, rfl⟩
              have hys : yb.size ≤ 140737488351232 := by rw [hyb, size_l]; exact hkjl
              have CP2 := hide' (peekQ (tbq_below T5.out HB.out) yb hys)
              obtain ⟨v9, e9⟩ := find_key HG.out
              rw [show yb.data.toList = kj by rw [hyb], e9] at CP2
              rw [← hyb] at x8
              have HYB := hide' hyb
              clear e9 hyb hkjl x7
              cases j with
              | zero =>
                rw [Nat.add_zero] at x8
                clear hkj
                go_wp2_with (go_at_call 18; refine CP2.out.mono ?_; rintro e w9 ⟨rfl, ew⟩; rw [ew]; clear ew w9)
                go_quiet (fail)
                have HB2 := hide' (below_drawn HB.out nq)
                go_wp2_with fail
                go_roundw
                case rel => exact ⟨1, by omega, by go_num, HB2⟩
                case measure => simp [intOf]; omega
              | succ j =>
                obtain ⟨-, -, z8⟩ := HKEYS.out j (by omega)
                have HJ2 : Hid (j < (keysT l2).length) := by unfold Hid; rw [← HNK.out]; omega
                have y8 : wr.cell? ⟨b6, o6 + j, none⟩ = some (.string ⟨((keysT l2)[j]'HJ2.out).toArray⟩) := by rw [HB.out.cell (p := ⟨b6, o6 + j, none⟩) hb7]; exact z8
                have hne := str_ne (a := kj) (b := (keysT l2)[j]'HJ2.out) (fun e => by
                  rw [hkj] at e
                  exact List.pairwise_iff_getElem.1 HOK.out.once j (j + 1) HJ2.out HJ.out (Nat.lt_succ_self j) e.symm)
                rw [← HYB.out] at hne
                generalize (⟨((keysT l2)[j]'HJ2.out).toArray⟩ : ByteArray) = zb at y8 hne
                clear hkj z8
                go_wp2_with (go_at_call 18; refine CP2.out.mono ?_; rintro e w9 ⟨rfl, ew⟩; rw [ew]; clear ew w9)
                go_quiet (fail)
                have HB2 := hide' (below_drawn HB.out nq)
                go_wp2_with fail
                go_roundw
                case rel => exact ⟨j + 1 + 1, by omega, by go_num, HB2⟩
                case measure => simp [intOf]; omega
            · have T6 := hide' (tbq_sub (tbq_below T5.out HB.out) (q' := []) (fun k hk => by cases hk))
              go_wp2_with fail
              go_roundw
              case rel => exact ⟨i + 1, l2, by omega, by go_num, T6⟩
              case measure => simp [intOf]; omega
    · go_wp2_with fail
      go_ret
      exact ⟨rfl, tbq_bel HT.out⟩
end Go.Proofs.Ytikkmnclcbanfaa
