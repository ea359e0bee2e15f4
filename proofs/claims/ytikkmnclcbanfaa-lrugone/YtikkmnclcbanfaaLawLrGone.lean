/- The walk of LruGone. -/
import Derived.Test.YtikkmnclcbanfaaLrY
import Derived.Deep.RegionHeld3
namespace Go.Proofs.Ytikkmnclcbanfaa
open Go.RowKit Go.Maps Go.WideMaps
/-- what neither is the key nor went -/
def restF (k : Nm) (G : List Nm) (l : List Nm) : List Nm := l.filter (fun x => !(decide (x = k) || decide (x ∈ G)))
theorem filter_cut {A B : List Nm} (h : (A ++ B).Nodup) : (A ++ B).filter (fun x => !decide (x ∈ B)) = A := by
  rw [List.filter_append]
  have h1 := (List.nodup_append.1 h).2.2
  have e1 : A.filter (fun x => !decide (x ∈ B)) = A := by
    rw [List.filter_eq_self]
    intro x hx
    simp only [Bool.not_eq_true', decide_eq_false_iff_not]
    exact fun hb => h1 x hx x hb rfl
  have e2 : B.filter (fun x => !decide (x ∈ B)) = [] := by
    rw [List.filter_eq_nil_iff]
    intro x hx
    simp [hx]
  rw [e1, e2, List.append_nil]
theorem gone_mem {l : IL} {m : Nat} {x : Nm} : x ∈ goneT l m ↔ x ∈ keysT (l.drop m) := by
  unfold goneT keysT
  rw [List.map_reverse, List.mem_reverse]
theorem rest_eq {l : IL} (ho : (keysT l).Nodup) (k : Nm) (m : Nat) : restF k (goneT (withT l k) m) (keysT l) = keysT ((withT l k).take m) := by
  have e1 : restF k (goneT (withT l k) m) (keysT l) = (keysT (withT l k)).filter (fun x => !decide (x ∈ keysT ((withT l k).drop m))) := by
    unfold restF keysT withT
    rw [List.filter_map, List.filter_map, List.filter_filter]
    congr 1
    apply List.filter_congr
    intro x _
    simp only [Function.comp]
    have : decide (x.key ∈ goneT (List.filter (fun x => decide (x.key ≠ k)) l) m) = decide (x.key ∈ List.map (fun x => x.key) (List.drop m (List.filter (fun x => decide (x.key ≠ k)) l))) := by
      apply decide_eq_decide.2
      exact gone_mem
    rw [this]
    by_cases hx : x.key = k <;> simp [hx]
  rw [e1]
  have hn : (keysT (withT l k)).Nodup := ho.sublist ((with_sub l k).map _)
  have e2 : keysT (withT l k) = keysT ((withT l k).take m) ++ keysT ((withT l k).drop m) := by
    unfold keysT
    rw [← List.map_append, List.take_append_drop]
  rw [e2] at hn ⊢
  exact filter_cut hn
theorem gone_key (l : IL) (k : Nm) (m : Nat) : k ∉ goneT (withT l k) m := fun h => by
  rw [gone_mem] at h
  obtain ⟨x, hx, e⟩ := List.mem_map.1 h
  exact with_key l k (List.mem_map.2 ⟨x, List.mem_of_mem_drop hx, e⟩)
theorem restF_step {k : Nm} {G l : List Nm} {i : Nat} (hi : i < l.length) : ((decide (l[i] = k) || decide (l[i] ∈ G)) = true → restF k G (l.take (i + 1)) = restF k G (l.take i)) ∧ ((decide (l[i] = k) || decide (l[i] ∈ G)) = false → restF k G (l.take (i + 1)) = restF k G (l.take i) ++ [l[i]]) := by
  unfold restF
  rw [List.take_succ_eq_append_getElem hi, List.filter_append]
  constructor
  · intro h; rw [List.filter_cons, h]; simp
  · intro h; rw [List.filter_cons, h]; simp
theorem mem_take_step {x : Nm} {G : List Nm} {j : Nat} (hj : j < G.length) : decide (x ∈ G.take (j + 1)) = (decide (x ∈ G.take j) || decide (G[j] = x)) := by
  rw [List.take_succ_eq_append_getElem hj, ← Bool.decide_or]
  apply decide_eq_decide.2
  rw [List.mem_append, List.mem_singleton]
  exact or_congr Iff.rfl eq_comm
set_option maxRecDepth 20000 in
set_option maxHeartbeats 8000000 in
theorem goneC (room : Int) (v : Value) (os : KL) (o : KOp) (w : World) (h : HoldsK w v os) (hl : ∀ o ∈ os, o.key.length ≤ 140737488351232) (hn : os.length * 40 ≤ 140737488351232) (hol : o.key.length ≤ 140737488351232) :
    Calls Try.prog 6 #[.int .i64 room, v, kV o] w fun e w' => e = .returned (.bool true) ∧ Below w.heap.size w w' := by
  obtain ⟨wt, key, ov, sz⟩ := o
  unfold kV
  simp only at hol ⊢
  obtain ⟨kb, hkb⟩ : ∃ kb : ByteArray, kb = ⟨key.toArray⟩ := ⟨_, rfl⟩
  have HKB := hide' hkb
  have hks : kb.size ≤ 140737488351232 := by rw [hkb, size_l]; exact hol
  have HKD : Hid (kb.data.toList = key) := by unfold Hid; rw [hkb]
  rw [← hkb]
  have b0 := below_alloc' w (.cells #[.int .i64 wt, .string kb, .int .i64 ov, .int .i64 sz] 32)
  have k0 := cells_lit w #[.int .i64 wt, .string kb, .int .i64 ov, .int .i64 sz] 32
  obtain ⟨w0, hw0⟩ : ∃ w0, w0 = w.alloc (.cells #[.int .i64 wt, .string kb, .int .i64 ov, .int .i64 sz] 32) := ⟨_, rfl⟩
  have HW0 := hide' hw0
  rw [← hw0] at b0 k0
  have B0 := hide' b0
  have K0 := hide' k0
  have CA := hide' (aliveC w0)
  have HK := hide' h
  have HLN := hide' hl
  have hn2 : os.length ≤ 9000000000000000000 := by omega
  obtain ⟨bl, hbl⟩ : ∃ bl, bl = w.heap.size := ⟨_, rfl⟩
  have HBL := hide' hbl
  rw [← hbl] at K0
  clear h hl hkb hol b0 k0 hw0 hbl
  go_enter Try.func6, Try.ntmps6
  go_wp2_with fail
  rw [← HW0.out, ← HBL.out]
  refine CA.out.mono ?_
  rintro e w1 ⟨rfl, b1⟩
  have B1 := hide' (B0.out.trans (b1.mono B0.out.size))
  have K1 := hide' (cells_below K0.out b1)
  have CN := hide' (newQ w w1 room B1.out [bl] (fun k hk => by rw [List.mem_singleton.1 hk]; exact ⟨by rw [HBL.out]; exact Nat.le_refl _, K1.out.2⟩))
  clear b1 CA
  go_wp2_with fail
  refine CN.out.mono ?_
  rintro e w2 ⟨g, rfl, t2, b2⟩
  obtain ⟨rm, hrm⟩ : ∃ rm, rm = min (max room 0) 1073741824 := ⟨_, rfl⟩
  rw [← hrm] at t2
  have HRM := hide' hrm
  have T2 := hide' t2
  have K2 := hide' (cells_below K1.out b2)
  have CC := hide' (cutC v os w w2 HK.out hn2)
  clear t2 b2 CN hrm
  go_wp2_with fail
  refine CC.out.mono ?_
  rintro e w3 ⟨v', rfl, h3, ew⟩
  rw [ew]
  clear ew w3 CC
  obtain ⟨n, hN⟩ : ∃ n, n = (os.take 300).length := ⟨_, rfl⟩
  have hn3 : n ≤ 300 := by rw [hN, List.length_take]; omega
  have HL3 : Hid (∀ j (hj : j < (os.take 300).length), ((os.take 300)[j]).key.length ≤ 140737488351232) := fun j hj => HLN.out _ (List.mem_of_mem_take (List.getElem_mem hj))
  obtain ⟨a3, c3, rfl, hat⟩ := holdsK_at h3
  have HAT := hide' hat
  have HN := hide' hN
  rw [← hN]
  clear h3 hat hN hn
  generalize os.take 300 = os3 at *
  go_wp2_with fail
  go_loopw [8] (fun iv wr => ∃ (i : Nat) (l : IL), i ≤ n ∧ iv = .int .i64 i ∧ Hid (TbQ w g rm l i [bl] (.slice none 0 0) [] wr) ∧ Hid (Blk bl wr [.int .i64 wt, .string kb, .int .i64 ov, .int .i64 sz])) (fun iv _ => n - (intOf iv).toNat)
  case atStart => exact ⟨0, [], by omega, rfl, T2, K2⟩
  case round =>
    obtain ⟨i, l, hi, rfl, HT, HBK⟩ := hrel
    by_cases hlt : i < n
    · have hil : i < os3.length := by rw [← HN.out]; exact hlt
      obtain ⟨b, off, rfl, hb, e0, e1, e2, e3⟩ := HAT.out i hil
      have hkl := HL3.out i hil
      obtain ⟨op, hop⟩ : ∃ op, op = os3[i] := ⟨_, rfl⟩
      rw [← hop] at e0 e1 e2 e3 hkl
      obtain ⟨wt1, key1, ov1, sz1⟩ := op
      simp only at e0 e1 e2 e3 hkl
      obtain ⟨kb1, hkb1⟩ : ∃ kb : ByteArray, kb = ⟨key1.toArray⟩ := ⟨_, rfl⟩
      have hks1 : kb1.size ≤ 140737488351232 := by rw [hkb1, size_l]; exact hkl
      have HKD1 : Hid (kb1.data.toList = key1) := by unfold Hid; rw [hkb1]
      rw [← hkb1] at e1
      have CELLS : Hid (∀ W, Below w.heap.size w W → W.cell? ⟨b, off + i * 4 + 1, none⟩ = some (.string kb1) ∧ W.cell? ⟨b, off + i * 4 + 2, none⟩ = some (.int .i64 ov1) ∧ W.cell? ⟨b, off + i * 4 + 3, none⟩ = some (.int .i64 sz1)) := fun W hW => ⟨by rw [hW.cell (p := ⟨b, _, none⟩) hb]; exact e1, by rw [hW.cell (p := ⟨b, _, none⟩) hb]; exact e2, by rw [hW.cell (p := ⟨b, _, none⟩) hb]; exact e3⟩
      obtain ⟨y1, y2, y3⟩ := CELLS.out wr (tbq_bel HT.out)
      have CP : Hid (∀ W, Below wr.heap.size wr W → Calls Try.prog 13 #[.pointer (some ⟨g, 0, none⟩), .string kb1, .int .i64 ov1, .int .i64 sz1] W fun e W' => ∃ gv, e = .returned (.tuple #[gv, .bool (putOk rm sz1)]) ∧ Hid (TbQ w g rm (putT rm l ⟨key1, ov1, sz1⟩) (i + 1) [bl] (.slice none 0 0) [] W' ∧ Blk bl W' [.int .i64 wt, .string kb, .int .i64 ov, .int .i64 sz]) ∧ W'.cell? ⟨b, off + i * 4 + 1, none⟩ = some (.string kb1) ∧ W'.cell? ⟨b, off + i * 4 + 2, none⟩ = some (.int .i64 ov1) ∧ W'.cell? ⟨b, off + i * 4 + 3, none⟩ = some (.int .i64 sz1)) := fun W hW => by
        refine (putQ (tbq_below HT.out hW) (by omega) ⟨key1, ov1, sz1⟩ kb1 HKD1.out.symm hks1).mono ?_
        rintro e W' ⟨gv, rfl, _, t4, k4, z4⟩
        exact ⟨gv, rfl, ⟨tbq_sub t4 (fun k hk => by simp at hk; simp [hk]), keepQ_blk (cells_below HBK.out hW) k4 (by simp) z4⟩, CELLS.out W' (tbq_bel t4)⟩
      clear hkl hop hkb1 e0 e1 e2 e3
      go_wp2_with fail
      go_region_held3 (fun w' => w'.cell? ⟨b, off + i * 4 + 1, none⟩ = some (.string kb1) ∧ w'.cell? ⟨b, off + i * 4 + 2, none⟩ = some (.int .i64 ov1) ∧ w'.cell? ⟨b, off + i * 4 + 3, none⟩ = some (.int .i64 sz1)) (go_keep)
        (first
          | (go_at_call 13; refine (CP.out _ ?_).mono ?_; (first | exact (Below.refl _ _).drew | exact Below.refl _ _); rintro e w5 ⟨gv, rfl, T5, x0, x1, x2⟩))
      go_wp2_with fail
      go_roundw
      case rel => exact ⟨i + 1, _, by omega, by go_num, T5.out.1, T5.out.2⟩
      case measure => simp [intOf]; omega
    · have hin : Hid (i ≤ 300) := by unfold Hid; omega
      have CK := hide' (keysQ HT.out (by omega))
      have DL := hide' (tbq_len HT.out)
      have HOK := hide' (tbq_ok HT.out)
      go_wp2_with fail
      refine CK.out.mono ?_
      rintro e w4 ⟨k1, rfl, o4⟩
      have T4 := hide' (tbq_row HT.out o4)
      have B4 := hide' (cells_below HBK.out o4.2)
      obtain ⟨d1, d2, d3⟩ : w4.cell? ⟨bl, 1, none⟩ = some (.string kb) ∧ w4.cell? ⟨bl, 2, none⟩ = some (.int .i64 ov) ∧ w4.cell? ⟨bl, 3, none⟩ = some (.int .i64 sz) := ⟨(B4.out.1 1 (by simp)).1, (B4.out.1 2 (by simp)).1, (B4.out.1 3 (by simp)).1⟩
      have O4 : Hid (OwnT wr.heap.size k1 (keysT l) w4) := o4.1
      have CP := hide' (putQ T4.out (by have := hin.out; omega) ⟨key, ov, sz⟩ kb HKD.out.symm hks)
      simp only at CP
      clear CK o4
      go_wp2_with fail
      refine CP.out.mono ?_
      rintro e w5 ⟨gv, rfl, g5, t5, k5, z5⟩
      have B5 := hide' (keepQ_blk B4.out k5 (by simp) z5)
      have O5 := hide' (ownT_keep O4.out k5 (fun k e => by simp [e]))
      have G5 := hide' g5
      have T5 := hide' t5
      have CK := hide' (keysQ t5 (by have := hin.out; omega))
      clear CP t5 k5 z5 g5 d1 d2 d3
      go_wp2_with fail
      refine CK.out.mono ?_
      rintro e w6 ⟨k3, rfl, o6⟩
      have T6 := hide' (tbq_below T5.out o6.2)
      have B6 := hide' (cells_below B5.out o6.2)
      have O6 := hide' (ownT_apart (S := fun _ => False) O5.out (off_of o6.2) (fun _ _ e => e))
      have G6 := hide' (ownT_apart (S := fun _ => False) G5.out (off_of o6.2) (fun _ _ e => e))
      have A6 := hide' o6
      have d1 : w6.cell? ⟨bl, 1, none⟩ = some (.string kb) := (B6.out.1 1 (by simp)).1
      have hnl : (keysT l).length ≤ 1000 := by rw [keys_len]; have := DL.out; have := hin.out; omega
      have hnl2 : (keysT (putT rm l ⟨key, ov, sz⟩)).length ≤ 1000 := by rw [keys_len]; have := put_len rm l ⟨key, ov, sz⟩; have := DL.out; have := hin.out; omega
      clear CK o6
      obtain ⟨ga, gc, eg⟩ := ownT_len G6.out
      obtain ⟨ba, bc, eb⟩ := ownT_len O6.out
      cases hp : putOk rm sz with
      | false =>
        have e1 : putG rm l ⟨key, ov, sz⟩ = [] := by unfold putG; rw [if_neg (by rw [hp]; decide)]
        have e2 : putT rm l ⟨key, ov, sz⟩ = l := by unfold putT; rw [if_neg (by rw [hp]; decide)]
        have CS := hide' (sameTexts k3 k1 (keysT (putT rm l ⟨key, ov, sz⟩)) (keysT l) w6 (holds_own A6.out) (holds_ownT O6.out) (by omega) (by omega))
        rw [e2, show decide (keysT l = keysT l) = true by simp] at CS
        rw [e1] at eg
        subst eg
        have BB := hide' (tbq_bel T6.out)
        clear hp e1 e2 eb
        go_wp2_with fail
        refine CS.out.mono ?_
        rintro e w7 ⟨rfl, n7, ew⟩
        have B7 := hide' (show Below w.heap.size w w7 by rw [ew]; exact below_drawn BB.out n7)
        clear ew
        go_wp2_with fail
        go_ret
        exact ⟨rfl, B7.out⟩
      | true =>
        have e1 : putG rm l ⟨key, ov, sz⟩ = goneT (withT l key) (fitT (withT l key) (rm - sz)) := by unfold putG; rw [if_pos (by rw [hp])]
        have e2 : putT rm l ⟨key, ov, sz⟩ = ⟨key, ov, sz⟩ :: (withT l key).take (fitT (withT l key) (rm - sz)) := by unfold putT; rw [if_pos (by rw [hp])]
        have FIN : Hid (keysT (putT rm l ⟨key, ov, sz⟩) = key :: restF key (putG rm l ⟨key, ov, sz⟩) (keysT l)) := by
          unfold Hid
          rw [e1, e2, rest_eq HOK.out.once]
          rfl
        have NK : Hid (key ∉ putG rm l ⟨key, ov, sz⟩) := by unfold Hid; rw [e1]; exact gone_key _ _ _
        have hgl : (putG rm l ⟨key, ov, sz⟩).length ≤ 1000 := by
          rw [e1]
          unfold goneT
          rw [List.length_map, List.length_reverse, List.length_drop]
          have := (with_sub l key).length_le
          rw [keys_len] at hnl
          omega
        generalize putG rm l ⟨key, ov, sz⟩ = G at *
        generalize putT rm l ⟨key, ov, sz⟩ = l2 at *
        obtain ⟨ga', gc', eg', gat⟩ := holds_at (holds_ownT G6.out)
        obtain ⟨ba', bc', eb', bat⟩ := holds_at (holds_ownT O6.out)
        rw [eg] at eg'
        rw [eb] at eb'
        simp only [Value.slice.injEq] at eg' eb'
        obtain ⟨rfl, -, -⟩ := eg'
        obtain ⟨rfl, -, -⟩ := eb'
        subst eg eb
        have GAT := hide' gat
        have BAT := hide' bat
        have LE : Hid (∀ x ∈ keysT l, x.length ≤ 140737488351232) := fun x hx => by
          obtain ⟨y, hy, e⟩ := List.mem_map.1 hx
          rw [← e]; exact HOK.out.len y hy
        generalize keysT l = Bk at *
        obtain ⟨ng, hng⟩ : ∃ ng, ng = G.length := ⟨_, rfl⟩
        obtain ⟨nb, hnb⟩ : ∃ nb, nb = Bk.length := ⟨_, rfl⟩
        have HNG := hide' hng
        have HNB := hide' hnb
        rw [← hng] at hgl ⊢
        rw [← hnb] at hnl ⊢
        have BB := hide' (tbq_bel T6.out)
        have OL : Hid (OwnS w6 (.slice (some ⟨w6.heap.size, 0, none⟩) 1 1) [key] (w6.alloc (.cells #[.string kb] 9))) := by
          unfold Hid
          rw [HKB.out]
          exact ⟨World.ownsRow_lit w6 #[S key] 1 (Nat.le_refl _) (by decide) rfl, (Below.refl _ _).alloc (Nat.le_refl _) _⟩
        have hbl6 := B6.out.2
        have D1 := hide' d1
        clear hp e1 e2 gat bat hng hnb HT HBK HAT
        go_wp2_with fail
        go_loopw [13, 14, 15, 16] (fun rv iv _ _ wr => ∃ i : Nat, i ≤ nb ∧ iv = .int .i64 i ∧ Hid (OwnS w6 rv (key :: restF key G (Bk.take i)) wr)) (fun _ iv _ _ _ => nb - (intOf iv).toNat)
        case atStart => exact ⟨0, by omega, rfl, OL⟩
        case round =>
          obtain ⟨i2, hi2, rfl, HR⟩ := hrel
          have f1 : wr.cell? ⟨bl, 1, none⟩ = some (.string kb) := by rw [HR.out.2.cell (p := ⟨bl, 1, none⟩) hbl6]; exact D1.out
          by_cases hlt2 : i2 < nb
          · have hil2 : Hid (i2 < Bk.length) := by unfold Hid; rw [← HNB.out]; exact hlt2
            obtain ⟨b7, o7, hba, hb7, x7⟩ := BAT.out i2 hil2.out
            subst hba
            have y7 : wr.cell? ⟨b7, o7 + i2, none⟩ = some (.string ⟨(Bk[i2]'hil2.out).toArray⟩) := by rw [HR.out.2.cell (p := ⟨b7, o7 + i2, none⟩) hb7]; exact x7
            obtain ⟨x, hx⟩ : ∃ x, x = Bk[i2]'hil2.out := ⟨_, rfl⟩
            obtain ⟨RS1, RS2⟩ := restF_step (k := key) (G := G) hil2.out
            rw [← hx] at y7 RS1 RS2
            have HX := hide' hx
            obtain ⟨xb, hxb⟩ : ∃ xb : ByteArray, xb = ⟨x.toArray⟩ := ⟨_, rfl⟩
            have HXB := hide' hxb
            rw [← hxb] at y7
            have YK : Hid (∀ W, Below w6.heap.size w6 W → W.cell? ⟨b7, o7 + i2, none⟩ = some (.string xb)) := fun W hW => by
              rw [hW.cell (p := ⟨b7, o7 + i2, none⟩) hb7, hxb]
              rw [hx]; exact x7
            obtain ⟨q0, hq0⟩ : ∃ q0, q0 = decide (x = key) := ⟨_, rfl⟩
            have HQ0 := hide' hq0
            have hcmp : (xb.toList == kb.toList) = q0 := by
              rw [Lib.toList_data, Lib.toList_data, HKD.out, hxb, hq0]
              show (x == key) = _
              by_cases e : x = key <;> simp [e]
            have R1 := hide' RS1
            have R2 := hide' RS2
            clear hx hxb x7 RS1 RS2 hq0
            go_wp2_with fail
            go_quiet (fail)
            have HR2 := hide' (ownS_mono HR.out (below_drewN wr nq))
            clear HR f1 y7 hcmp
            go_wp2_with fail
            go_loopw [15, 16] (fun wv jv wz => ∃ (j : Nat) (bq : Bool), j ≤ ng ∧ wv = .bool bq ∧ jv = .int .i64 j ∧ Hid (bq = (q0 || decide (x ∈ G.take j))) ∧ Hid (OwnS w6 u13 (key :: restF key G (Bk.take i2)) wz)) (fun _ jv _ => ng - (intOf jv).toNat)
            case atStart => exact ⟨0, q0, by omega, rfl, rfl, by unfold Hid; simp, HR2⟩
            case round =>
              obtain ⟨j, bq, hj, rfl, rfl, HQ, HZ⟩ := hrel
              have y8 := YK.out wr HZ.out.2
              by_cases hjl : j < ng
              · have hjl2 : Hid (j < G.length) := by unfold Hid; rw [← HNG.out]; exact hjl
                obtain ⟨b8, o8, hga, hb8, x8⟩ := GAT.out j hjl2.out
                subst hga
                have z8 : wr.cell? ⟨b8, o8 + j, none⟩ = some (.string ⟨(G[j]'hjl2.out).toArray⟩) := by rw [HZ.out.2.cell (p := ⟨b8, o8 + j, none⟩) hb8]; exact x8
                have MS := hide' (mem_take_step (x := x) hjl2.out)
                obtain ⟨gj, hgj⟩ : ∃ gj, gj = G[j]'hjl2.out := ⟨_, rfl⟩
                rw [← hgj] at z8 MS
                obtain ⟨gb, hgb⟩ : ∃ gb : ByteArray, gb = ⟨gj.toArray⟩ := ⟨_, rfl⟩
                have hcm : (gb.toList == xb.toList) = decide (gj = x) := by
                  rw [Lib.toList_data, Lib.toList_data, hgb, HXB.out]
                  show (gj == x) = _
                  by_cases e : gj = x <;> simp [e]
                rw [← hgb] at z8
                clear hgj hgb x8
                by_cases hgx : gj = x
                · have HQ2 : Hid (true = (q0 || decide (x ∈ G.take (j + 1)))) := by
                    unfold Hid; rw [MS.out]; simp [hgx]
                  rw [show decide (gj = x) = true by simpa using hgx] at hcm
                  clear hgx MS
                  go_wp2_with fail
                  go_quiet (fail)
                  have HZ2 := hide' (ownS_mono HZ.out (below_drewN wr nq))
                  go_wp2_with fail
                  go_roundw
                  case rel => exact ⟨j + 1, true, by omega, rfl, by go_num, HQ2, HZ2⟩
                  case measure => simp [intOf]; omega
                · have HQ2 : Hid (bq = (q0 || decide (x ∈ G.take (j + 1)))) := by
                    unfold Hid; rw [MS.out, HQ.out]; simp [hgx]
                  rw [show decide (gj = x) = false by simpa using hgx] at hcm
                  clear hgx MS
                  go_wp2_with fail
                  go_quiet (fail)
                  have HZ2 := hide' (ownS_mono HZ.out (below_drewN wr nq))
                  go_wp2_with fail
                  go_roundw
                  case rel => exact ⟨j + 1, bq, by omega, rfl, by go_num, HQ2, HZ2⟩
                  case measure => simp [intOf]; omega
              · have HQ3 : Hid (bq = (decide (x = key) || decide (x ∈ G))) := by
                  have := HQ.out
                  rw [List.take_of_length_le (by rw [← HNG.out]; omega), HQ0.out] at this
                  exact this
                cases bq with
                | true =>
                  have E := hide' (R1.out HQ3.out.symm)
                  go_wp2_with fail
                  go_roundw
                  case rel => exact ⟨i2 + 1, by omega, by go_num, by unfold Hid; rw [E.out]; exact HZ.out⟩
                  case measure => simp [intOf]; omega
                | false =>
                  have E := hide' (R2.out HQ3.out.symm)
                  have hrl : (key :: restF key G (Bk.take i2)).length ≤ 2000 := by
                    rw [List.length_cons]
                    have h1 := List.length_filter_le (fun x => !(decide (x = key) || decide (x ∈ G))) (Bk.take i2)
                    have h2 : (Bk.take i2).length ≤ nb := by rw [List.length_take, ← HNB.out]; omega
                    unfold restF
                    omega
                  have HRL := hide' hrl
                  clear hrl
                  go_wp2_with (at_builtin; refine appS rfl (.tmp 105) (.tmp 110) rfl w6 _ (key :: restF key G (Bk.take i2)) rfl HZ.out x HXB.out rfl (by have := HRL.out; omega) ?_; intro v9 w9 a9; have A9 := hide' a9; clear a9)
                  go_roundw
                  case rel => exact ⟨i2 + 1, by omega, by go_num, by unfold Hid; rw [E.out]; exact A9.out⟩
                  case measure => simp [intOf]; omega
          · have HR3 : Hid (OwnS w6 u13 (key :: restF key G Bk) wr) := by
              have := HR
              rw [List.take_of_length_le (by rw [← HNB.out]; omega)] at this
              exact this
            obtain ⟨rv, hrv⟩ : ∃ rv, rv = u13 := ⟨_, rfl⟩
            rw [← hrv] at HR3 ⊢
            clear HR f1 hrv
            go_wp2_with fail
            go_loopw [17] (fun jv wz => ∃ j : Nat, j ≤ ng ∧ jv = .int .i64 j ∧ Hid (OwnS w6 rv (key :: restF key G Bk) wz)) (fun jv _ => ng - (intOf jv).toNat)
            case atStart => exact ⟨0, by omega, rfl, HR3⟩
            case round =>
              obtain ⟨j, hj, rfl, HZ⟩ := hrel
              have y8 : wr.cell? ⟨bl, 1, none⟩ = some (.string kb) := by rw [HZ.out.2.cell (p := ⟨bl, 1, none⟩) hbl6]; exact D1.out
              by_cases hjl : j < ng
              · have hjl2 : Hid (j < G.length) := by unfold Hid; rw [← HNG.out]; exact hjl
                obtain ⟨b8, o8, hga, hb8, x8⟩ := GAT.out j hjl2.out
                subst hga
                have z8 : wr.cell? ⟨b8, o8 + j, none⟩ = some (.string ⟨(G[j]'hjl2.out).toArray⟩) := by rw [HZ.out.2.cell (p := ⟨b8, o8 + j, none⟩) hb8]; exact x8
                have hne := str_ne (a := G[j]'hjl2.out) (b := key) (fun e => NK.out (by rw [← e]; exact List.getElem_mem _))
                rw [← HKB.out] at hne
                generalize (⟨(G[j]'hjl2.out).toArray⟩ : ByteArray) = gb at z8 hne
                clear x8
                go_wp2_with fail
                go_quiet (fail)
                have HZ2 := hide' (ownS_mono HZ.out (below_drewN wr nq))
                go_wp2_with fail
                go_roundw
                case rel => exact ⟨j + 1, by omega, by go_num, HZ2⟩
                case measure => simp [intOf]; omega
              · have hrl : (key :: restF key G Bk).length ≤ 2000 := by
                  rw [← FIN.out]; omega
                have CS := hide' (sameTexts k3 rv (keysT l2) (key :: restF key G Bk) wr (holds_mono (holds_own A6.out) HZ.out.2) (holds_own HZ.out) (by omega) (by omega))
                rw [show decide (keysT l2 = key :: restF key G Bk) = true by rw [FIN.out]; simp] at CS
                clear hrl
                go_wp2_with fail
                refine CS.out.mono ?_
                rintro e w7 ⟨rfl, n7, ew⟩
                have B7 := hide' (show Below w.heap.size w w7 by rw [ew]; exact below_drawn (BB.out.trans (HZ.out.2.mono BB.out.size)) n7)
                clear ew
                go_wp2_with fail
                go_ret
                exact ⟨rfl, B7.out⟩
end Go.Proofs.Ytikkmnclcbanfaa
