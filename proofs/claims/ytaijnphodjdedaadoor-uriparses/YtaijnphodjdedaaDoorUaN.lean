/- The contracts of normalPath and normal. -/
import Derived.Test.YtaijnphodjdedaaDoorUaM
namespace Go.Proofs.YtaijnphodjdedaaDoor
open Go.RowKit
set_option maxRecDepth 20000 in
set_option maxHeartbeats 2000000 in
theorem normalPathCode (s : ByteArray) (hs : s.size ≤ 4096) (hd : ∀ c l, s.data.toList = c :: l → c = 47) (w : World) (M : MaxV w) :
    Calls Tryd.prog 33 #[.string s] w fun e w' => e = .returned (.string ⟨(normPath s.data.toList).toArray⟩) ∧ Below w.heap.size w w' := by
  obtain ⟨x, ex⟩ : ∃ x : ByteArray, x = ⟨(s.data.toList.drop 1).toArray⟩ := ⟨_, rfl⟩
  have c1 := trimCode s hd w
  rw [← ex] at c1
  have hxl : x.data.toList = s.data.toList.drop 1 := by rw [ex]
  have hx : x.size ≤ 4096 := by rw [size_list, hxl, List.length_drop, len_list]; omega
  have c2 := hide (splitCode x hx w M)
  have hp := segsB_list x
  replace c1 := hide c1
  have hn : (segsB x).length ≤ 4097 := by
    have h1 := congrArg List.length hp
    have h2 := congrArg List.length (shut_pieces x.data.toList)
    have h4 := len_shut (pieces x.data.toList)
    rw [List.length_map] at h1
    simp only [List.length_cons, len_list] at h2
    omega
  have R : Hid (normPath s.data.toList = shut (kept ((segsB x).map (·.data.toList)))) := by unfold Hid; rw [hp, hxl]; rfl
  have Kn : Hid (kept ((segsB x).map (·.data.toList)) ≠ []) := by unfold Hid; rw [hp]; exact kept_ne _ (pieces_ne _)
  have Kl : Hid ((shut (kept ((segsB x).map (·.data.toList)))).length ≤ 4098) := by
    unfold Hid; rw [hp]
    have := kept_len x.data.toList
    rw [len_list] at this
    omega
  clear hp hd hx M ex hxl
  generalize segsB x = bs at c2 R Kn Kl hn
  go_enter Tryd.func33, Tryd.ntmps33
  go_wp2_with fail
  refine c1.out.mono ?_
  rintro e w1 ⟨rfl, rfl⟩
  go_wp2_with fail
  refine c2.out.mono ?_
  rintro e w2 ⟨rfl, e2⟩
  have Bw : Hid (Below w1.heap.size w1 w2) := by unfold Hid; rw [e2]; exact alloc_below _ _
  have Cw : Hid (∀ k (h : k < bs.length), w2.cell? ⟨w1.heap.size, k, none⟩ = some (.string bs[k])) := by
    intro k h; rw [e2]; exact cell_row w1 bs k h
  have Lw : w1.heap.size < w2.heap.size := by rw [e2]; simp
  clear c1 c2 e2
  go_wp2_with fail
  go_loopw [3, 4, 11] (fun lv dv iv wr => ∃ (k : Nat) (b : Bool), k ≤ bs.length ∧ iv = .int .i64 k ∧ dv = .bool b ∧ Hid (b = lastDot ((bs.map (·.data.toList)).take k)) ∧ OwnS w2 lv (left ((bs.map (·.data.toList)).take k)) wr) (fun _ _ iv _ => bs.length - (intOf iv).toNat)
  case atStart => exact ⟨0, false, Nat.zero_le _, rfl, rfl, rfl, ownS_nil w2 w2 (Below.refl _ _)⟩
  case round =>
    obtain ⟨k, b, hk, rfl, rfl, hb, hown⟩ := hrel
    have hll : (left ((bs.map (·.data.toList)).take k)).length ≤ 4097 := by
      have := left_len ((bs.map (·.data.toList)).take k) []
      have h2 : ((bs.map (·.data.toList)).take k).length ≤ bs.length := by rw [List.length_take, List.length_map]; omega
      simp only [List.length_nil, Nat.zero_add] at this
      exact Nat.le_trans this (by omega)
    by_cases hlt : k < bs.length
    · have ck : wr.cell? ⟨w1.heap.size, k, none⟩ = some (.string bs[k]) := by
        rw [hown.2.cell (p := ⟨w1.heap.size, k, none⟩) Lw]
        exact Cw.out k hlt
      have T := take_snocS bs k hlt
      have hk0 : (0 : Int) ≤ k := by omega
      have hk1 : (k : Int) < bs.length := by omega
      by_cases hA : bs[k] = ⟨#[46]⟩
      · rw [hA] at ck T
        have O2 := hown
        rw [show left ((bs.map (·.data.toList)).take k) = left ((bs.map (·.data.toList)).take (k + 1)) by rw [T, left_snoc]; rfl] at O2
        have D2 : Hid (true = lastDot ((bs.map (·.data.toList)).take (k + 1))) := by unfold Hid; rw [T, lastDot_snoc]; rfl
        clear hown T hA hb hll
        go_wp2_with fail
        go_roundw
        case rel => exact ⟨k + 1, true, by omega, by go_num, rfl, D2, O2⟩
        case measure => simp [intOf]; omega
      · by_cases hB : bs[k] = ⟨#[46, 46]⟩
        · rw [hB] at ck T
          have E2 : Hid (left ((bs.map (·.data.toList)).take (k + 1)) = (left ((bs.map (·.data.toList)).take k)).dropLast) := by unfold Hid; rw [T, left_snoc]; rfl
          have D2 : Hid (true = lastDot ((bs.map (·.data.toList)).take (k + 1))) := by unfold Hid; rw [T, lastDot_snoc]; rfl
          generalize left ((bs.map (·.data.toList)).take k) = L at hown hll E2
          clear T hA hB hb
          have hf := hown.1.2
          rcases hf with ⟨rfl, h0⟩ | ⟨g, cap, cur, rfl, hg⟩
          · obtain rfl : L = [] := List.eq_nil_of_length_eq_zero h0
            clear h0
            go_wp2_with fail
            go_roundw
            case rel => exact ⟨k + 1, true, by omega, by go_num, rfl, D2, by rw [E2.out]; exact hown⟩
            case measure => simp [intOf]; omega
          · have hcap : L.length ≤ cap := hg.2.2.1
            clear hg
            by_cases hpos : 0 < L.length
            · have O2 := hide (ownS_drop hown rfl hpos)
              have hpos' : (0 : Int) < L.length := by omega
              have hc1 : (0 : Int) ≤ (L.length : Int) - 1 := by omega
              have hc2 : (L.length : Int) - 1 ≤ cap := by omega
              go_wp2_with fail
              go_roundw
              case rel => exact ⟨k + 1, true, by omega, by go_num, rfl, D2, by rw [E2.out]; exact O2.out⟩
              case measure => simp [intOf]; omega
            · obtain rfl : L = [] := List.eq_nil_of_length_eq_zero (by omega)
              clear hpos
              go_wp2_with fail
              go_roundw
              case rel => exact ⟨k + 1, true, by omega, by go_num, rfl, D2, by rw [E2.out]; exact hown⟩
              case measure => simp [intOf]; omega
        · have E2 : Hid (left ((bs.map (·.data.toList)).take (k + 1)) = left ((bs.map (·.data.toList)).take k) ++ [bs[k].data.toList]) := by
            unfold Hid
            rw [T, left_snoc]
            unfold step
            rw [if_neg (fun e => hA (ba_ext e)), if_neg (fun e => hB (ba_ext e))]
          have D2 : Hid (false = lastDot ((bs.map (·.data.toList)).take (k + 1))) := by
            unfold Hid
            rw [T, lastDot_snoc]
            unfold isDot
            rw [decide_eq_false (fun e => hA (ba_ext e)), decide_eq_false (fun e => hB (ba_ext e))]
            rfl
          generalize left ((bs.map (·.data.toList)).take k) = L at hown hll E2
          have q1 := ne_lit (l := [46]) hA
          have q2 := ne_lit (l := [46, 46]) hB
          have q3 := ne_list hA
          have q4 := ne_list hB
          generalize bs[k] = y at ck q1 q2 q3 q4 E2
          clear T hA hB hb
          go_wp2_with (at_builtin; refine appS rfl (.tmp 24) (.tmp 26) rfl w2 _ _ rfl hown y.data.toList (by rw [ba_eta]) rfl (by omega) ?_; intro v3 w3 hown3)
          go_roundw
          case rel => exact ⟨k + 1, false, by omega, by go_num, rfl, D2, by rw [E2.out]; exact hown3⟩
          case measure => simp [intOf]; omega
    · have E : (bs.map (·.data.toList)).take k = bs.map (·.data.toList) := List.take_of_length_le (by rw [List.length_map]; omega)
      rw [E] at hb hown hll
      have hb2 : Hid (kept (bs.map (·.data.toList)) = left (bs.map (·.data.toList)) ++ if b = true then [[]] else []) := by unfold Hid kept; rw [hb.out]
      clear E hb
      generalize left (bs.map (·.data.toList)) = L at hown hll hb2
      generalize kept (bs.map (·.data.toList)) = F at R Kn Kl hb2
      cases b with
      | true =>
        have e : F = L ++ [[]] := by rw [hb2.out]; rfl
        clear hb2
        go_wp2_with (at_builtin; refine appS rfl (.tmp 43) (.tmp 44) rfl w2 _ _ rfl hown [] rfl rfl (by omega) ?_; intro v3 w3 hown3)
        rw [← e] at hown3
        clear e hown hll
        have hf := hown3.1.2
        rcases hf with ⟨rfl, h0⟩ | ⟨g, cap, cur, rfl, hg⟩
        · exact absurd (List.eq_nil_of_length_eq_zero h0) Kn.out
        · obtain ⟨J, ej, zj, cj⟩ := joinCode w2 w3 F g cap hown3 Kn.out Kl.out
          replace cj := hide cj
          replace ej := hide ej
          have B3 := hide hown3.2
          clear hg hown3 Kn Kl
          refine cj.out.mono ?_
          rintro e w4 ⟨rfl, b4⟩
          replace b4 := hide b4
          go_wp2_with fail
          go_ret
          rw [R.out, ej.out]
          have z1 := Bw.out.size
          have z2 := B3.out.size
          exact ⟨rfl, (Bw.out.trans (B3.out.mono z1)).trans (b4.out.mono (by omega))⟩
      | false =>
        have e : F = L := by rw [hb2.out]; simp
        rw [← e] at hown
        clear hb2 e hll
        have hf := hown.1.2
        rcases hf with ⟨rfl, h0⟩ | ⟨g, cap, cur, rfl, hg⟩
        · exact absurd (List.eq_nil_of_length_eq_zero h0) Kn.out
        · obtain ⟨J, ej, zj, cj⟩ := joinCode w2 wr F g cap hown Kn.out Kl.out
          replace cj := hide cj
          replace ej := hide ej
          have B3 := hide hown.2
          clear hg hown Kn Kl
          go_wp2_with fail
          refine cj.out.mono ?_
          rintro e w4 ⟨rfl, b4⟩
          replace b4 := hide b4
          go_wp2_with fail
          go_ret
          rw [R.out, ej.out]
          have z1 := Bw.out.size
          have z2 := B3.out.size
          exact ⟨rfl, (Bw.out.trans (B3.out.mono z1)).trans (b4.out.mono (by omega))⟩
theorem noAsk_one (s : ByteArray) : Lib.cut s.data.toList [63] = (s.data.toList.takeWhile noAsk, (s.data.toList.dropWhile noAsk).drop 1, ! s.data.toList.all noAsk) := cut_one noAsk 63 noAsk_iff _
theorem cutAsk (s : ByteArray) (hs : s.size ≤ 4098) (w : World) (M : MaxV w) :
    Calls Tryd.prog 15 #[.string s, .string ⟨#[63]⟩] w fun e w' => e = .returned (.tuple #[.string ⟨(s.data.toList.takeWhile noAsk).toArray⟩, .string ⟨((s.data.toList.dropWhile noAsk).drop 1).toArray⟩, .bool (! s.data.toList.all noAsk)]) ∧ Below w.heap.size w w' := by
  obtain ⟨m, hm⟩ := M
  refine (Any.strings_Cut Tryd.lays145 s ⟨#[63]⟩ m w (by omega) hm).mono ?_
  rintro e w' ⟨rfl, n, rfl⟩
  refine ⟨?_, below_draw w n⟩
  rw [show (⟨#[63]⟩ : ByteArray).data.toList = [63] from rfl, noAsk_one]
set_option maxHeartbeats 1000000 in
theorem normalCode (s : ByteArray) (hs : s.size ≤ 4096) (hd : ∀ c l, s.data.toList = c :: l → c = 47 ∨ c = 63) (w : World) (M : MaxV w) :
    Calls Tryd.prog 19 #[.string s] w fun e w' => e = .returned (.string ⟨(normal s.data.toList).toArray⟩) ∧ Below w.heap.size w w' := by
  have c1 := cutAsk s (by omega) w M
  obtain ⟨p, ep⟩ : ∃ p : ByteArray, p = ⟨(s.data.toList.takeWhile noAsk).toArray⟩ := ⟨_, rfl⟩
  obtain ⟨q, eq⟩ : ∃ q : ByteArray, q = ⟨((s.data.toList.dropWhile noAsk).drop 1).toArray⟩ := ⟨_, rfl⟩
  have hpl : p.data.toList = s.data.toList.takeWhile noAsk := by rw [ep]
  have hql : q.data.toList = (s.data.toList.dropWhile noAsk).drop 1 := by rw [eq]
  rw [← ep, ← eq] at c1
  have zp : p.size ≤ 4096 := by rw [size_list, hpl]; have := (List.takeWhile_sublist (l := s.data.toList) noAsk).length_le; rw [len_list] at this; omega
  have zq : q.size ≤ 4096 := by rw [size_list, hql, List.length_drop]; have := (List.dropWhile_sublist (l := s.data.toList) noAsk).length_le; rw [len_list] at this; omega
  have hdp : ∀ c l, p.data.toList = c :: l → c = 47 := by
    intro c l e
    rw [hpl] at e
    have hw := while_app2 noAsk s.data.toList
    rw [e, List.cons_append] at hw
    rcases hd c _ hw.symm with h | h
    · exact h
    · have := take_mem noAsk s.data.toList c (by rw [e]; simp)
      rw [h] at this; cases this
  have c2 := fun w M => normalPathCode p zp hdp w M
  have zn : (normPath p.data.toList).length ≤ 4098 := by
    have := kept_len (p.data.toList.drop 1)
    rw [List.length_drop, len_list] at this
    have e : (normPath p.data.toList).length = (shut (kept (pieces (p.data.toList.drop 1)))).length := rfl
    omega
  have Rn : normal s.data.toList = normPath p.data.toList ++ s.data.toList.dropWhile noAsk := by rw [hpl]; rfl
  have zx : (⟨(normPath p.data.toList).toArray⟩ : ByteArray).size ≤ 4098 := by rw [mk_size]; exact zn
  clear hdp hd ep eq
  by_cases ha : s.data.toList.all noAsk = true
  · have R : Hid (normal s.data.toList = normPath p.data.toList) := by unfold Hid; rw [Rn, (while_all noAsk _ ha).2, List.append_nil]
    rw [ha] at c1
    generalize normPath p.data.toList = np at c2 R
    replace c1 := hide c1
    replace c2 := hide c2
    clear Rn hpl hql ha zn zx
    go_enter Tryd.func19, Tryd.ntmps19
    go_wp2_with fail
    refine c1.out.mono ?_
    rintro e w1 ⟨rfl, b1⟩
    have M1 := hide (maxV_below M b1)
    replace b1 := hide b1
    go_wp2_with fail
    refine (c2.out _ M1.out).mono ?_
    rintro e w2 ⟨rfl, b2⟩
    replace b2 := hide b2
    go_wp2_with fail
    go_ret
    rw [R.out]
    exact ⟨rfl, b1.out.trans (b2.out.mono b1.out.size)⟩
  · have R : Hid ((⟨(normPath p.data.toList).toArray⟩ : ByteArray) ++ ⟨#[63]⟩ ++ q = ⟨(normal s.data.toList).toArray⟩) := by
      have hl := while_len noAsk _ ha
      apply ba_ext
      have e : s.data.toList.dropWhile noAsk = 63 :: q.data.toList := by
        rw [hql]
        cases hdw : s.data.toList.dropWhile noAsk with
        | nil =>
          have := while_app2 noAsk s.data.toList
          rw [hdw, List.append_nil] at this
          rw [this] at hl; omega
        | cons c r =>
          rw [(noAsk_iff c).1 (drop_head noAsk _ c r hdw)]; rfl
      rw [Rn, e]
      simp [ByteArray.data_append]
    rw [Bool.eq_false_iff.2 ha] at c1
    generalize (⟨(normPath p.data.toList).toArray⟩ : ByteArray) = np at c2 R zx
    have R2 : Hid ((np ++ (⟨#[63]⟩ : ByteArray)).size ≤ 4099) := by unfold Hid; rw [ByteArray.size_append, show (⟨#[63]⟩ : ByteArray).size = 1 from rfl]; omega
    replace c1 := hide c1
    replace c2 := hide c2
    clear Rn hpl hql ha zn
    go_enter Tryd.func19, Tryd.ntmps19
    go_wp2_with fail
    refine c1.out.mono ?_
    rintro e w1 ⟨rfl, b1⟩
    have M1 := hide (maxV_below M b1)
    replace b1 := hide b1
    go_wp2_with fail
    refine (c2.out _ M1.out).mono ?_
    rintro e w2 ⟨rfl, b2⟩
    replace b2 := hide b2
    have R3 := R2.out
    go_wp2_with fail
    go_ret
    rw [R.out]
    exact ⟨rfl, b1.out.trans (b2.out.mono b1.out.size)⟩
end Go.Proofs.YtaijnphodjdedaaDoor
