/- The contract of the document's tidy. -/
import Derived.Test.YtaijnphodjdedaaDoorUaM
namespace Go.Proofs.YtaijnphodjdedaaDoor
open Go.RowKit
theorem take_next (s : ByteArray) (n m : Nat) (h : n < s.size) (hm : m ≤ n) : (s.data.toList.take (n + 1)).drop m = (s.data.toList.take n).drop m ++ [s[n]] := by
  rw [take_snoc s n h, List.drop_append_of_le_length (by rw [List.length_take, len_list]; omega)]
theorem seg_list (s : ByteArray) (f n : Nat) : (s.extract f n).data.toList = (s.data.toList.take n).drop f := by
  rw [Lib.extract_data, List.drop_take]
theorem left_ne (ps : List (List UInt8)) (hne : ps ≠ []) (h : lastDot ps = false) : left ps ≠ [] := by
  have := kept_ne ps hne
  unfold kept at this
  rw [h] at this
  simpa using this
def TRel (s : ByteArray) (w : World) (v f b i : Value) (wr : World) : Prop :=
  ∃ (fn n : Nat) (bb : Bool), f = .int .i64 fn ∧ b = .bool bb ∧ i = .int .i64 n ∧ fn ≤ 4097 ∧
    ((n = s.size + 1 ∧ Hid (bb = lastDot (pieces (s.data.toList.drop 1))) ∧ OwnS w v (left (pieces (s.data.toList.drop 1))) wr) ∨
     (∃ (ds : List (List UInt8)) (last : List UInt8), 1 ≤ fn ∧ fn ≤ n ∧ n ≤ s.size ∧ Hid (pieces ((s.data.toList.take n).drop 1) = ds ++ [last]) ∧ Hid (last = (s.data.toList.take n).drop fn) ∧ ds.length ≤ n ∧ OwnS w v (left ds) wr))
/-- behind a segment -/
theorem trel_next (s : ByteArray) (hs : s.size ≤ 4096) (w : World) (n : Nat) (ds : List (List UInt8)) (last : List UInt8) (h1 : 1 ≤ n) (hn : n ≤ s.size) (hp : pieces ((s.data.toList.take n).drop 1) = ds ++ [last]) (hdl : ds.length ≤ n) (hend : n = s.size ∨ ∃ h : n < s.size, s[n] = 47) (v : Value) (bb : Bool) (wr : World)
    (hb : bb = isDot last) (ho : OwnS w v (left (ds ++ [last])) wr) (i : Value) (hi : i = .int .i64 ((n : Int) + 1)) : TRel s w v i (.bool bb) i wr := by
  refine ⟨n + 1, n + 1, bb, by rw [hi]; rfl, rfl, by rw [hi]; rfl, by omega, ?_⟩
  rcases hend with e | ⟨hlt, hc⟩
  · left
    have e2 : s.data.toList.take n = s.data.toList := take_all s n (by omega)
    rw [e2] at hp
    exact ⟨by omega, by unfold Hid; rw [hp, lastDot_snoc]; exact hb, by rw [hp]; exact ho⟩
  · right
    refine ⟨ds ++ [last], [], by omega, by omega, by omega, ?_, ?_, by simp; omega, ho⟩
    · unfold Hid; rw [take_next s n 1 hlt h1, hc, pieces_snoc_stroke, hp]
    · unfold Hid; rw [List.drop_of_length_le (by rw [List.length_take, len_list]; omega)]
def shutB (qs : List (List UInt8)) : ByteArray := ⟨(shut qs).toArray⟩
theorem shutB_next (L : List (List UInt8)) (k : Nat) (h : k < L.length) : shutB (L.take k) ++ (⟨#[47]⟩ ++ ⟨L[k].toArray⟩) = shutB (L.take (k + 1)) := by
  apply ba_ext
  unfold shutB
  rw [List.take_succ_eq_append_getElem h, shut_snoc]
  simp [ByteArray.data_append]
theorem shutB_size (L : List (List UInt8)) (k : Nat) : (shutB (L.take k)).size ≤ (shut L).length := by
  unfold shutB
  rw [mk_size]
  have h : shut L = shut (L.take k) ++ shut (L.drop k) := by
    unfold shut
    rw [← List.flatMap_append, List.take_append_drop]
  rw [h, List.length_append]; omega
set_option maxRecDepth 20000 in
set_option maxHeartbeats 4000000 in
theorem tidyRef (s : ByteArray) (hs : s.size ≤ 4096) (w : World) :
    Calls Tryd.prog 25 #[.string s] w fun e w' => e = .returned (.string ⟨(normPath s.data.toList).toArray⟩) ∧ Below w.heap.size w w' := by
  by_cases h0 : s.size = 0
  · have e : s.data.toList = [] := List.eq_nil_of_length_eq_zero (by rw [len_list]; exact h0)
    have R : Hid (normPath s.data.toList = [47]) := by unfold Hid; rw [e]; rfl
    have q0 : s.toList.isEmpty = true := by rw [Lib.toList_data, e]; rfl
    clear e h0
    go_enter Tryd.func25, Tryd.ntmps25
    go_wp2_with fail
    go_ret
    rw [R.out]
    exact ⟨rfl, Below.refl _ _⟩
  · have hpos : 0 < s.size := by omega
    have q0 : s.toList.isEmpty = false := by
      rw [Lib.toList_data]
      cases e : s.data.toList with
      | nil => have := len_list s; rw [e] at this; simp at this; omega
      | cons c l => rfl
    have R : Hid (normPath s.data.toList = tidyP (pieces (s.data.toList.drop 1))) := rfl
    clear h0
    go_enter Tryd.func25, Tryd.ntmps25
    go_wp2_with fail
    go_loopw [3, 4, 5, 6] (fun v f b i wr => TRel s w v f b i wr) (fun _ _ _ i _ => s.size + 1 - (intOf i).toNat)
    case atStart =>
      refine ⟨1, 1, false, rfl, rfl, rfl, by omega, .inr ⟨[], [], by omega, by omega, by omega, ?_, ?_, by simp, ownS_empty w⟩⟩
      · unfold Hid; rw [List.drop_of_length_le (by rw [List.length_take, len_list]; omega)]; rfl
      · unfold Hid; rw [List.drop_of_length_le (by rw [List.length_take, len_list]; omega)]
    case round =>
      obtain ⟨f, n, bb, rfl, rfl, rfl, hf, hcase⟩ := hrel
      rcases hcase with ⟨rfl, hbb, hown⟩ | ⟨ds, last, hf1, hfn, hn, hp, hlast, hdl, hown⟩
      · have hne := pieces_ne (s.data.toList.drop 1)
        have R2 := tidy_ref _ hne
        have hL : bb = false → left (pieces (s.data.toList.drop 1)) ≠ [] := fun e => left_ne _ hne (by rw [← hbb.out]; exact e)
        have zl : (shut (left (pieces (s.data.toList.drop 1)))).length ≤ 4097 := by
          have h1 := shut_len_aux (pieces (s.data.toList.drop 1)) []
          rw [shut_pieces] at h1
          have h2 : (shut ([] : List (List UInt8))).length = 0 := rfl
          have h3 : left (pieces (s.data.toList.drop 1)) = (pieces (s.data.toList.drop 1)).foldl step [] := rfl
          rw [← h3] at h1
          simp only [List.length_cons, List.length_drop, len_list] at h1
          omega
        have R3 : Hid (normPath s.data.toList = if bb = true ∨ shut (left (pieces (s.data.toList.drop 1))) = [] then shut (left (pieces (s.data.toList.drop 1))) ++ [47] else shut (left (pieces (s.data.toList.drop 1)))) := by
          unfold Hid; rw [R.out, R2, ← hbb.out]
        have hll := len_shut (left (pieces (s.data.toList.drop 1)))
        generalize left (pieces (s.data.toList.drop 1)) = L at hown hL R3 zl hll
        clear R R2 hne hbb
        obtain ⟨w5, e5⟩ : ∃ x, x = wr := ⟨_, rfl⟩
        subst e5
        have hfv := hown.1.2
        rcases hfv with ⟨rfl, h0⟩ | ⟨g, cap, cur, rfl, hg⟩
        · obtain rfl : L = [] := List.eq_nil_of_length_eq_zero h0
          have eb : bb = true := by cases bb with
            | true => rfl
            | false => exact absurd rfl (hL rfl)
          subst eb
          have R4 : Hid (normPath s.data.toList = [47]) := by unfold Hid; rw [R3.out, if_pos (.inl rfl)]; rfl
          clear R3 hL h0 zl hll
          go_wp2_with fail
          go_loop [8, 9] (fun ov iv => ov = .string ⟨#[]⟩ ∧ iv = .int .i64 0) (fun _ _ => 0)
          case atStart => exact ⟨rfl, rfl⟩
          case round =>
            obtain ⟨rfl, rfl⟩ := hrel
            go_wp2_with fail
            go_ret
            rw [R4.out]
            exact ⟨rfl, hown.2⟩
        · clear hg
          have hc : ∀ j (h : j < L.length), w5.cell? ⟨g, j, none⟩ = some (.string ⟨L[j].toArray⟩) := by
            intro j h
            rw [hown.1.cellAt j (by omega)]
            simp [S, h]
          replace hc := hide hc
          have B5 := hide hown.2
          clear hown
          have hL' : (L.length : Int) ≤ 4097 := by omega
          go_wp2_with fail
          go_loop [8, 9] (fun ov iv => ∃ k : Nat, k ≤ L.length ∧ iv = .int .i64 k ∧ ov = .string (shutB (L.take k))) (fun _ iv => L.length - (intOf iv).toNat)
          case atStart => exact ⟨0, Nat.zero_le _, rfl, rfl⟩
          case round =>
            obtain ⟨k, hk, rfl, rfl⟩ := hrel
            by_cases hlt : k < L.length
            · have ck := hc.out k hlt
              have zk := shutB_size L k
              have N := hide (shutB_next L k hlt)
              have zx : (⟨L[k].toArray⟩ : ByteArray).size ≤ 4097 := by
                have h1 := shutB_size L (k + 1)
                rw [← N.out, ByteArray.size_append, ByteArray.size_append] at h1
                omega
              generalize (⟨L[k].toArray⟩ : ByteArray) = x at ck N zx
              generalize shutB (L.take k) = o at N zk
              have zy : ((⟨#[47]⟩ : ByteArray) ++ x).size ≤ 4098 := by rw [ByteArray.size_append]; have : (⟨#[47]⟩ : ByteArray).size = 1 := rfl; omega
              have hk' : (k : Int) < L.length := by omega
              go_wp2_with fail
              go_round
              case rel => exact ⟨k + 1, by omega, by go_num, by rw [N.out]⟩
              case measure => simp [intOf]; omega
            · have ek : shutB (L.take k) = ⟨(shut L).toArray⟩ := by unfold shutB; rw [List.take_of_length_le (by omega)]
              rw [ek]
              have zo : (⟨(shut L).toArray⟩ : ByteArray).size ≤ 4097 := by rw [mk_size]; exact zl
              have hge : L.length ≤ k := by omega
              cases bb with
              | true =>
                have R4 : Hid ((⟨(shut L).toArray⟩ : ByteArray) ++ ⟨#[47]⟩ = ⟨(normPath s.data.toList).toArray⟩) := by
                  unfold Hid; rw [R3.out, if_pos (.inl rfl)]; apply ba_ext; simp [ByteArray.data_append]
                generalize (⟨(shut L).toArray⟩ : ByteArray) = o at zo R4 ⊢
                clear R3 hL ek
                go_wp2_with fail
                go_ret
                rw [R4.out]
                exact ⟨rfl, B5.out⟩
              | false =>
                have hsn : shut L ≠ [] := fun e => hL rfl (shut_nil e)
                have R4 : Hid (normPath s.data.toList = shut L) := by
                  unfold Hid; rw [R3.out, if_neg (fun h => h.elim (fun x => by cases x) hsn)]
                have qo : (⟨(shut L).toArray⟩ : ByteArray).toList.isEmpty = false := by
                  rw [Lib.toList_data, mk_list]
                  cases e : shut L with
                  | nil => exact absurd e hsn
                  | cons c l => rfl
                have R5 : Hid ((⟨(shut L).toArray⟩ : ByteArray) = ⟨(normPath s.data.toList).toArray⟩) := by unfold Hid; rw [R4.out]
                generalize (⟨(shut L).toArray⟩ : ByteArray) = o at zo qo R5 ⊢
                clear R3 R4 hL ek hsn
                go_wp2_with fail
                go_ret
                rw [R5.out]
                exact ⟨rfl, B5.out⟩
      · have hn' : (n : Int) ≤ s.size := by omega
        by_cases hin : ∃ h : n < s.size, ¬ s[n] = 47
        · obtain ⟨hlt, hc⟩ := hin
          have hb := byte_lt s[n]
          have hp2 : Hid (pieces ((s.data.toList.take (n + 1)).drop 1) = ds ++ [last ++ [s[n]]]) := by
            unfold Hid; rw [take_next s n 1 hlt (by omega), pieces_snoc _ _ hc, hp.out]; simp
          have hl2 : Hid (last ++ [s[n]] = (s.data.toList.take (n + 1)).drop f) := by
            unfold Hid; rw [take_next s n f hlt hfn, hlast.out]
          have t1 : decide ((n : Int) < (s.size : Int)) = true := decide_eq_true (by omega)
          have t2 : ((s[n].toNat : Int) != 47) = true := by
            simp only [bne_iff_ne, ne_eq]
            intro e
            exact hc (UInt8.toNat_inj.1 (by have : (47 : UInt8).toNat = 47 := rfl; omega))
          clear hc hp hlast
          go_wp2_with fail
          go_roundw
          case rel => exact ⟨f, n + 1, bb, rfl, rfl, by go_num, hf, .inr ⟨ds, last ++ [s[n]], hf1, by omega, by omega, hp2, hl2, by omega, hown⟩⟩
          case measure => simp [intOf]; omega
        · have hend : n = s.size ∨ ∃ h : n < s.size, s[n] = 47 := by
            by_cases h : n < s.size
            · exact .inr ⟨h, Classical.byContradiction fun e => hin ⟨h, e⟩⟩
            · exact .inl (by omega)
          have NX := hide (trel_next s hs w n ds last (by omega) hn hp.out hdl hend)
          have hls : Hid ((s.extract f n).data.toList = last) := by unfold Hid; rw [seg_list, hlast.out]
          have hlen : (left ds).length ≤ 4097 := by have := left_len ds []; simp only [List.length_nil, Nat.zero_add] at this; exact Nat.le_trans this (by omega)
          have hsn := left_snoc ds last
          clear hin hp hlast
          have tt : (decide ((n : Int) < (s.size : Int)) = false ∧ s.size ≤ n) ∨ (∃ h : n < s.size, decide ((n : Int) < (s.size : Int)) = true ∧ ((s[n].toNat : Int) != 47) = false) := by
            rcases hend with e | ⟨h, e⟩
            · exact .inl ⟨decide_eq_false (by omega), by omega⟩
            · exact .inr ⟨h, decide_eq_true (by omega), by rw [e]; rfl⟩
          clear hend
          have hfi : (f : Int) ≤ n := by omega
          have hf0 : (0 : Int) ≤ f := by omega
          by_cases hA : s.extract f n = ⟨#[46]⟩
          · have el : last = [46] := by rw [← hls.out, hA]
            have NX2 : Hid (∀ v wr i, OwnS w v (left ds) wr → i = .int .i64 ((n : Int) + 1) → TRel s w v i (.bool true) i wr) := by
              intro v wr i ho hi
              exact NX.out v true wr (by rw [el]; rfl) (by rw [hsn, el]; exact ho) i hi
            clear NX hls hsn el hlen
            rcases tt with ⟨t1, hge⟩ | ⟨hlt, t1, t2⟩
            all_goals
              go_wp2_with fail
              go_roundw
              case rel => exact NX2.out _ _ _ hown rfl
              case measure => simp [intOf]; omega
          · by_cases hB : s.extract f n = ⟨#[46, 46]⟩
            · have el : last = [46, 46] := by rw [← hls.out, hB]
              have NX2 : Hid (∀ v wr i, OwnS w v (left ds).dropLast wr → i = .int .i64 ((n : Int) + 1) → TRel s w v i (.bool true) i wr) := by
                intro v wr i ho hi
                exact NX.out v true wr (by rw [el]; rfl) (by rw [hsn, el]; exact ho) i hi
              clear NX hls hsn el hA
              generalize left ds = L at hown hlen NX2
              have hfv := hown.1.2
              rcases hfv with ⟨rfl, h0⟩ | ⟨g, cap, cur, rfl, hg⟩
              · obtain rfl : L = [] := List.eq_nil_of_length_eq_zero h0
                clear h0
                rcases tt with ⟨t1, hge⟩ | ⟨hlt, t1, t2⟩
                all_goals
                  go_wp2_with fail
                  go_roundw
                  case rel => exact NX2.out _ _ _ hown rfl
                  case measure => simp [intOf]; omega
              · have hcap : L.length ≤ cap := hg.2.2.1
                clear hg
                by_cases hpos2 : 0 < L.length
                · have O2 := hide (ownS_drop hown rfl hpos2)
                  have hpos' : (0 : Int) < L.length := by omega
                  have hc1 : (0 : Int) ≤ (L.length : Int) - 1 := by omega
                  have hc2 : (L.length : Int) - 1 ≤ cap := by omega
                  rcases tt with ⟨t1, hge⟩ | ⟨hlt, t1, t2⟩
                  all_goals
                    go_wp2_with fail
                    go_roundw
                    case rel => exact NX2.out _ _ _ O2.out rfl
                    case measure => simp [intOf]; omega
                · obtain rfl : L = [] := List.eq_nil_of_length_eq_zero (by omega)
                  clear hpos2
                  rcases tt with ⟨t1, hge⟩ | ⟨hlt, t1, t2⟩
                  all_goals
                    go_wp2_with fail
                    go_roundw
                    case rel => exact NX2.out _ _ _ hown rfl
                    case measure => simp [intOf]; omega
            · have nA : last ≠ [46] := fun e => hA (ba_ext (by rw [hls.out, e]))
              have nB : last ≠ [46, 46] := fun e => hB (ba_ext (by rw [hls.out, e]))
              have NX2 : Hid (∀ v wr i, OwnS w v (left ds ++ [(s.extract f n).data.toList]) wr → i = .int .i64 ((n : Int) + 1) → TRel s w v i (.bool false) i wr) := by
                intro v wr i ho hi
                refine NX.out v false wr ?_ ?_ i hi
                · unfold isDot; rw [decide_eq_false nA, decide_eq_false nB]; rfl
                · rw [hsn]; unfold step; rw [if_neg nA, if_neg nB, ← hls.out]; exact ho
              have a1 := ne_lit (l := [46]) hA
              have a2 := ne_lit (l := [46, 46]) hB
              have a3 := ne_list hA
              have a4 := ne_list hB
              clear NX hls hsn nA nB hA hB
              generalize left ds = L at hown hlen NX2
              rcases tt with ⟨t1, hge⟩ | ⟨hlt, t1, t2⟩
              all_goals
                go_wp2_with (at_builtin; refine appS rfl (.tmp 53) (.tmp 55) rfl w _ _ rfl hown (s.extract f n).data.toList (by rw [ba_eta]) rfl (by omega) ?_; intro v3 w3 hown3)
                go_roundw
                case rel => exact NX2.out _ _ _ hown3 rfl
                case measure => simp [intOf]; omega
end Go.Proofs.YtaijnphodjdedaaDoor
