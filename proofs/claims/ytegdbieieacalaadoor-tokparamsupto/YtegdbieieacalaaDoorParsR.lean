/- The contract of the document's Params: what parsOf says of the pieces behind the first. -/
import Derived.Test.YtegdbieieacalaaDoorPars
import Derived.Test.YtegdbieieacalaaDoorUc
import Derived.Test.YtegdbieieacalaaDoorTkR
namespace Go.Proofs.YtegdbieieacalaaDoor
open Go.RowKit
theorem parR_none (q : List UInt8) (h : ¬ (eqPos q < q.length ∧ isTok (q.take (eqPos q)) = true)) : paramOf q = none := by unfold paramOf; rw [if_neg h]
theorem parR_tok (q : List UInt8) (h1 : eqPos q < q.length) (h2 : isTok (q.take (eqPos q)) = true) (h3 : isTok (q.drop (eqPos q + 1)) = true) : paramOf q = some (lows (q.take (eqPos q)), q.drop (eqPos q + 1)) := by
  unfold paramOf; rw [if_pos ⟨h1, h2⟩, if_pos h3]
theorem parR_unq (q : List UInt8) (h1 : eqPos q < q.length) (h2 : isTok (q.take (eqPos q)) = true) (h3 : isTok (q.drop (eqPos q + 1)) = false) (h4 : (unqS ⟨(q.drop (eqPos q + 1)).toArray⟩).2 = 0) : paramOf q = some (lows (q.take (eqPos q)), (unqS ⟨(q.drop (eqPos q + 1)).toArray⟩).1) := by
  unfold paramOf; rw [if_pos ⟨h1, h2⟩, if_neg (by rw [h3]; simp), if_pos h4]
theorem parR_bad (q : List UInt8) (h1 : eqPos q < q.length) (h2 : isTok (q.take (eqPos q)) = true) (h3 : isTok (q.drop (eqPos q + 1)) = false) (h4 : (unqS ⟨(q.drop (eqPos q + 1)).toArray⟩).2 = 11) : paramOf q = none := by
  unfold paramOf; rw [if_pos ⟨h1, h2⟩, if_neg (by rw [h3]; simp), if_neg (by rw [h4]; decide)]
/-- eq is where the first equals sign of t stands, or its length -/
theorem eq_found (t : ByteArray) (q : List UInt8) (ht : t.data.toList = q) (m : Nat) (hm : m ≤ t.size) (h1 : ∀ j (h : j < t.size), j < m → ¬ (t[j].toNat : Int) = 61) (h2 : ∀ h : m < t.size, (t[m].toNat : Int) = 61) : eqPos q = m := by
  subst ht
  refine eqPos_is _ m (by rw [len_list]; exact hm) (fun j h hj => ?_) (fun h => ?_)
  · exact h1 j (by rw [len_list] at h; exact h) hj
  · exact h2 (by rw [len_list] at h; exact h)
set_option maxHeartbeats 4000000 in
theorem parsRef (s : ByteArray) (w : World) (hs : s.size ≤ 4194304) (p0 : List UInt8) (rest : List (List UInt8)) (he : pieces 59 s.data.toList = p0 :: rest) :
    Calls Tryd.prog 20 #[.string s] w fun e w' => ParPost w (trimT p0) (rest.map trimT) e w' := by
  have hc := piecesRef s 59 w hs
  have hn : (p0 :: rest).length ≤ 4194305 := by rw [← he]; have := pieces_len 59 s.data.toList; rw [len_list] at this; omega
  have hm : Hid (∀ p ∈ p0 :: rest, p.length ≤ 4194304) := by
    intro p hp
    rw [← he] at hp
    have h1 := pieces_mem 59 _ _ hp
    rw [len_list] at h1
    omega
  rw [he] at hc
  clear he
  have hm0 := hm.out p0 List.mem_cons_self
  go_enter Tryd.func20, Tryd.ntmps20
  go_wp2_with fail
  refine hc.mono ?_
  rintro e w1 ⟨v, rfl, hown⟩
  obtain ⟨ao, cap, hv, hcell⟩ := holds_own hown
  obtain ⟨b, off, hao, hblt, hcells⟩ := hcell (by simp)
  have C : Hid _ := hcells
  have B1 : Hid (Below w.heap.size w w1) := hown.2
  rw [hv, hao]
  clear hcell hcells hc hown hv hao
  rw [List.length_cons] at hn ⊢
  obtain ⟨n, en⟩ : ∃ n, n = rest.length := ⟨_, rfl⟩
  have N : Hid (rest.length = n) := en.symm
  rw [N.out] at hn ⊢
  clear en
  have c0 : w1.cell? ⟨b, off, none⟩ = some (.string ⟨p0.toArray⟩) := C.out 0 (by simp)
  go_wp2_with fail
  go_loopw [6, 7] (fun v iv wr => ∃ (i : Nat) (acc : List (List UInt8 × List UInt8)), 1 ≤ i ∧ i ≤ n + 1 ∧ iv = .int .i64 i ∧ Hid (parsOf (filt ((rest.map trimT).take (i - 1))) = some acc) ∧ OwnP w1 v acc wr) (fun _ i _ => n + 1 - (intOf i).toNat)
  case atStart => exact ⟨1, [], by omega, by omega, rfl, rfl, ownP_empty _⟩
  case round =>
    obtain ⟨i, acc, hi1, hi2, rfl, hA, ho⟩ := hrel
    have hacc : acc.length ≤ i := by
      rw [parsOf_len _ _ hA.out]
      exact Nat.le_trans (filt_len _) (Nat.le_trans (List.length_take_le _ _) (by omega))
    by_cases hlt : i < n + 1
    · have G : Hid (i - 1 < rest.length) := by unfold Hid; rw [N.out]; omega
      have GT : Hid (i - 1 < (rest.map trimT).length) := by unfold Hid; rw [List.length_map]; exact G.out
      have ck : wr.cell? ⟨b, off + i, none⟩ = some (.string ⟨(rest[i - 1]'G.out).toArray⟩) := by
        rw [(ho.2.cell (p := ⟨b, off + i, none⟩) hblt)]
        have := C.out (i - 1 + 1) (by have := G.out; simp; omega)
        simp only [List.getElem_cons_succ] at this
        rw [show off + i = off + (i - 1 + 1) by omega]
        exact this
      have hpm := hm.out _ (List.mem_cons_of_mem _ (List.getElem_mem G.out))
      have cT : Hid (∀ W, _) := fun W => trimRefL (rest[i - 1]'G.out) W (by omega)
      have EQ : Hid ((rest.map trimT)[i - 1]'GT.out = trimT (rest[i - 1]'G.out)) := by unfold Hid; rw [List.getElem_map]
      have hql : (trimT (rest[i - 1]'G.out)).length ≤ 4194304 := Nat.le_trans (trimT_len _) hpm
      have SK : Hid ((trimT (rest[i - 1]'G.out)).isEmpty = true → filt ((rest.map trimT).take i) = filt ((rest.map trimT).take (i - 1))) := by
        intro h
        have := pars_skip (rest.map trimT) (i - 1) GT.out (by rw [EQ.out]; exact h)
        rwa [show i - 1 + 1 = i by omega] at this
      have ST : Hid (∀ x, (trimT (rest[i - 1]'G.out)).isEmpty = false → paramOf (trimT (rest[i - 1]'G.out)) = some x → parsOf (filt ((rest.map trimT).take i)) = some (acc ++ [x])) := by
        intro x h hp
        have := pars_step (rest.map trimT) (i - 1) GT.out acc hA.out (by rw [EQ.out]; exact h) x (by rw [EQ.out]; exact hp)
        rwa [show i - 1 + 1 = i by omega] at this
      have FL : Hid ((trimT (rest[i - 1]'G.out)).isEmpty = false → paramOf (trimT (rest[i - 1]'G.out)) = none → parsOf (filt (rest.map trimT)) = none) := by
        intro h hp
        exact pars_fail (rest.map trimT) (i - 1) GT.out acc hA.out (by rw [EQ.out]; exact h) (by rw [EQ.out]; exact hp)
      clear EQ
      generalize trimT (rest[i - 1]'G.out) = q at cT hql SK ST FL
      generalize rest[i - 1]'G.out = r at ck hpm cT
      have BE : Hid (Below w.heap.size w wr) := B1.out.trans (ho.2.mono B1.out.size)
      cases hem : q.isEmpty with
      | true =>
        have F : Hid (filt ((rest.map trimT).take i) = filt ((rest.map trimT).take (i - 1))) := SK.out hem
        go_wp2_with (go_at_call 10; refine (cT.out _).mono ?_; rintro e w2 ⟨rfl, rfl⟩)
        go_roundw
        case rel => exact ⟨i + 1, acc, by omega, by omega, by go_num, by rw [Nat.add_sub_cancel, F.out]; exact hA, ho⟩
        case measure => simp [intOf]; omega
      | false =>
        obtain ⟨t, et⟩ : ∃ t : ByteArray, t = ⟨q.toArray⟩ := ⟨_, rfl⟩
        have TQ : Hid (t.data.toList = q) := by unfold Hid; rw [et]
        have hts : t.size ≤ 4194304 := by rw [et, size_l]; exact hql
        have hemp : t.toList.isEmpty = false := by rw [Lib.toList_data, TQ.out]; exact hem
        rw [← et] at cT
        have SZ : Hid (t.size = q.length) := by unfold Hid; rw [et, size_l]
        have HE : Hid (q.isEmpty = false) := hem
        clear et hem
        go_wp2_with (go_at_call 10; refine (cT.out _).mono ?_; rintro e w2 ⟨rfl, rfl⟩)
        go_loop [9] (fun mv => ∃ m : Nat, m ≤ t.size ∧ mv = .int .i64 m ∧ Hid (∀ j (h : j < t.size), j < m → ¬ (t[j].toNat : Int) = 61)) (fun mv => t.size - (intOf mv).toNat)
        case atStart => exact ⟨0, by omega, rfl, fun j _ hj => by omega⟩
        case round =>
          obtain ⟨m, hmt, rfl, hno⟩ := hrel
          by_cases hgo : ∃ h : m < t.size, ¬ (t[m].toNat : Int) = 61
          · obtain ⟨hmlt, h61⟩ := hgo
            have b61 : ((t[m].toNat : Int) != 61) = true := by simp [h61]
            have N1 : Hid (∀ j (h : j < t.size), j < m + 1 → ¬ (t[j].toNat : Int) = 61) := fun j h hj => by
              by_cases e : j = m
              · subst e; exact h61
              · exact hno.out j h (by omega)
            clear h61
            go_wp2_with fail
            go_round
            case rel => exact ⟨m + 1, by omega, by go_num, N1⟩
            case measure => simp [intOf]; omega
          · have hfound : Hid (eqPos q = m) := eq_found t q TQ.out m hmt hno.out (fun h => by
              by_cases e : (t[m].toNat : Int) = 61
              · exact e
              · exact absurd ⟨h, e⟩ hgo)
            by_cases hmlt : m < t.size
            · have h61 : (t[m].toNat : Int) = 61 := by
                by_cases e : (t[m].toNat : Int) = 61
                · exact e
                · exact absurd ⟨hmlt, e⟩ hgo
              have b61 : ((t[m].toNat : Int) != 61) = false := by simp [h61]
              have bm : ((m : Int) == (t.size : Int)) = false := by simp; omega
              have P1 : Hid (eqPos q < q.length) := by unfold Hid; rw [hfound.out, ← SZ.out]; exact hmlt
              have X1 : Hid ((⟨(q.take (eqPos q)).toArray⟩ : ByteArray) = t.extract 0 m) := by unfold Hid; rw [hfound.out, ← TQ.out]; exact ext_to t m
              have X2 : Hid ((⟨(q.drop (eqPos q + 1)).toArray⟩ : ByteArray) = t.extract (m + 1) t.size) := by unfold Hid; rw [hfound.out, ← TQ.out]; exact ext_from t (m + 1)
              have ln : (q.take (eqPos q)).length ≤ 4194304 := Nat.le_trans (List.length_take_le' _ _) hql
              have lv : (q.drop (eqPos q + 1)).length ≤ 4194304 := by rw [List.length_drop]; omega
              have cN : Hid (Same 8 #[.string (t.extract 0 m)] (.bool (isTok (q.take (eqPos q))))) := by
                intro W; rw [← X1.out]; exact tokenRef ⟨(q.take (eqPos q)).toArray⟩ W (by rw [size_l]; omega)
              have cV : Hid (Same 8 #[.string (t.extract (m + 1) t.size)] (.bool (isTok (q.drop (eqPos q + 1))))) := by
                intro W; rw [← X2.out]; exact tokenRef ⟨(q.drop (eqPos q + 1)).toArray⟩ W (by rw [size_l]; omega)
              have cL : Hid (Gives 12 #[.string (t.extract 0 m)] (.string ⟨(lows (q.take (eqPos q))).toArray⟩)) := by
                intro W; rw [← X1.out]; exact lowerRef ⟨(q.take (eqPos q)).toArray⟩ W (by rw [size_l]; omega)
              have cU : Hid (Gives 29 #[.string (t.extract (m + 1) t.size)] (.tuple #[.string ⟨(unqS ⟨(q.drop (eqPos q + 1)).toArray⟩).1.toArray⟩, .int .i64 (unqS ⟨(q.drop (eqPos q + 1)).toArray⟩).2])) := by
                intro W; rw [← X2.out]; exact unquoteRef _ W (by rw [size_l]; exact lv)
              clear h61 hgo hno
              cases h2 : isTok (q.take (eqPos q)) with
              | false =>
                rw [h2] at cN
                have F : Hid (parsOf (filt (rest.map trimT)) = none) := FL.out HE.out (parR_none q (by rw [h2]; simp))
                clear h2
                go_wp2_with fail
                refine (cN.out _).mono ?_
                rintro e w3 ⟨rfl, rfl⟩
                go_wp2_with fail
                go_ret3
                exact parPost_none F.out BE.out
              | true =>
                rw [h2] at cN
                cases h3 : isTok (q.drop (eqPos q + 1)) with
                | true =>
                  rw [h3] at cV
                  have F : Hid (parsOf (filt ((rest.map trimT).take i)) = some (acc ++ [(lows (q.take (eqPos q)), q.drop (eqPos q + 1))])) := ST.out _ HE.out (parR_tok q P1.out h2 h3)
                  have X2' := X2.out
                  clear h2 h3
                  generalize lows (q.take (eqPos q)) = lo at F cL
                  generalize q.drop (eqPos q + 1) = vl at F X2'
                  have X3 : Hid ((⟨vl.toArray⟩ : ByteArray) = t.extract (m + 1) t.size) := X2'
                  clear X2' X1 X2 cU
                  go_wp2_with fail
                  refine (cN.out _).mono ?_
                  rintro e w3 ⟨rfl, rfl⟩
                  go_wp2_with fail
                  refine (cV.out _).mono ?_
                  rintro e w4 ⟨rfl, rfl⟩
                  go_wp2_with fail
                  refine (cL.out _).mono ?_
                  rintro e w5 ⟨rfl, hb5⟩
                  have ho5 := ownP_mono ho hb5
                  clear ho hb5
                  go_wp2_with (at_builtin; refine appP rfl (.tmp 67) (.tmp 74) rfl w1 _ _ rfl ho5 (lo, vl) rfl X3.out.symm rfl rfl (by omega) ?_; intro v6 w6 ho6)
                  go_roundw
                  case rel => exact ⟨i + 1, _, by omega, by omega, by go_num, by rw [Nat.add_sub_cancel]; exact F, ho6⟩
                  case measure => simp [intOf]; omega
                | false =>
                  rw [h3] at cV
                  rcases unqS_err ⟨(q.drop (eqPos q + 1)).toArray⟩ with h4 | h4
                  · rw [h4] at cU
                    have F : Hid (parsOf (filt ((rest.map trimT).take i)) = some (acc ++ [(lows (q.take (eqPos q)), (unqS ⟨(q.drop (eqPos q + 1)).toArray⟩).1)])) := ST.out _ HE.out (parR_unq q P1.out h2 h3 h4)
                    clear h2 h3 h4
                    generalize lows (q.take (eqPos q)) = lo at F cL
                    generalize (unqS ⟨(q.drop (eqPos q + 1)).toArray⟩).1 = u at F cU
                    clear X1 X2
                    go_wp2_with fail
                    refine (cN.out _).mono ?_
                    rintro e w3 ⟨rfl, rfl⟩
                    go_wp2_with fail
                    refine (cV.out _).mono ?_
                    rintro e w4 ⟨rfl, rfl⟩
                    go_wp2_with fail
                    refine (cU.out _).mono ?_
                    rintro e w5 ⟨rfl, hb5⟩
                    have ho5 := ownP_mono ho hb5
                    clear ho hb5
                    go_wp2_with fail
                    refine (cL.out _).mono ?_
                    rintro e w6 ⟨rfl, hb6⟩
                    have ho6 := ownP_mono ho5 hb6
                    clear ho5 hb6
                    go_wp2_with (at_builtin; refine appP rfl (.tmp 67) (.tmp 74) rfl w1 _ _ rfl ho6 (lo, u) rfl rfl rfl rfl (by omega) ?_; intro v7 w7 ho7)
                    go_roundw
                    case rel => exact ⟨i + 1, _, by omega, by omega, by go_num, by rw [Nat.add_sub_cancel]; exact F, ho7⟩
                    case measure => simp [intOf]; omega
                  · rw [h4] at cU
                    have F : Hid (parsOf (filt (rest.map trimT)) = none) := FL.out HE.out (parR_bad q P1.out h2 h3 h4)
                    clear h2 h3 h4
                    generalize (unqS ⟨(q.drop (eqPos q + 1)).toArray⟩).1 = u at cU
                    go_wp2_with fail
                    refine (cN.out _).mono ?_
                    rintro e w3 ⟨rfl, rfl⟩
                    go_wp2_with fail
                    refine (cV.out _).mono ?_
                    rintro e w4 ⟨rfl, rfl⟩
                    go_wp2_with fail
                    refine (cU.out _).mono ?_
                    rintro e w5 ⟨rfl, hb5⟩
                    go_wp2_with fail
                    go_ret3
                    exact parPost_none F.out (BE.out.trans (hb5.mono BE.out.size))
            · have F : Hid (parsOf (filt (rest.map trimT)) = none) := FL.out HE.out (parR_none q (by rw [hfound.out, ← SZ.out]; intro h; exact hmlt h.1))
              have bm : ((m : Int) == (t.size : Int)) = true := by simp; omega
              clear hgo hno
              go_wp2_with fail
              go_ret3
              exact parPost_none F.out BE.out
    · have E : Hid ((rest.map trimT).take (i - 1) = rest.map trimT) := List.take_of_length_le (by rw [List.length_map, N.out]; omega)
      have F : Hid (parsOf (filt (rest.map trimT)) = some acc) := by unfold Hid; rw [← E.out]; exact hA.out
      have ck : wr.cell? ⟨b, off, none⟩ = some (.string ⟨p0.toArray⟩) := by rw [(ho.2.cell (p := ⟨b, off, none⟩) hblt)]; exact c0
      go_wp2_with fail
      refine (trimRefL p0 _ (by omega)).mono ?_
      rintro e w2 ⟨rfl, rfl⟩
      go_wp2_with fail
      go_ret3
      exact parPost_some F.out (ownP_base ho B1.out)
end Go.Proofs.YtegdbieieacalaaDoor
