/- The walk of UriPlain. -/
import Derived.Test.YtjnkpfjkmgcmlaaDoorUaW
import Derived.Test.YtjnkpfjkmgcmlaaDoorLowR
import Derived.Deep.RegionHeld3
namespace Go.Proofs.YtjnkpfjkmgcmlaaDoor.uriPlain
open Go.RowKit
/-- what is known of the texts of an address that is read -/
theorem good_texts (t : Tgt) (g : Good t) : ∃ (qs : List (List UInt8)) (rest : List UInt8), lows t.host = t.host ∧ t.host ≠ [] ∧ t.path = shut qs ++ rest ∧ qs ≠ [] ∧ (∀ x ∈ qs, isDot x = false ∧ ∀ c ∈ x, c ≠ 47 ∧ c ≠ 63) ∧ (∀ c l, rest = c :: l → c = 63) := by
  obtain ⟨⟨h, r, hh, e1, e2, _, _, _⟩, _, _⟩ := g
  refine ⟨segs r, r.dropWhile noAsk, by rw [e1, lows_lows], ?_, by rw [e2]; rfl, segs_ne r, fun x hx => ⟨(segs_mem r x hx).1, fun c hc => ⟨((segs_mem r x hx).2 c hc).1, ((segs_mem r x hx).2 c hc).2.1⟩⟩, fun c l e => (noAsk_iff c).1 (drop_head noAsk r c l e)⟩
  intro e
  have h1 := host_len h hh
  have h2 : (lows h).length = 0 := by rw [← e1, e]; rfl
  rw [lows_len] at h2
  omega
theorem at_in (P : ByteArray) (f i : Nat) (q T : List UInt8) (h : P.data.toList.drop f = 47 :: (q ++ T)) (h1 : f + 1 ≤ i) (h2 : i < f + 1 + q.length) : ∃ hi : i < P.size, P[i] ∈ q := by
  have hl := congrArg List.length h
  rw [List.length_drop, len_list] at hl
  simp only [List.length_cons, List.length_append] at hl
  have hi : i < P.size := by omega
  refine ⟨hi, ?_⟩
  have e : P.data.toList[i]? = q[i - f - 1]? := by
    have : P.data.toList[i]? = (P.data.toList.drop f)[i - f]? := by rw [List.getElem?_drop]; congr 1; omega
    rw [this, h, show i - f = (i - f - 1) + 1 by omega, List.getElem?_cons_succ, List.getElem?_append_left (by omega)]
    congr 1
  rw [List.getElem?_eq_getElem (by simpa using hi), List.getElem?_eq_getElem (by omega)] at e
  have e2 := Option.some.inj e
  show P.data.toList[i]'(by simpa using hi) ∈ q
  rw [e2]
  exact List.getElem_mem _
theorem at_end (P : ByteArray) (f : Nat) (q T : List UInt8) (h : P.data.toList.drop f = 47 :: (q ++ T)) : P.data.toList.drop (f + 1 + q.length) = T ∧ f + 1 + q.length + T.length = P.size ∧ (P.extract (f + 1) (f + 1 + q.length)).data.toList = q := by
  have hl := congrArg List.length h
  rw [List.length_drop, len_list] at hl
  simp only [List.length_cons, List.length_append] at hl
  have h1 : P.data.toList.drop (f + 1) = q ++ T := by rw [← List.drop_drop, h]; rfl
  refine ⟨?_, by omega, ?_⟩
  · rw [← List.drop_drop, h1, List.drop_left]
  · rw [extract_list, h1, show f + 1 + q.length - (f + 1) = q.length by omega, List.take_left]
set_option maxRecDepth 20000 in
set_option maxHeartbeats 4000000 in
theorem walk (s : ByteArray) (w : World) (hs : s.size ≤ 140737488351232) (hsh : w.ShapedOpen Tryd.prog) :
    Calls Tryd.prog 6 #[.string s] w fun e w' => e = .returned (.bool true) ∧ Below w.heap.size w w' := by
  have M := hide (maxV_of hsh)
  clear hsh
  have cl := hide (aliveCode w M.out)
  have cp := fun w M => parseCode s w hs M
  simp only [show ansV (parseP s.data.toList) = .tuple #[.agg #[.string ⟨(parseP s.data.toList).1.host.toArray⟩, .int .i64 (parseP s.data.toList).1.port, .string ⟨(parseP s.data.toList).1.path.toArray⟩], .int .i64 (parseP s.data.toList).2] from rfl] at cp
  rcases parse_cases s.data.toList with ⟨he, _⟩ | ⟨he, hg⟩
  · have q1 : ((parseP s.data.toList).2 != 0) = true := by simpa using he
    clear he
    generalize (⟨(parseP s.data.toList).1.host.toArray⟩ : ByteArray) = h at cp
    generalize (⟨(parseP s.data.toList).1.path.toArray⟩ : ByteArray) = q at cp
    generalize (parseP s.data.toList).1.port = p at cp
    generalize (parseP s.data.toList).2 = n at cp q1
    replace cp := hide cp
    go_enter Tryd.func6, Tryd.ntmps6
    go_wp2_with fail
    refine cl.out.mono ?_
    rintro e w1 ⟨rfl, b1⟩
    have M1 := hide (maxV_below M.out b1)
    have B1 := hide b1
    clear b1
    go_wp2_with fail
    refine (cp.out _ M1.out).mono ?_
    rintro e w2 ⟨rfl, b2⟩
    have B2 : Hid (Below w.heap.size w w2) := B1.out.trans (b2.mono B1.out.size)
    clear b2
    go_wp2_with fail
    go_ret
    exact ⟨rfl, B2.out.alloc B2.out.size _⟩
  · rw [he] at cp
    obtain ⟨qs, rest, g1, g2, g3, g4, g5, g6⟩ := good_texts _ hg
    have p1 := hg.lo
    have p2 := hg.hi
    have pl := parse_len s.data.toList
    clear he hg
    generalize parseP s.data.toList = an at cp g1 g2 g3 p1 p2 pl
    obtain ⟨H, eH⟩ : ∃ H : ByteArray, H = ⟨an.1.host.toArray⟩ := ⟨_, rfl⟩
    obtain ⟨P, eP⟩ : ∃ P : ByteArray, P = ⟨an.1.path.toArray⟩ := ⟨_, rfl⟩
    have lH : H.data.toList = an.1.host := by rw [eH]
    have lP : P.data.toList = shut qs ++ rest := by rw [eP, ← g3]
    rw [← eH, ← eP] at cp
    generalize an.1.port = p at cp p1 p2
    replace cp := hide cp
    have zH : H.size ≤ 255 := by rw [size_list, lH]; exact pl.2
    have zP : P.size ≤ 4098 := by rw [size_list, eP, mk_list]; exact pl.1
    have nH : H.toList.isEmpty = false := ne_empty H (by rw [size_list, lH]; exact List.length_pos_iff.2 g2)
    have cLo := fun w => lowerRef H w (by omega)
    rw [lH, g1, ← lH, ba_eta] at cLo
    have cW : Hid (∀ (W : World) (g : Nat), g < W.heap.size → W.cell? ⟨g, 0, none⟩ = some (.string H) ∧ W.cell? ⟨g, 1, none⟩ = some (.int .i64 p) ∧ W.cell? ⟨g, 2, none⟩ = some (.string P) → Calls Tryd.prog 16 #[.string H] W fun e w' => e = .returned (.string H) ∧ w'.cell? ⟨g, 0, none⟩ = some (.string H) ∧ w'.cell? ⟨g, 1, none⟩ = some (.int .i64 p) ∧ w'.cell? ⟨g, 2, none⟩ = some (.string P) ∧ Below W.heap.size W w') := by
      intro W g hgl hc
      refine (cLo W).mono ?_
      rintro e w' ⟨rfl, b⟩
      obtain ⟨k0, k1, k2⟩ := cells_below hc hgl b
      exact ⟨rfl, k0, k1, k2, b⟩
    obtain ⟨q0, qs', eq0⟩ : ∃ q qs', qs = q :: qs' := by
      cases qs with
      | nil => exact absurd rfl g4
      | cons q qs' => exact ⟨q, qs', rfl⟩
    subst eq0
    rw [shut_cons, List.cons_append, List.append_assoc] at lP
    have hP0 : 0 < P.size := by rw [size_list, lP]; simp
    have nP : P.toList.isEmpty = false := ne_empty P hP0
    have eP0 : P[0] = 47 := by
      have h1 := drop_cons P 0 hP0
      rw [List.drop_zero, lP] at h1
      simp only [List.cons.injEq] at h1
      exact h1.1.symm
    have x0 := idx_at P 0 0 rfl hP0
    rw [eP0, show (((47 : UInt8).toNat : Nat) : Int) = 47 from rfl] at x0
    have u1 : decide (p < 1) = false := decide_eq_false (by omega)
    have u2 : decide (65535 < p) = false := decide_eq_false (by omega)
    clear eH eP lH g1 g2 g3 g4 pl cLo eP0
    go_enter Tryd.func6, Tryd.ntmps6
    go_wp2_with fail
    refine cl.out.mono ?_
    rintro e w1 ⟨rfl, b1⟩
    have M1 := hide (maxV_below M.out b1)
    have B1 := hide b1
    clear b1 cl M
    go_wp2_with fail
    refine (cp.out _ M1.out).mono ?_
    rintro e w2 ⟨rfl, b2⟩
    have B2 : Hid (Below w.heap.size w w2) := B1.out.trans (b2.mono B1.out.size)
    clear b2 cp M1 B1
    go_wp2_with fail
    obtain ⟨W, eW⟩ : ∃ W, W = w2.alloc (.cells #[.string H, .int .i64 p, .string P] 24) := ⟨_, rfl⟩
    rw [← eW]
    obtain ⟨k0, k1, k2⟩ : W.cell? ⟨w2.heap.size, 0, none⟩ = some (.string H) ∧ W.cell? ⟨w2.heap.size, 1, none⟩ = some (.int .i64 p) ∧ W.cell? ⟨w2.heap.size, 2, none⟩ = some (.string P) := by rw [eW]; exact lit_cells w2 H P p
    have LW : w2.heap.size < W.heap.size := by rw [eW]; simp
    have BW : Hid (Below w.heap.size w W) := by unfold Hid; rw [eW]; exact B2.out.alloc B2.out.size _
    clear eW B2
    generalize w2.heap.size = g at k0 k1 k2 LW
    go_region_held3 (fun w' => w'.cell? ⟨g, 0, none⟩ = some (.string H) ∧ w'.cell? ⟨g, 1, none⟩ = some (.int .i64 p) ∧ w'.cell? ⟨g, 2, none⟩ = some (.string P)) (go_keep)
      (first | (go_at_call 16; refine (cW.out _ g (by simp; omega) ⟨by simp [*], by simp [*], by simp [*]⟩).mono ?_; rintro e' w3 ⟨rfl, k3, k4, k5, b3⟩))
    have B3 : Hid (Below w.heap.size w w3) := BW.out.trans (((Below.refl _ W).drew.trans b3).mono BW.out.size)
    clear b3 BW k0 k1 k2 k3 k4 LW cW x0 u1 u2 nH nP
    replace g5 := hide g5
    replace lP := hide lP
    replace g6 := hide g6
    go_wp2_with fail
    go_loop [5, 6] (fun fv iv => ∃ f i : Nat, fv = .int .i64 f ∧ iv = .int .i64 i ∧ f ≤ P.size ∧ i ≤ P.size + 1 ∧ (i = P.size + 1 ∨ ∃ (q : List UInt8) (qs : List (List UInt8)), Hid (P.data.toList.drop f = 47 :: (q ++ (shut qs ++ rest))) ∧ f + 1 ≤ i ∧ i ≤ f + 1 + q.length ∧ Hid (∀ x ∈ q :: qs, isDot x = false ∧ ∀ c ∈ x, c ≠ 47 ∧ c ≠ 63))) (fun _ iv => P.size + 1 - (intOf iv).toNat)
    case atStart => exact ⟨0, 1, rfl, rfl, Nat.zero_le _, by omega, .inr ⟨q0, qs', by unfold Hid; rw [List.drop_zero]; exact lP.out, by omega, by omega, g5⟩⟩
    case round =>
      clear lP g5
      obtain ⟨f, i, rfl, rfl, hf, hi, hcase⟩ := hrel
      rcases hcase with rfl | ⟨q, qs, L, h1, h2, G⟩
      · go_wp2_with fail
        go_ret
        exact ⟨rfl, B3.out⟩
      · have hE := at_end P f q (shut qs ++ rest) L.out
        by_cases hin : i < f + 1 + q.length
        · obtain ⟨hlt, hmem⟩ := at_in P f i q (shut qs ++ rest) L.out h1 hin
          have hne := (G.out q (by simp)).2 _ hmem
          have n1 : ¬ (P[i].toNat : Int) = 47 := by
            intro e; apply hne.1; exact UInt8.toNat_inj.1 (by have : (47 : UInt8).toNat = 47 := rfl; omega)
          have n2 : ¬ (P[i].toNat : Int) = 63 := by
            intro e; apply hne.2; exact UInt8.toNat_inj.1 (by have : (63 : UInt8).toNat = 63 := rfl; omega)
          have t1 : ((i : Int) == (P.size : Int)) = false := by simp; omega
          have t2 : ((P[i].toNat : Int) == 47) = false := by simpa using n1
          have t3 : ((P[i].toNat : Int) == 63) = false := by simpa using n2
          have hb := byte_lt P[i]
          have hi' : (i : Int) ≤ P.size := by omega
          clear n1 n2 hne hmem hE
          go_wp2_with fail
          go_round
          case rel => exact ⟨f, i + 1, by go_num, by go_num, hf, by omega, .inr ⟨q, qs, L, by omega, by omega, G⟩⟩
          case measure => simp [intOf]; omega
        · have ei : i = f + 1 + q.length := by omega
          rw [← ei] at hE
          obtain ⟨hD, hSz, hX⟩ := hE
          have hq := (G.out q (by simp)).1
          have ne1 : ¬ P.extract (f + 1) i = ⟨#[46]⟩ := by
            intro e
            have : q = [46] := by rw [← hX, e]
            rw [this] at hq; cases hq
          have ne2 : ¬ P.extract (f + 1) i = ⟨#[46, 46]⟩ := by
            intro e
            have : q = [46, 46] := by rw [← hX, e]
            rw [this] at hq; cases hq
          have a1 := ne_lit (l := [46]) ne1
          have a2 := ne_lit (l := [46, 46]) ne2
          have a3 := ne_list ne1
          have a4 := ne_list ne2
          have hi' : (i : Int) ≤ P.size := by omega
          have hf' : (f : Int) + 1 ≤ i := by omega
          have hf0 : (0 : Int) ≤ (f : Int) + 1 := by omega
          clear ne1 ne2 hq hX ei
          by_cases hend : i = P.size
          · have t1 : ((i : Int) == (P.size : Int)) = true := by simp; omega
            have t4 : decide ((i : Int) < (P.size : Int)) = false := decide_eq_false (by omega)
            have hge : P.size ≤ i := by omega
            clear hend hSz
            go_wp2_with fail
            go_round
            case rel => exact ⟨i, i + 1, by go_num, by go_num, by omega, by omega, .inl (by omega)⟩
            case measure => simp [intOf]; omega
          · have hlt : i < P.size := by omega
            have t1 : ((i : Int) == (P.size : Int)) = false := by simp; omega
            have hb := byte_lt P[i]
            have hc := drop_cons P i hlt
            rw [hD] at hc
            cases qs with
            | nil =>
              have e63 : P[i] = 63 := g6.out _ _ (by simpa [shut] using hc)
              have n1 : (P[i].toNat : Int) = 63 := by rw [e63]; rfl
              have t2 : ((P[i].toNat : Int) == 47) = false := by simp; omega
              have t3 : ((P[i].toNat : Int) == 63) = true := by simpa using n1
              clear n1 e63 hc hD
              go_wp2_with fail
              go_ret
              exact ⟨rfl, B3.out⟩
            | cons q2 qs2 =>
              rw [shut_cons, List.cons_append, List.append_assoc] at hc hD
              simp only [List.cons.injEq] at hc
              have n1 : (P[i].toNat : Int) = 47 := by rw [← hc.1]; rfl
              have t2 : ((P[i].toNat : Int) == 47) = true := by simpa using n1
              have t3 : ((P[i].toNat : Int) == 63) = false := by simp; omega
              have L2 := hide hD
              have G2 : Hid (∀ x ∈ q2 :: qs2, isDot x = false ∧ ∀ c ∈ x, c ≠ 47 ∧ c ≠ 63) := fun x hx => G.out x (by simp at hx ⊢; rcases hx with h | h <;> simp [h])
              clear n1 hc hD L G
              go_wp2_with fail
              go_round
              case rel => exact ⟨i, i + 1, by go_num, by go_num, by omega, by omega, .inr ⟨q2, qs2, L2, by omega, by omega, G2⟩⟩
              case measure => simp [intOf]; omega
end Go.Proofs.YtjnkpfjkmgcmlaaDoor.uriPlain
