/- The contract of the document's Without. The contracts of Put, of the document's Put, and of CopyTexts. The contracts of Merge and of the document's Merge. The contract of the document's Merge. -/
import Derived.Test.YtikokjclhpgocabDoorBm
import Derived.Deep.RegionHeld3
import Derived.Deep.DrawnRows
import Derived.Test.YtikokjclhpgocabDoorBo
namespace Go.Proofs.YtikokjclhpgocabDoor
open Go.RowKit Go.Maps
theorem ownF_drew {w0 w : World} {v : Value} {ps : FL} (h : OwnF w0 v ps w) : OwnF w0 v ps w.drew := ownF_mono h (Below.refl _ _).drew
theorem st_callF {f : FuncId} {args : Array Value} {r : Value} (h : ∀ W : World, Calls Tryd.prog f args W fun e w' => e = .returned r ∧ Below W.heap.size W w') {w0 W : World} {v : Value} {acc : FL} (ho : OwnF w0 v acc W)
    {p q : Addr} {x y : Value} (hp : p.block < w0.heap.size) (hq : q.block < w0.heap.size) (cx : w0.cell? p = some x) (cy : w0.cell? q = some y) :
    Calls Tryd.prog f args W fun e w' => e = .returned r ∧ Hid (OwnF w0 v acc w') ∧ w'.cell? p = some x ∧ w'.cell? q = some y := by
  refine (h W).mono ?_
  rintro e w' ⟨rfl, hb⟩
  have o := ownF_mono ho hb
  exact ⟨rfl, o, by rw [o.2.cell hp]; exact cx, by rw [o.2.cell hq]; exact cy⟩
theorem in_step (ns : List (List UInt8)) (j : Nat) (h : j < ns.length) (x : List UInt8) : decide (x ∉ (ns.take (j + 1)).map lows) = (decide (x ∉ (ns.take j).map lows) && !decide (x = lows ns[j])) := by
  rw [List.take_succ_eq_append_getElem h, List.map_append]
  have e : (x ∉ (ns.take j).map lows ++ [ns[j]].map lows) ↔ (x ∉ (ns.take j).map lows ∧ ¬ x = lows ns[j]) := by
    rw [List.mem_append, not_or, List.map_cons, List.map_nil, List.mem_singleton]
  rw [decide_eq_decide.2 e, Bool.decide_and, decide_not, decide_not]
theorem ba_eql (a b : List UInt8) (h : ¬ a = b) : ((⟨a.toArray⟩ : ByteArray).toList == (⟨b.toArray⟩ : ByteArray).toList) = false := by
  rw [Lib.toList_data, Lib.toList_data]; simpa using h
attribute [local go_sem ↓] Go.wp_at_zero Go.wp_at_succ
set_option maxHeartbeats 4000000 in
theorem withoutRef (v vn : Value) (fs : FL) (ns : List (List UInt8)) (w : World) (hv : HoldsF w v fs) (hn : Holds w vn ns) (hfit : Fit fs) (hfn : ∀ n ∈ ns, n.length ≤ 140737488351232)
    (hl : fs.length * 32 ≤ 140737488355328) (hln : ns.length ≤ 8796093022208) :
    Calls Tryd.prog 18 #[v, vn] w fun e w' => ∃ u, e = .returned u ∧ OwnF w u (withoutOf fs ns) w' := by
  obtain ⟨ao, ca, b1, o1, rfl, hca⟩ := holdsF_parts hv
  obtain ⟨bo, cb, b2, o2, rfl, hcb⟩ := holds_parts hn
  have CA : Hid _ := hca
  have CB : Hid _ := hcb
  have FT : Hid _ := hfit
  have FN : Hid _ := hfn
  clear hca hcb hv hn hfit hfn
  obtain ⟨n, en⟩ : ∃ n, n = fs.length := ⟨_, rfl⟩
  obtain ⟨m, em⟩ : ∃ m, m = ns.length := ⟨_, rfl⟩
  have N : Hid (fs.length = n) := en.symm
  have M : Hid (ns.length = m) := em.symm
  rw [N.out] at hl ⊢
  rw [M.out] at hln ⊢
  clear en em
  go_enter Tryd.func18, Tryd.ntmps18
  go_wp2_with fail
  go_loopw [5, 6] (fun v i wr => ∃ (vo : Value) (k : Nat), vo = v ∧ k ≤ n ∧ i = .int .i64 k ∧ OwnF w vo (withoutOf (fs.take k) ns) wr) (fun _ i _ => n - (intOf i).toNat)
  case atStart => exact ⟨_, 0, rfl, Nat.zero_le _, rfl, ownF_empty w⟩
  case round =>
    obtain ⟨vo, k, rfl, hk, rfl, ho⟩ := hrel
    obtain ⟨w1, ew⟩ : ∃ w1, w1 = wr := ⟨_, rfl⟩
    subst ew
    have hac : (withoutOf (fs.take k) ns).length ≤ k := Nat.le_trans (without_len _ _) (List.length_take_le _ _)
    by_cases hlt : k < n
    · have G : Hid (k < fs.length) := by unfold Hid; rw [N.out]; exact hlt
      obtain ⟨hao, hblt, hcell⟩ := CA.out (by have := G.out; omega)
      subst hao
      obtain ⟨h1, h2⟩ := hcell k G.out
      unfold S at h1 h2
      obtain ⟨hs1, hs2⟩ := fit_at FT.out k G.out
      have cX := fun W => lowerRef ⟨(fs[k]'G.out).1.toArray⟩ W (by rw [size_l]; exact hs1)
      simp only at cX
      have R1 : Hid (lows (fs[k]'G.out).1 ∈ ns.map lows → withoutOf (fs.take (k + 1)) ns = withoutOf (fs.take k) ns) := fun h => without_hit fs ns k G.out h
      have R2 : Hid (lows (fs[k]'G.out).1 ∉ ns.map lows → withoutOf (fs.take (k + 1)) ns = withoutOf (fs.take k) ns ++ [((fs[k]'G.out).1, (fs[k]'G.out).2)]) := fun h => without_miss fs ns k G.out h
      have CX := hide' cX
      have O := hide' ho
      clear hcell cX ho
      generalize (fs[k]'G.out).1 = q1 at h1 CX hs1 R1 R2
      generalize (fs[k]'G.out).2 = q2 at h2 hs2 R2
      generalize withoutOf (fs.take k) ns = acc at O R1 R2 hac
      have C1 := hide' h1
      have C2 := hide' h2
      clear h1 h2
      go_wp2_with fail
      go_loopw [7, 8] (fun kp j wr => ∃ (i : Nat) (kb : Bool), i ≤ m ∧ j = .int .i64 i ∧ kp = .bool kb ∧ Hid (kb = decide (lows q1 ∉ (ns.take i).map lows)) ∧ Hid (OwnF w vo acc wr)) (fun _ j _ => m - (intOf j).toNat)
      case atStart => exact ⟨0, true, Nat.zero_le _, rfl, rfl, by unfold Hid; simp, O⟩
      case round =>
        clear O
        obtain ⟨i, kb, hi, rfl, rfl, KB, O⟩ := hrel
        by_cases hit : i < m
        · have G2 : Hid (i < ns.length) := by unfold Hid; rw [M.out]; exact hit
          obtain ⟨hbo, hblt2, hcell⟩ := CB.out (by have := G2.out; omega)
          subst hbo
          have hy := hcell i G2.out
          unfold S at hy
          have hs3 := FN.out _ (List.getElem_mem G2.out)
          have cY := fun W => lowerRef ⟨(ns[i]'G2.out).toArray⟩ W (by rw [size_l]; exact hs3)
          simp only at cY
          have R3 := hide' (in_step ns i G2.out (lows q1))
          have CY := hide' cY
          have cx : wr.cell? ⟨b1, o1 + k * 2, none⟩ = some (.string ⟨q1.toArray⟩) := by rw [O.out.2.cell (p := ⟨b1, o1 + k * 2, none⟩) hblt]; exact C1.out
          have cy : wr.cell? ⟨b2, o2 + i, none⟩ = some (.string ⟨(ns[i]'G2.out).toArray⟩) := by rw [O.out.2.cell (p := ⟨b2, o2 + i, none⟩) hblt2]; exact hy
          have C3 := hide' hy
          clear hcell cY hy
          generalize ns[i]'G2.out = q3 at CY C3 cy hs3 R3
          have kX := hide' (fun (W : World) (ho : OwnF w vo acc W) => st_callF CX.out ho (p := ⟨b1, o1 + k * 2, none⟩) (q := ⟨b2, o2 + i, none⟩) hblt hblt2 C1.out C3.out)
          have kY := hide' (fun (W : World) (ho : OwnF w vo acc W) => st_callF CY.out ho (p := ⟨b1, o1 + k * 2, none⟩) (q := ⟨b2, o2 + i, none⟩) hblt hblt2 C1.out C3.out)
          by_cases he : lows q1 = lows q3
          · rw [decide_eq_true he, Bool.not_true, Bool.and_false] at R3
            rw [← he] at kY
            clear he
            go_wp2_with fail
            go_region_held3 (fun w' => w'.cell? ⟨b1, o1 + k * 2, none⟩ = some (.string ⟨q1.toArray⟩) ∧ w'.cell? ⟨b2, o2 + i, none⟩ = some (.string ⟨q3.toArray⟩)) (go_keep)
              (first
                | (go_at_call_of 34 (q1); refine (kX.out _ ?_).mono ?_; (first | exact O2.out | exact ownF_drew O.out); rintro e w2 ⟨rfl, O2, k1, k2⟩)
                | (go_at_call_of 34 (q3); refine (kY.out _ ?_).mono ?_; (first | exact O2.out | exact ownF_drew O.out); rintro e w2 ⟨rfl, O2, k1, k2⟩))
            all_goals
              go_wp2_with fail
              go_roundw
              case rel => exact ⟨i + 1, _, by omega, by go_num, rfl, (by unfold Hid; rw [R3.out]), O2⟩
              case measure => simp [intOf]; omega
          · have hne := ba_eql _ _ he
            rw [decide_eq_false he, Bool.not_false, Bool.and_true] at R3
            have hne2 : (lows q1 == lows q3) = false := by simpa using he
            clear he
            generalize lows q3 = l3 at kY hne hne2 R3
            go_wp2_with fail
            go_region_held3 (fun w' => w'.cell? ⟨b1, o1 + k * 2, none⟩ = some (.string ⟨q1.toArray⟩) ∧ w'.cell? ⟨b2, o2 + i, none⟩ = some (.string ⟨q3.toArray⟩)) (go_keep)
              (first
                | (go_at_call_of 34 (q1); refine (kX.out _ ?_).mono ?_; (first | exact O2.out | exact ownF_drew O.out); rintro e w2 ⟨rfl, O2, k1, k2⟩)
                | (go_at_call_of 34 (q3); refine (kY.out _ ?_).mono ?_; (first | exact O2.out | exact ownF_drew O.out); rintro e w2 ⟨rfl, O2, k1, k2⟩))
            all_goals
              go_wp2_with fail
              go_roundw
              case rel => exact ⟨i + 1, _, by omega, by go_num, rfl, (by unfold Hid; rw [R3.out]; exact KB.out), O2⟩
              case measure => simp [intOf]; omega
        · have E : Hid (ns.take i = ns) := List.take_of_length_le (by rw [M.out]; omega)
          rw [E.out] at KB
          have cx : wr.cell? ⟨b1, o1 + k * 2, none⟩ = some (.string ⟨q1.toArray⟩) := by rw [O.out.2.cell (p := ⟨b1, o1 + k * 2, none⟩) hblt]; exact C1.out
          have cx2 : wr.cell? ⟨b1, o1 + k * 2 + 1, none⟩ = some (.string ⟨q2.toArray⟩) := by rw [O.out.2.cell (p := ⟨b1, o1 + k * 2 + 1, none⟩) hblt]; exact C2.out
          by_cases hin : lows q1 ∈ ns.map lows
          · have R := hide' (R1.out hin)
            have kf : kb = false := by rw [KB.out]; exact decide_eq_false (fun h => h hin)
            subst kf
            clear hin
            go_wp2_with fail
            go_roundw
            case rel => exact ⟨_, k + 1, rfl, by omega, by go_num, by rw [R.out]; exact O.out⟩
            case measure => simp [intOf]; omega
          · have R := hide' (R2.out hin)
            have kf : kb = true := by rw [KB.out]; exact decide_eq_true hin
            subst kf
            clear hin
            go_wp2_with (at_builtin; refine appF rfl (.tmp 35) (.tmp 40) rfl w _ _ rfl O.out (q1, q2) rfl rfl rfl rfl (by omega) ?_; intro v5 w5 ho5)
            go_roundw
            case rel => exact ⟨_, k + 1, rfl, by omega, by go_num, by rw [R.out]; exact ho5⟩
            case measure => simp [intOf]; omega
    · have E : Hid (fs.take k = fs) := List.take_of_length_le (by rw [N.out]; omega)
      rw [E.out] at ho
      go_wp2_with fail
      go_ret
      exact ⟨_, rfl, ho⟩
end Go.Proofs.YtikokjclhpgocabDoor
namespace Go.Proofs.YtikokjclhpgocabDoor
open Go.RowKit Go.Maps
theorem one_fit {n : List UInt8} (h : n.length ≤ 140737488351232) : ∀ x ∈ [n], x.length ≤ 140737488351232 := by
  intro x hx; obtain rfl := List.mem_singleton.1 hx; exact h
set_option maxHeartbeats 1000000 in
theorem putTok (v : Value) (fs : FL) (n x : List UInt8) (w : World) (hv : HoldsF w v fs) (hfit : Fit fs) (hn : n.length ≤ 140737488351232) (hx : x.length ≤ 140737488351232) (hl : (fs.length + 1) * 32 ≤ 140737488355328) :
    Calls Tryd.prog 16 #[v, .string ⟨n.toArray⟩, .string ⟨x.toArray⟩] w fun e w' => ∃ u, e = .returned u ∧ OwnF w u (putOf fs n x) w' := by
  have cW := hide' (withoutTok v _ fs [n] _ (holdsF_mono hv (below_alloc' w (.cells #[S n] 9))) (holds_lit1 w n) hfit (one_fit hn) (by omega) (by simp))
  have cC := hide' (fun W => cloneF ⟨n.toArray⟩ ⟨x.toArray⟩ W (by rw [size_l]; exact hn) (by rw [size_l]; exact hx))
  have hwl : (withoutOf fs [n]).length ≤ fs.length := without_len _ _
  have R := hide' (show putOf fs n x = withoutOf fs [n] ++ [(n, x)] from rfl)
  clear hv hfit
  generalize withoutOf fs [n] = acc at cW hwl R
  generalize fs.length = L at hwl hl
  go_enter Tryd.func16, Tryd.ntmps16
  go_wp2_with (first
    | (go_at_call 14; refine cW.out.mono ?_; rintro e w2 ⟨u, rfl, ho2⟩; have ho := ownF_base ho2 (below_alloc' w (.cells #[S n] 9)); clear ho2)
    | (go_at_call 26; refine (cC.out _).mono ?_; rintro e w3 ⟨rfl, hb3⟩; have ho3 := ownF_mono ho hb3; clear ho hb3)
    | (at_builtin; refine appF rfl (.tmp 10) (.tmp 14) rfl w _ _ rfl ho3 (n, x) rfl rfl rfl rfl (by omega) ?_; intro v5 w5 ho5))
  go_ret
  exact ⟨_, rfl, by rw [R.out]; exact ho5⟩
end Go.Proofs.YtikokjclhpgocabDoor
namespace Go.Proofs.YtikokjclhpgocabDoor
open Go.RowKit
theorem appSH {ops : Array Oper} {rest : List Oper} {o : Oper} {a : Act} {Q : Exit → Act → World → Prop} {wr : World} {t : ByteArray} {H : Nat} (hgd : o.guard = none) (s x : Operand)
    (ho : o.op = .call { callee := .builtin .append, args := #[s, x], argTypes := #[38, 38] }) (w0 : World) (v : Value) (ss : List (List UInt8)) (hs : a.eval s = v) (hown : OwnS w0 v ss wr)
    (l : List UInt8) (ht : t = ⟨l.toArray⟩) (hx : a.eval x = .slice (some ⟨H, 0, none⟩) 1 1) (hH : wr.heap.size = H) (hlen : (ss.length + 1) * 16 ≤ 140737488355328)
    (h : ∀ v' w', OwnS w0 v' (ss ++ [l]) w' → wpList Tryd.prog ops Q rest (a.put o.dst v') w') : wpList Tryd.prog ops Q (o :: rest) a (wr.alloc (.cells #[.string t] 9)) := by
  subst hH
  exact appS hgd s x ho w0 v ss hs hown l ht hx hlen h
theorem holds_lit4 (w : World) (x y z u : List UInt8) : Holds (w.alloc (.cells #[S x, S y, S z, S u] 9)) (.slice (some ⟨w.heap.size, 0, none⟩) 4 4) [x, y, z, u] := by
  refine ⟨_, 4, rfl, fun _ => ⟨w.heap.size, 0, rfl, by simp, fun j hj => ?_⟩⟩
  match j, hj with
  | 0, _ => simp
  | 1, _ => simp
  | 2, _ => simp
  | 3, _ => simp
theorem without_low (fs : FL) {a b : List (List UInt8)} (h : a.map lows = b.map lows) : withoutOf fs a = withoutOf fs b := by unfold withoutOf; rw [h]
def hopN : List (List UInt8) := [[67, 111, 110, 116, 101, 110, 116, 45, 76, 101, 110, 103, 116, 104], [67, 111, 110, 116, 101, 110, 116, 45, 82, 97, 110, 103, 101], [84, 114, 97, 110, 115, 102, 101, 114, 45, 69, 110, 99, 111, 100, 105, 110, 103], [67, 111, 110, 110, 101, 99, 116, 105, 111, 110]]
theorem news_caps (u : FL) : withoutOf u hopN = newsOf u := without_low u (by decide)
theorem without_nil (s : FL) : withoutOf s [] = s := by unfold withoutOf; simp
theorem names_next (nw : FL) (k : Nat) (h : k < nw.length) : (nw.take (k + 1)).map (fun f => f.1) = (nw.take k).map (fun f => f.1) ++ [(nw[k]).1] := by
  rw [List.take_succ_eq_append_getElem h, List.map_append]; rfl
theorem names_fit {nw : FL} (h : Fit nw) : ∀ n ∈ nw.map (fun f => f.1), n.length ≤ 140737488351232 := by
  intro n hn
  obtain ⟨f, hf, rfl⟩ := List.mem_map.1 hn
  exact (h f hf).1
theorem merge_if (s u : FL) : mergeM s u = if 100 < (withoutOf s ((newsOf u).map (fun f => f.1)) ++ newsOf u).length then s else withoutOf s ((newsOf u).map (fun f => f.1)) ++ newsOf u := rfl
set_option maxHeartbeats 4000000 in
set_option maxRecDepth 20000 in
theorem mergeC (v vu : Value) (s u : FL) (w : World) (hv : HoldsF w v s) (hu : HoldsF w vu u) (fs : Fit s) (fu : Fit u) (hl : (s.length + u.length) * 32 ≤ 140737488355328) :
    Calls Tryd.prog 5 #[v, vu] w fun e w' => ∃ r, e = .returned r ∧ OwnF w r (mergeM s u) w' := by
  have b0 := below_alloc' w (.cells #[S [67, 111, 110, 116, 101, 110, 116, 45, 76, 101, 110, 103, 116, 104], S [67, 111, 110, 116, 101, 110, 116, 45, 82, 97, 110, 103, 101], S [84, 114, 97, 110, 115, 102, 101, 114, 45, 69, 110, 99, 111, 100, 105, 110, 103], S [67, 111, 110, 110, 101, 99, 116, 105, 111, 110]] 9)
  have c1 := withoutTok vu _ u hopN _ (holdsF_mono hu b0) (holds_lit4 w _ _ _ _) fu (by decide) (by omega) (by decide)
  rw [news_caps] at c1
  unfold S at b0 c1
  replace c1 := hide' c1
  have B0 := hide' b0
  have nl := without_len u [clH, crH, teH, coH]
  change (newsOf u).length ≤ u.length at nl
  have FN := hide' (show Fit (newsOf u) from fit_without fu _)
  obtain ⟨res, er⟩ : ∃ res, res = mergeM s u := ⟨_, rfl⟩
  have ME := hide' (show res = if 100 < (withoutOf s ((newsOf u).map (fun f => f.1)) ++ newsOf u).length then s else withoutOf s ((newsOf u).map (fun f => f.1)) ++ newsOf u from er.trans (merge_if s u))
  rw [← er]
  clear er
  have C2 := hide' (fun (W : World) (n : Value) (ns : List (List UInt8)) (h : Below w.heap.size w W) (hn : Holds W n ns) (hf : ∀ x ∈ ns, x.length ≤ 140737488351232) (hl : ns.length ≤ 8796093022208) => withoutTok v n s ns W (holdsF_mono hv h) hn fs hf (by omega) hl)
  have WL := hide' (fun ns => without_len s ns)
  have C3 := hide' (fun (W : World) (h : Below w.heap.size w W) => withoutTok v (.slice none 0 0) s [] W (holdsF_mono hv h) ⟨none, 0, rfl, fun h => absurd rfl h⟩ fs (fun x hx => by cases hx) (by omega) (by simp))
  rw [without_nil] at C3
  obtain ⟨sa, sc, _, _, esv, _⟩ := holdsF_parts hv
  obtain ⟨ua, uc, _, _, euv, _⟩ := holdsF_parts hu
  subst esv euv
  clear hv hu fs fu b0
  generalize newsOf u = nw at c1 nl FN ME
  generalize s.length = sl at C2 C3 WL hl ⊢
  generalize u.length = ul at c1 nl hl ⊢
  go_enter Tryd.func5, Tryd.ntmps5
  go_wp2_with fail
  refine c1.out.mono ?_
  rintro e w1 ⟨un, rfl, ho⟩
  have B1 := hide' (bt' B0.out ho.2)
  obtain ⟨na, nc, nb, no, en, hcell⟩ := holdsF_parts (holdsF_own ho)
  have HN := hide' (holdsF_own ho)
  have C := hide' hcell
  rw [en] at HN ⊢
  clear ho hcell en c1 B0
  obtain ⟨n, eln⟩ : ∃ n, n = nw.length := ⟨_, rfl⟩
  have N : Hid (nw.length = n) := eln.symm
  rw [N.out] at nl HN ⊢
  clear eln
  go_wp2_with fail
  go_loopw [6, 15] (fun v i wr => ∃ k : Nat, k ≤ n ∧ i = .int .i64 k ∧ Hid (OwnS w1 v ((nw.take k).map (fun f => f.1)) wr)) (fun _ i _ => n - (intOf i).toNat)
  case atStart => exact ⟨0, Nat.zero_le _, rfl, ownS_nil _ _ (Below.refl _ _)⟩
  case round =>
    obtain ⟨k, hk, rfl, HO⟩ := hrel
    by_cases hlt : k < n
    · have G : Hid (k < nw.length) := by unfold Hid; rw [N.out]; exact hlt
      obtain ⟨hao, hblt, hc⟩ := C.out (by have := G.out; omega)
      subst hao
      obtain ⟨h1, h2⟩ := hc k G.out
      have c1 : wr.cell? ⟨nb, no + k * 2, none⟩ = some (.string ⟨(nw[k]'G.out).1.toArray⟩) := by
        rw [HO.out.2.cell (p := ⟨nb, no + k * 2, none⟩) hblt]; exact h1
      have c2 : wr.cell? ⟨nb, no + k * 2 + 1, none⟩ = some (.string ⟨(nw[k]'G.out).2.toArray⟩) := by
        rw [HO.out.2.cell (p := ⟨nb, no + k * 2 + 1, none⟩) hblt]; exact h2
      have NX := hide' (names_next nw k G.out)
      have al : ((nw.take k).map (fun f => f.1)).length ≤ k := by rw [List.length_map]; exact List.length_take_le _ _
      clear h1 h2 hc
      generalize (nw[k]'G.out).1 = q1 at c1 NX
      generalize (nw[k]'G.out).2 = q2 at c2
      generalize (nw.take k).map (fun f => f.1) = acc at HO al NX
      have O2 := hide' (ownS_mono HO.out (below_alloc' wr (.cells #[.string ⟨q1.toArray⟩, .string ⟨q2.toArray⟩] 35)))
      clear HO
      go_wp2_with (at_builtin; refine appSH rfl (.tmp 19) (.tmp 22) rfl w1 _ _ rfl O2.out q1 rfl rfl (by simp) (by omega) ?_; intro v4 w4 ho4; have O4 := hide' ho4; clear O2 ho4)
      go_roundw
      case rel => exact ⟨k + 1, by omega, by go_num, by unfold Hid; rw [NX.out]; exact O4.out⟩
      case measure => simp [intOf]; omega
    · have E : Hid (nw.take k = nw) := List.take_of_length_le (by rw [N.out]; omega)
      rw [E.out] at HO
      obtain ⟨w2, ew⟩ : ∃ w2, w2 = wr := ⟨_, rfl⟩
      subst ew
      have B2 := hide' (bt' B1.out HO.out.2)
      have H2 := hide' (holdsF_mono HN.out HO.out.2)
      have cW := hide' (C2.out w2 _ (nw.map (fun f => f.1)) B2.out (holds_own HO.out) (names_fit FN.out) (by rw [List.length_map, N.out]; omega))
      obtain ⟨va, vc, _, _, ev, _⟩ := holds_parts (holds_own HO.out)
      rw [ev] at cW ⊢
      have wl := WL.out (nw.map (fun f => f.1))
      clear HO E ev C2 WL HN B1
      obtain ⟨nn, enn⟩ : ∃ nn, nn = (nw.map (fun f => f.1)).length := ⟨_, rfl⟩
      rw [← enn] at cW ⊢
      clear enn
      generalize withoutOf s (nw.map (fun f => f.1)) = acc at cW wl ME
      have R1 := hide' (fun (h : 100 < acc.length + n) => (show res = s from by rw [ME.out, if_pos (by rw [List.length_append, N.out]; exact h)]))
      have R2 := hide' (fun (h : ¬ 100 < acc.length + n) => (show res = acc ++ nw from by rw [ME.out, if_neg (by rw [List.length_append, N.out]; exact h)]))
      have hsum : (acc ++ nw).length = acc.length + n := by rw [List.length_append, N.out]
      have hl4 : (acc.length + nw.length) * 32 ≤ 140737488355328 := by rw [N.out]; omega
      clear ME
      go_wp2_with fail
      refine cW.out.mono ?_
      rintro e w3 ⟨u3, rfl, ho3⟩
      have O3 := hide' (ownF_base ho3 B2.out)
      have H3 := hide' (holdsF_mono H2.out ho3.2)
      clear ho3 H2 cW
      generalize acc.length + n = tn at R1 R2 hsum
      by_cases hbig : 100 < tn
      · have F := hide' (R1.out hbig)
        clear R1 R2
        go_wp2_with (at_builtin; refine appAllF rfl (.tmp 27) (.tmp 28) rfl w _ _ rfl O3.out _ nw rfl H3.out hl4 ?_; intro v4 w4 ho4; obtain ⟨ma, mc, _, _, em, _⟩ := holdsF_parts (holdsF_own ho4); rw [hsum] at em; rw [em] at ho4 ⊢; have B4 := hide' ho4.2; clear O3 H3 ho4 em)
        refine (C3.out _ B4.out).mono ?_
        rintro e w5 ⟨u5, rfl, ho5⟩
        have O5 := hide' (ownF_base ho5 B4.out)
        clear ho5 C3
        go_wp2_with fail
        go_ret
        exact ⟨_, rfl, by rw [F.out]; exact O5.out⟩
      · have F := hide' (R2.out hbig)
        clear R1 R2 C3
        go_wp2_with (at_builtin; refine appAllF rfl (.tmp 27) (.tmp 28) rfl w _ _ rfl O3.out _ nw rfl H3.out hl4 ?_; intro v4 w4 ho4; obtain ⟨ma, mc, _, _, em, _⟩ := holdsF_parts (holdsF_own ho4); rw [hsum] at em; rw [em] at ho4 ⊢; have O4 := hide' ho4; clear O3 H3 ho4 em)
        go_ret
        exact ⟨_, rfl, by rw [F.out]; exact O4.out⟩
end Go.Proofs.YtikokjclhpgocabDoor
namespace Go.Proofs.YtikokjclhpgocabDoor
open Go.RowKit
set_option maxHeartbeats 4000000 in
set_option maxRecDepth 20000 in
theorem mergeRC (v vu : Value) (s u : FL) (w : World) (hv : HoldsF w v s) (hu : HoldsF w vu u) (fs : Fit s) (fu : Fit u) (hl : (s.length + u.length) * 32 ≤ 140737488355328) :
    Calls Tryd.prog 7 #[v, vu] w fun e w' => ∃ r, e = .returned r ∧ OwnF w r (mergeM s u) w' := by
  have b0 := below_alloc' w (.cells #[S clH, S crH, S teH, S coH] 9)
  have c1 := withoutRef vu _ u [clH, crH, teH, coH] _ (holdsF_mono hu b0) (holds_lit4 w _ _ _ _) fu (by decide) (by omega) (by decide)
  rw [show withoutOf u [clH, crH, teH, coH] = newsOf u from rfl] at c1
  unfold S clH crH teH coH at b0 c1
  replace c1 := hide' c1
  have B0 := hide' b0
  have nl := without_len u [clH, crH, teH, coH]
  change (newsOf u).length ≤ u.length at nl
  have FN := hide' (show Fit (newsOf u) from fit_without fu _)
  obtain ⟨res, er⟩ : ∃ res, res = mergeM s u := ⟨_, rfl⟩
  have ME := hide' (show res = if 100 < (withoutOf s ((newsOf u).map (fun f => f.1)) ++ newsOf u).length then s else withoutOf s ((newsOf u).map (fun f => f.1)) ++ newsOf u from er.trans (merge_if s u))
  rw [← er]
  clear er
  have C2 := hide' (fun (W : World) (n : Value) (ns : List (List UInt8)) (h : Below w.heap.size w W) (hn : Holds W n ns) (hf : ∀ x ∈ ns, x.length ≤ 140737488351232) (hl : ns.length ≤ 8796093022208) => withoutRef v n s ns W (holdsF_mono hv h) hn fs hf (by omega) hl)
  have WL := hide' (fun ns => without_len s ns)
  have C3 := hide' (fun (W : World) (h : Below w.heap.size w W) => copyF v s W (holdsF_mono hv h) (by omega))
  obtain ⟨sa, sc, _, _, esv, _⟩ := holdsF_parts hv
  obtain ⟨ua, uc, _, _, euv, _⟩ := holdsF_parts hu
  subst esv euv
  clear hv hu fs fu b0
  generalize newsOf u = nw at c1 nl FN ME
  generalize s.length = sl at C2 C3 WL hl ⊢
  generalize u.length = ul at c1 nl hl ⊢
  go_enter Tryd.func7, Tryd.ntmps7
  go_wp2_with fail
  refine c1.out.mono ?_
  rintro e w1 ⟨un, rfl, ho⟩
  have B1 := hide' (bt' B0.out ho.2)
  obtain ⟨na, nc, nb, no, en, hcell⟩ := holdsF_parts (holdsF_own ho)
  have HN := hide' (holdsF_own ho)
  have C := hide' hcell
  rw [en] at HN ⊢
  clear ho hcell en c1 B0
  obtain ⟨n, eln⟩ : ∃ n, n = nw.length := ⟨_, rfl⟩
  have N : Hid (nw.length = n) := eln.symm
  rw [N.out] at nl HN ⊢
  clear eln
  go_wp2_with fail
  go_loopw [6, 7] (fun v i wr => ∃ k : Nat, k ≤ n ∧ i = .int .i64 k ∧ Hid (OwnS w1 v ((nw.take k).map (fun f => f.1)) wr)) (fun _ i _ => n - (intOf i).toNat)
  case atStart => exact ⟨0, Nat.zero_le _, rfl, ownS_empty w1⟩
  case round =>
    obtain ⟨k, hk, rfl, HO⟩ := hrel
    by_cases hlt : k < n
    · have G : Hid (k < nw.length) := by unfold Hid; rw [N.out]; exact hlt
      obtain ⟨hao, hblt, hc⟩ := C.out (by have := G.out; omega)
      subst hao
      obtain ⟨h1, _⟩ := hc k G.out
      have c1 : wr.cell? ⟨nb, no + k * 2, none⟩ = some (.string ⟨(nw[k]'G.out).1.toArray⟩) := by
        rw [HO.out.2.cell (p := ⟨nb, no + k * 2, none⟩) hblt]; exact h1
      have NX := hide' (names_next nw k G.out)
      have al : ((nw.take k).map (fun f => f.1)).length ≤ k := by rw [List.length_map]; exact List.length_take_le _ _
      clear h1 hc
      generalize (nw[k]'G.out).1 = q1 at c1 NX
      generalize (nw.take k).map (fun f => f.1) = acc at HO al NX
      go_wp2_with (at_builtin; refine appS rfl (.tmp 19) (.tmp 25) rfl w1 _ _ rfl HO.out q1 rfl rfl (by omega) ?_; intro v4 w4 ho4; have O4 := hide' ho4; clear HO ho4)
      go_roundw
      case rel => exact ⟨k + 1, by omega, by go_num, by unfold Hid; rw [NX.out]; exact O4.out⟩
      case measure => simp [intOf]; omega
    · have E : Hid (nw.take k = nw) := List.take_of_length_le (by rw [N.out]; omega)
      rw [E.out] at HO
      obtain ⟨w2, ew⟩ : ∃ w2, w2 = wr := ⟨_, rfl⟩
      subst ew
      have B2 := hide' (bt' B1.out HO.out.2)
      have H2 := hide' (holdsF_mono HN.out HO.out.2)
      have cW := hide' (C2.out w2 _ (nw.map (fun f => f.1)) B2.out (holds_own HO.out) (names_fit FN.out) (by rw [List.length_map, N.out]; omega))
      obtain ⟨va, vc, _, _, ev, _⟩ := holds_parts (holds_own HO.out)
      rw [ev] at cW ⊢
      have wl := WL.out (nw.map (fun f => f.1))
      clear HO E ev C2 WL HN B1
      obtain ⟨nn, enn⟩ : ∃ nn, nn = (nw.map (fun f => f.1)).length := ⟨_, rfl⟩
      rw [← enn] at cW ⊢
      clear enn
      generalize withoutOf s (nw.map (fun f => f.1)) = acc at cW wl ME
      have R1 := hide' (fun (h : 100 < acc.length + n) => (show res = s from by rw [ME.out, if_pos (by rw [List.length_append, N.out]; exact h)]))
      have R2 := hide' (fun (h : ¬ 100 < acc.length + n) => (show res = acc ++ nw from by rw [ME.out, if_neg (by rw [List.length_append, N.out]; exact h)]))
      have hsum : (acc ++ nw).length = acc.length + n := by rw [List.length_append, N.out]
      have hl4 : (acc.length + nw.length) * 32 ≤ 140737488355328 := by rw [N.out]; omega
      clear ME
      go_wp2_with fail
      refine cW.out.mono ?_
      rintro e w3 ⟨u3, rfl, ho3⟩
      have O3 := hide' (ownF_base ho3 B2.out)
      have H3 := hide' (holdsF_mono H2.out ho3.2)
      clear ho3 H2 cW
      generalize acc.length + n = tn at R1 R2 hsum
      by_cases hbig : 100 < tn
      · have F := hide' (R1.out hbig)
        clear R1 R2
        go_wp2_with (at_builtin; refine appAllF rfl (.tmp 30) (.tmp 31) rfl w _ _ rfl O3.out _ nw rfl H3.out hl4 ?_; intro v4 w4 ho4; obtain ⟨ma, mc, _, _, em, _⟩ := holdsF_parts (holdsF_own ho4); rw [hsum] at em; rw [em] at ho4 ⊢; have B4 := hide' ho4.2; clear O3 H3 ho4 em)
        refine (C3.out _ B4.out).mono ?_
        rintro e w5 ⟨u5, rfl, ho5⟩
        have O5 := hide' (ownF_base ho5 B4.out)
        clear ho5 C3
        go_wp2_with fail
        go_ret
        exact ⟨_, rfl, by rw [F.out]; exact O5.out⟩
      · have F := hide' (R2.out hbig)
        clear R1 R2 C3
        go_wp2_with (at_builtin; refine appAllF rfl (.tmp 30) (.tmp 31) rfl w _ _ rfl O3.out _ nw rfl H3.out hl4 ?_; intro v4 w4 ho4; obtain ⟨ma, mc, _, _, em, _⟩ := holdsF_parts (holdsF_own ho4); rw [hsum] at em; rw [em] at ho4 ⊢; have O4 := hide' ho4; clear O3 H3 ho4 em)
        go_ret
        exact ⟨_, rfl, by rw [F.out]; exact O4.out⟩
end Go.Proofs.YtikokjclhpgocabDoor
