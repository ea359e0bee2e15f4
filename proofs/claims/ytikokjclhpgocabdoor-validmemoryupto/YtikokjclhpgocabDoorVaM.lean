/- The contracts of Merge and of the document's Merge. -/
import Derived.Test.YtikokjclhpgocabDoorBo
import Derived.Test.YtikokjclhpgocabDoorFdX
import Derived.Test.YtikokjclhpgocabDoorBm
namespace Go.Proofs.YtikokjclhpgocabDoor
open Go.RowKit
theorem appSH {ops : Array Oper} {rest : List Oper} {o : Oper} {a : Act} {Q : Exit → Act → World → Prop} {wr : World} {t : ByteArray} {H : Nat} (hgd : o.guard = none) (s x : Operand)
    (ho : o.op = .call { callee := .builtin .append, args := #[s, x], argTypes := #[38, 38] }) (w0 : World) (v : Value) (ss : List (List UInt8)) (hs : a.eval s = v) (hown : OwnS w0 v ss wr)
    (l : List UInt8) (ht : t = ⟨l.toArray⟩) (hx : a.eval x = .slice (some ⟨H, 0, none⟩) 1 1) (hH : wr.heap.size = H) (hlen : (ss.length + 1) * 16 ≤ 140737488355328)
    (h : ∀ v' w', OwnS w0 v' (ss ++ [l]) w' → wpList Tryd.prog ops Q rest (a.put o.dst v') w') : wpList Tryd.prog ops Q (o :: rest) a (wr.alloc (.cells #[.string t] 9)) := by
  subst hH
  exact appS hgd s x ho w0 v ss hs hown l ht hx hlen h
theorem holds_lit4 (w : World) (x y z u : List UInt8) : Holds (w.alloc (.cells #[S x, S y, S z, S u] 9)) (.slice (some ⟨w.heap.size, 0, none⟩) 4 4) [x, y, z, u] := by
  refine ⟨_, 4, rfl, fun _ => ⟨w.heap.size, 0, rfl, by simp, fun j hj => ?_⟩⟩
  match j, hj with
  | 0, _ => simp
  | 1, _ => simp
  | 2, _ => simp
  | 3, _ => simp
theorem without_low (fs : FL) {a b : List (List UInt8)} (h : a.map lows = b.map lows) : withoutOf fs a = withoutOf fs b := by unfold withoutOf; rw [h]
def hopN : List (List UInt8) := [[67, 111, 110, 116, 101, 110, 116, 45, 76, 101, 110, 103, 116, 104], [67, 111, 110, 116, 101, 110, 116, 45, 82, 97, 110, 103, 101], [84, 114, 97, 110, 115, 102, 101, 114, 45, 69, 110, 99, 111, 100, 105, 110, 103], [67, 111, 110, 110, 101, 99, 116, 105, 111, 110]]
theorem news_caps (u : FL) : withoutOf u hopN = newsOf u := without_low u (by decide)
theorem without_nil (s : FL) : withoutOf s [] = s := by unfold withoutOf; simp
theorem names_next (nw : FL) (k : Nat) (h : k < nw.length) : (nw.take (k + 1)).map (fun f => f.1) = (nw.take k).map (fun f => f.1) ++ [(nw[k]).1] := by
  rw [List.take_succ_eq_append_getElem h, List.map_append]; rfl
theorem names_fit {nw : FL} (h : Fit nw) : ∀ n ∈ nw.map (fun f => f.1), n.length ≤ 140737488351232 := by
  intro n hn
  obtain ⟨f, hf, rfl⟩ := List.mem_map.1 hn
  exact (h f hf).1
theorem merge_if (s u : FL) : mergeM s u = if 100 < (withoutOf s ((newsOf u).map (fun f => f.1)) ++ newsOf u).length then s else withoutOf s ((newsOf u).map (fun f => f.1)) ++ newsOf u := rfl
set_option maxHeartbeats 4000000 in
set_option maxRecDepth 20000 in
theorem mergeC (v vu : Value) (s u : FL) (w : World) (hv : HoldsF w v s) (hu : HoldsF w vu u) (fs : Fit s) (fu : Fit u) (hl : (s.length + u.length) * 32 ≤ 140737488355328) :
    Calls Tryd.prog 5 #[v, vu] w fun e w' => ∃ r, e = .returned r ∧ OwnF w r (mergeM s u) w' := by
  have b0 := below_alloc' w (.cells #[S [67, 111, 110, 116, 101, 110, 116, 45, 76, 101, 110, 103, 116, 104], S [67, 111, 110, 116, 101, 110, 116, 45, 82, 97, 110, 103, 101], S [84, 114, 97, 110, 115, 102, 101, 114, 45, 69, 110, 99, 111, 100, 105, 110, 103], S [67, 111, 110, 110, 101, 99, 116, 105, 111, 110]] 9)
  have c1 := withoutTok vu _ u hopN _ (holdsF_mono hu b0) (holds_lit4 w _ _ _ _) fu (by decide) (by omega) (by decide)
  rw [news_caps] at c1
  unfold S at b0 c1
  replace c1 := hide' c1
  have B0 := hide' b0
  have nl := without_len u [clH, crH, teH, coH]
  change (newsOf u).length ≤ u.length at nl
  have FN := hide' (show Fit (newsOf u) from fit_without fu _)
  obtain ⟨res, er⟩ : ∃ res, res = mergeM s u := ⟨_, rfl⟩
  have ME := hide' (show res = if 100 < (withoutOf s ((newsOf u).map (fun f => f.1)) ++ newsOf u).length then s else withoutOf s ((newsOf u).map (fun f => f.1)) ++ newsOf u from er.trans (merge_if s u))
  rw [← er]
  clear er
  have C2 := hide' (fun (W : World) (n : Value) (ns : List (List UInt8)) (h : Below w.heap.size w W) (hn : Holds W n ns) (hf : ∀ x ∈ ns, x.length ≤ 140737488351232) (hl : ns.length ≤ 8796093022208) => withoutTok v n s ns W (holdsF_mono hv h) hn fs hf (by omega) hl)
  have WL := hide' (fun ns => without_len s ns)
  have C3 := hide' (fun (W : World) (h : Below w.heap.size w W) => withoutTok v (.slice none 0 0) s [] W (holdsF_mono hv h) ⟨none, 0, rfl, fun h => absurd rfl h⟩ fs (fun x hx => by cases hx) (by omega) (by simp))
  rw [without_nil] at C3
  obtain ⟨sa, sc, _, _, esv, _⟩ := holdsF_parts hv
  obtain ⟨ua, uc, _, _, euv, _⟩ := holdsF_parts hu
  subst esv euv
  clear hv hu fs fu b0
  generalize newsOf u = nw at c1 nl FN ME
  generalize s.length = sl at C2 C3 WL hl ⊢
  generalize u.length = ul at c1 nl hl ⊢
  go_enter Tryd.func5, Tryd.ntmps5
  go_wp2_with fail
  refine c1.out.mono ?_
  rintro e w1 ⟨un, rfl, ho⟩
  have B1 := hide' (bt' B0.out ho.2)
  obtain ⟨na, nc, nb, no, en, hcell⟩ := holdsF_parts (holdsF_own ho)
  have HN := hide' (holdsF_own ho)
  have C := hide' hcell
  rw [en] at HN ⊢
  clear ho hcell en c1 B0
  obtain ⟨n, eln⟩ : ∃ n, n = nw.length := ⟨_, rfl⟩
  have N : Hid (nw.length = n) := eln.symm
  rw [N.out] at nl HN ⊢
  clear eln
  go_wp2_with fail
  go_loopw [6, 15] (fun v i wr => ∃ k : Nat, k ≤ n ∧ i = .int .i64 k ∧ Hid (OwnS w1 v ((nw.take k).map (fun f => f.1)) wr)) (fun _ i _ => n - (intOf i).toNat)
  case atStart => exact ⟨0, Nat.zero_le _, rfl, ownS_nil _ _ (Below.refl _ _)⟩
  case round =>
    obtain ⟨k, hk, rfl, HO⟩ := hrel
    by_cases hlt : k < n
    · have G : Hid (k < nw.length) := by unfold Hid; rw [N.out]; exact hlt
      obtain ⟨hao, hblt, hc⟩ := C.out (by have := G.out; omega)
      subst hao
      obtain ⟨h1, h2⟩ := hc k G.out
      have c1 : wr.cell? ⟨nb, no + k * 2, none⟩ = some (.string ⟨(nw[k]'G.out).1.toArray⟩) := by
        rw [HO.out.2.cell (p := ⟨nb, no + k * 2, none⟩) hblt]; exact h1
      have c2 : wr.cell? ⟨nb, no + k * 2 + 1, none⟩ = some (.string ⟨(nw[k]'G.out).2.toArray⟩) := by
        rw [HO.out.2.cell (p := ⟨nb, no + k * 2 + 1, none⟩) hblt]; exact h2
      have NX := hide' (names_next nw k G.out)
      have al : ((nw.take k).map (fun f => f.1)).length ≤ k := by rw [List.length_map]; exact List.length_take_le _ _
      clear h1 h2 hc
      generalize (nw[k]'G.out).1 = q1 at c1 NX
      generalize (nw[k]'G.out).2 = q2 at c2
      generalize (nw.take k).map (fun f => f.1) = acc at HO al NX
      have O2 := hide' (ownS_mono HO.out (below_alloc' wr (.cells #[.string ⟨q1.toArray⟩, .string ⟨q2.toArray⟩] 35)))
      clear HO
      go_wp2_with (at_builtin; refine appSH rfl (.tmp 19) (.tmp 22) rfl w1 _ _ rfl O2.out q1 rfl rfl (by simp) (by omega) ?_; intro v4 w4 ho4; have O4 := hide' ho4; clear O2 ho4)
      go_roundw
      case rel => exact ⟨k + 1, by omega, by go_num, by unfold Hid; rw [NX.out]; exact O4.out⟩
      case measure => simp [intOf]; omega
    · have E : Hid (nw.take k = nw) := List.take_of_length_le (by rw [N.out]; omega)
      rw [E.out] at HO
      obtain ⟨w2, ew⟩ : ∃ w2, w2 = wr := ⟨_, rfl⟩
      subst ew
      have B2 := hide' (bt' B1.out HO.out.2)
      have H2 := hide' (holdsF_mono HN.out HO.out.2)
      have cW := hide' (C2.out w2 _ (nw.map (fun f => f.1)) B2.out (holds_own HO.out) (names_fit FN.out) (by rw [List.length_map, N.out]; omega))
      obtain ⟨va, vc, _, _, ev, _⟩ := holds_parts (holds_own HO.out)
      rw [ev] at cW ⊢
      have wl := WL.out (nw.map (fun f => f.1))
      clear HO E ev C2 WL HN B1
      obtain ⟨nn, enn⟩ : ∃ nn, nn = (nw.map (fun f => f.1)).length := ⟨_, rfl⟩
      rw [← enn] at cW ⊢
      clear enn
      generalize withoutOf s (nw.map (fun f => f.1)) = acc at cW wl ME
      have R1 := hide' (fun (h : 100 < acc.length + n) => (show res = s from by rw [ME.out, if_pos (by rw [List.length_append, N.out]; exact h)]))
      have R2 := hide' (fun (h : ¬ 100 < acc.length + n) => (show res = acc ++ nw from by rw [ME.out, if_neg (by rw [List.length_append, N.out]; exact h)]))
      have hsum : (acc ++ nw).length = acc.length + n := by rw [List.length_append, N.out]
      have hl4 : (acc.length + nw.length) * 32 ≤ 140737488355328 := by rw [N.out]; omega
      clear ME
      go_wp2_with fail
      refine cW.out.mono ?_
      rintro e w3 ⟨u3, rfl, ho3⟩
      have O3 := hide' (ownF_base ho3 B2.out)
      have H3 := hide' (holdsF_mono H2.out ho3.2)
      clear ho3 H2 cW
      generalize acc.length + n = tn at R1 R2 hsum
      by_cases hbig : 100 < tn
      · have F := hide' (R1.out hbig)
        clear R1 R2
        go_wp2_with (at_builtin; refine appAllF rfl (.tmp 27) (.tmp 28) rfl w _ _ rfl O3.out _ nw rfl H3.out hl4 ?_; intro v4 w4 ho4; obtain ⟨ma, mc, _, _, em, _⟩ := holdsF_parts (holdsF_own ho4); rw [hsum] at em; rw [em] at ho4 ⊢; have B4 := hide' ho4.2; clear O3 H3 ho4 em)
        refine (C3.out _ B4.out).mono ?_
        rintro e w5 ⟨u5, rfl, ho5⟩
        have O5 := hide' (ownF_base ho5 B4.out)
        clear ho5 C3
        go_wp2_with fail
        go_ret
        exact ⟨_, rfl, by rw [F.out]; exact O5.out⟩
      · have F := hide' (R2.out hbig)
        clear R1 R2 C3
        go_wp2_with (at_builtin; refine appAllF rfl (.tmp 27) (.tmp 28) rfl w _ _ rfl O3.out _ nw rfl H3.out hl4 ?_; intro v4 w4 ho4; obtain ⟨ma, mc, _, _, em, _⟩ := holdsF_parts (holdsF_own ho4); rw [hsum] at em; rw [em] at ho4 ⊢; have O4 := hide' ho4; clear O3 H3 ho4 em)
        go_ret
        exact ⟨_, rfl, by rw [F.out]; exact O4.out⟩
end Go.Proofs.YtikokjclhpgocabDoor
