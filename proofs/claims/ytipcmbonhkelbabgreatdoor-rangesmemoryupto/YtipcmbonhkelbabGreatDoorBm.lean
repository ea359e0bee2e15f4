/- Fields in plain words: the values of a name, the fields of other names, a name put in. A row of fields that a call itself made: more appended to it, and what it holds in later worlds; a list of fields that came in. The contracts of CopyFields and SameFields. The contracts of clone and Without. How much a list that came in holds; where its cells lie. A list of fields, and a list of texts, that came in: what the reading says of them. Plain: the words of values, and their bulk. Heads and entries as plain records. A block of four cells that may be written. A list of fields that is owned, as what it holds (a block of four cells: Q4). A list of fields, its beginning and its rest; one field more among others. -/
import Derived.Test.YtipcmbonhkelbabGreatDoorBk
import Derived.Laws.AppendOwnNone
import Derived.Lib.Bytealg
import Derived.Maps.Own
import Derived.Maps.OwnSet
import Derived.Maps.OwnOps
import Derived.Deep.SlicePairs
import Derived.SliceStrings
import Derived.SizedLaws
import Derived.ChangeOld
import Derived.OpenShut
import Derived.ChangeSlices
import Derived.Test.YtipcmbonhkelbabGreatDoorBl
namespace Go.Proofs.YtipcmbonhkelbabGreatDoor
open Go.RowKit
def valsOf (fs : FL) (n : List UInt8) : List (List UInt8) := (fs.filter (fun f => decide (lows f.1 = lows n))).map (fun f => f.2)
def withoutOf (fs : FL) (ns : List (List UInt8)) : FL := fs.filter (fun f => decide (lows f.1 ∉ ns.map lows))
def putOf (fs : FL) (n v : List UInt8) : FL := withoutOf fs [n] ++ [(n, v)]
/-- each text of each field is no longer than a text can be -/
def Fit (fs : FL) : Prop := ∀ f ∈ fs, f.1.length ≤ 140737488351232 ∧ f.2.length ≤ 140737488351232
theorem fit_at {fs : FL} (h : Fit fs) (k : Nat) (hk : k < fs.length) : (fs[k]).1.length ≤ 140737488351232 ∧ (fs[k]).2.length ≤ 140737488351232 := h _ (List.getElem_mem hk)
theorem fit_without {fs : FL} (h : Fit fs) (ns : List (List UInt8)) : Fit (withoutOf fs ns) := fun f hf => h f (List.mem_filter.1 hf).1
theorem fit_put {fs : FL} (h : Fit fs) {n v : List UInt8} (hn : n.length ≤ 140737488351232) (hv : v.length ≤ 140737488351232) : Fit (putOf fs n v) := by
  intro f hf
  rcases List.mem_append.1 hf with hf | hf
  · exact fit_without h _ f hf
  · obtain rfl := List.mem_singleton.1 hf; exact ⟨hn, hv⟩
theorem vals_len (fs : FL) (n : List UInt8) : (valsOf fs n).length ≤ fs.length := by
  unfold valsOf; rw [List.length_map]; exact List.length_filter_le _ _
theorem without_len (fs : FL) (ns : List (List UInt8)) : (withoutOf fs ns).length ≤ fs.length := List.length_filter_le _ _
theorem put_len (fs : FL) (n v : List UInt8) : (putOf fs n v).length ≤ fs.length + 1 := by
  have := without_len fs [n]
  unfold putOf; rw [List.length_append]; simp; omega
theorem vals_hit (fs : FL) (n : List UInt8) (k : Nat) (hk : k < fs.length) (h : lows (fs[k]).1 = lows n) : valsOf (fs.take (k + 1)) n = valsOf (fs.take k) n ++ [(fs[k]).2] := by
  unfold valsOf
  rw [List.take_succ_eq_append_getElem hk, List.filter_append, List.map_append]
  simp [h]
theorem vals_miss (fs : FL) (n : List UInt8) (k : Nat) (hk : k < fs.length) (h : ¬ lows (fs[k]).1 = lows n) : valsOf (fs.take (k + 1)) n = valsOf (fs.take k) n := by
  unfold valsOf
  rw [List.take_succ_eq_append_getElem hk, List.filter_append, List.map_append]
  simp [h]
theorem without_hit (fs : FL) (ns : List (List UInt8)) (k : Nat) (hk : k < fs.length) (h : lows (fs[k]).1 ∈ ns.map lows) : withoutOf (fs.take (k + 1)) ns = withoutOf (fs.take k) ns := by
  unfold withoutOf
  rw [List.take_succ_eq_append_getElem hk, List.filter_append]
  have : decide (lows (fs[k]).1 ∉ ns.map lows) = false := by simpa using h
  simp only [List.filter_cons, this, List.filter_nil]
  simp
theorem without_miss (fs : FL) (ns : List (List UInt8)) (k : Nat) (hk : k < fs.length) (h : lows (fs[k]).1 ∉ ns.map lows) : withoutOf (fs.take (k + 1)) ns = withoutOf (fs.take k) ns ++ [fs[k]] := by
  unfold withoutOf
  rw [List.take_succ_eq_append_getElem hk, List.filter_append]
  have : decide (lows (fs[k]).1 ∉ ns.map lows) = true := by simpa using h
  simp only [List.filter_cons, this, List.filter_nil]
  simp
theorem vals_without (fs : FL) (n : List UInt8) : valsOf (withoutOf fs [n]) n = [] := by
  unfold valsOf withoutOf
  rw [List.filter_filter, List.filter_eq_nil_iff.2, List.map_nil]
  intro f _
  simp
theorem vals_put (fs : FL) (n v : List UInt8) : valsOf (putOf fs n v) n = [v] := by
  have h := vals_without fs n
  unfold valsOf at h ⊢
  unfold putOf
  rw [List.filter_append, List.map_append, h]
  simp
theorem vals_put_other (fs : FL) (n v o : List UInt8) (hne : ¬ lows o = lows n) : valsOf (putOf fs n v) o = valsOf fs o := by
  unfold valsOf putOf withoutOf
  rw [List.filter_append, List.map_append, List.filter_filter]
  have h1 : decide (lows (n, v).1 = lows o) = false := by simpa using fun e => hne e.symm
  have h2 : (List.filter (fun f : List UInt8 × List UInt8 => decide (lows f.1 = lows o)) [(n, v)]) = [] := by
    simp only [List.filter_cons, h1, List.filter_nil]; simp
  rw [h2, List.map_nil, List.append_nil]
  congr 1
  apply List.filter_congr
  intro f _
  by_cases e : lows f.1 = lows o
  · simp [e]
    exact hne
  · simp [e]
theorem vals_without_put (fs : FL) (n v : List UInt8) : valsOf (withoutOf (putOf fs n v) [n]) n = [] := vals_without _ _
end Go.Proofs.YtipcmbonhkelbabGreatDoor
namespace Go.Proofs.YtipcmbonhkelbabGreatDoor
open Go.RowKit
def cellsF (ps : FL) : List Value := ps.flatMap (fun p => [S p.1, S p.2])
theorem cellsF_len (ps : FL) : (cellsF ps).length = ps.length * 2 := by
  induction ps with
  | nil => rfl
  | cons p ps ih => simp only [cellsF, List.flatMap_cons, List.length_append, List.length_cons, List.length_nil] at ih ⊢; omega
theorem cellsF_snoc (ps : FL) (p : List UInt8 × List UInt8) : cellsF (ps ++ [p]) = cellsF ps ++ [S p.1, S p.2] := by simp [cellsF]
theorem cellsF_append (ps qs : FL) : cellsF (ps ++ qs) = cellsF ps ++ cellsF qs := by simp [cellsF]
theorem cellsF_at : ∀ (ps : FL) (j : Nat) (h : j < ps.length), (cellsF ps)[j * 2]? = some (S ps[j].1) ∧ (cellsF ps)[j * 2 + 1]? = some (S ps[j].2) := by
  intro ps
  induction ps with
  | nil => intro j h; simp at h
  | cons p ps ih =>
    intro j h
    have e : cellsF (p :: ps) = S p.1 :: S p.2 :: cellsF ps := by simp [cellsF]
    rw [e]
    cases j with
    | zero => simp
    | succ j =>
      have := ih j (by simpa using h)
      rw [show (j + 1) * 2 = j * 2 + 2 by omega]
      simpa using this
theorem cellsF_one (ps : FL) : ∀ u ∈ cellsF ps, u.oneCell' = true := by
  intro u hu
  obtain ⟨p, _, hu⟩ := List.mem_flatMap.1 hu
  simp at hu; rcases hu with rfl | rfl <;> rfl
theorem Tryz.info42 : (Tryz.prog.info? 42).map (fun i => (i.zero, i.size, i.bytes)) = some (some (.agg #[.string ⟨#[]⟩, .string ⟨#[]⟩]), 2, 32) := by kernel_rfl
def OwnF (w0 : World) (v : Value) (ps : FL) (w : World) : Prop := w.ownsRow w0.heap.size 42 2 v ps.length (cellsF ps) ∧ Below w0.heap.size w0 w
theorem ownF_nil (w0 w : World) (h : Below w0.heap.size w0 w) : OwnF w0 (.slice none 0 0) [] w := ⟨World.ownsRow_nil _ _ _ _, h⟩
theorem ownF_empty (w0 : World) : OwnF w0 (.slice (some ⟨w0.heap.size, 0, none⟩) 0 0) [] (w0.alloc (.cells #[] 42)) :=
  ⟨World.ownsRow_lit w0 #[] 0 (Nat.le_refl _) (by decide) rfl, (Below.refl _ _).alloc (Nat.le_refl _) _⟩
theorem ownF_mono {w0 w w' : World} {v : Value} {ps : FL} (h : OwnF w0 v ps w) (hb : Below w.heap.size w w') : OwnF w0 v ps w' := by
  have hz := h.2.size
  refine ⟨?_, h.2.trans (hb.mono hz)⟩
  obtain ⟨hl, h1 | ⟨g, cap, cur, rfl, hg, hh, hr⟩⟩ := h.1
  · exact ⟨hl, .inl h1⟩
  · have hlt : g < w.heap.size := by
      rcases Nat.lt_or_ge g w.heap.size with h | h
      · exact h
      · rw [Array.getElem?_eq_none (by omega)] at hh; cases hh
    exact ⟨hl, .inr ⟨g, cap, cur, rfl, hg, by rw [hb.block g hlt]; exact hh, hr⟩⟩
theorem ownF_base {w w1 w2 : World} {v : Value} {ps : FL} (h : OwnF w1 v ps w2) (hb : Below w.heap.size w w1) : OwnF w v ps w2 := by
  have hz := hb.size
  refine ⟨?_, hb.trans (h.2.mono hz)⟩
  obtain ⟨hl, h1 | ⟨g, cap, cur, hv, hg, hr⟩⟩ := h.1
  · exact ⟨hl, .inl h1⟩
  · exact ⟨hl, .inr ⟨g, cap, cur, hv, by omega, hr⟩⟩
/-- v is a slice whose elements are the fields ps -/
def HoldsF (w : World) (v : Value) (ps : FL) : Prop :=
  ∃ ao cap, v = .slice ao ps.length cap ∧ (ao = none → cap = 0) ∧ ps.length ≤ cap ∧ (ps ≠ [] → ∃ b off, ao = some ⟨b, off, none⟩ ∧ b < w.heap.size ∧ ∀ j (h : j < ps.length), w.cell? ⟨b, off + j * 2, none⟩ = some (S ps[j].1) ∧ w.cell? ⟨b, off + j * 2 + 1, none⟩ = some (S ps[j].2))
theorem holdsF_own {w0 w : World} {v : Value} {ps : FL} (h : OwnF w0 v ps w) : HoldsF w v ps := by
  obtain ⟨hl, h1 | ⟨g, cap, cur, rfl, hg, hh, hr⟩⟩ := h.1
  · obtain ⟨rfl, hn⟩ := h1
    obtain rfl : ps = [] := List.eq_nil_of_length_eq_zero hn
    exact ⟨none, 0, rfl, fun _ => rfl, Nat.le_refl _, fun h => absurd rfl h⟩
  · refine ⟨_, cap, rfl, fun e => (by cases e), hr.1, fun _ => ⟨g, 0, rfl, (h.1.lt g rfl).2, fun j hj => ?_⟩⟩
    have c := cellsF_at ps j hj
    rw [Nat.zero_add]
    exact ⟨by rw [h.1.cellAt (j * 2) (by omega)]; exact c.1, by rw [h.1.cellAt (j * 2 + 1) (by omega)]; exact c.2⟩
theorem holdsF_mono {w w' : World} {v : Value} {ps : FL} (h : HoldsF w v ps) (hb : Below w.heap.size w w') : HoldsF w' v ps := by
  obtain ⟨ao, cap, rfl, h0, hcp, hc⟩ := h
  refine ⟨ao, cap, rfl, h0, hcp, fun hne => ?_⟩
  obtain ⟨b, off, rfl, hlt, hcell⟩ := hc hne
  have := hb.size
  exact ⟨b, off, rfl, by omega, fun j hj => ⟨by rw [hb.cell (p := ⟨b, off + j * 2, none⟩) hlt]; exact (hcell j hj).1, by rw [hb.cell (p := ⟨b, off + j * 2 + 1, none⟩) hlt]; exact (hcell j hj).2⟩⟩
theorem bt' {w W W' : World} (a : Below w.heap.size w W) (b : Below W.heap.size W W') : Below w.heap.size w W' := a.trans (b.mono a.size)
/-- one field appended -/
theorem appF {ops : Array Oper} {rest : List Oper} {o : Oper} {a : Act} {Q : Exit → Act → World → Prop} {wr : World} {x y : ByteArray} {H : Nat} (hgd : o.guard = none) (s z : Operand)
    (ho : o.op = .call { callee := .builtin .append, args := #[s, z], argTypes := #[22, 22] }) (w0 : World) (v : Value) (ps : FL) (hs : a.eval s = v) (hown : OwnF w0 v ps wr)
    (p : List UInt8 × List UInt8) (hx : x = ⟨p.1.toArray⟩) (hy : y = ⟨p.2.toArray⟩) (hz : a.eval z = .slice (some ⟨H, 0, none⟩) 1 1) (hH : wr.heap.size = H) (hlen : (ps.length + 1) * 32 ≤ 140737488355328)
    (h : ∀ v' w', OwnF w0 v' (ps ++ [p]) w' → wpList Tryz.prog ops Q rest (a.put o.dst v') w') : wpList Tryz.prog ops Q (o :: rest) a (wr.alloc (.cells #[.string x, .string y] 42)) := by
  subst hx hy hH
  obtain ⟨i0, hi, hz0, hz1, hz2⟩ := info_parts Tryz.info42
  have hsz := hown.2.size
  refine wpList_append_own _ hgd s z 22 ho w0.heap.size 42 i0 (.agg #[.string ⟨#[]⟩, .string ⟨#[]⟩]) 2 32 Tryz.underlying22 hi hz0 hz1 hz2 rfl (by decide) v ps.length (cellsF ps) hs (hown.1.alloc _) ⟨wr.heap.size, 0, none⟩ 1 1 [S p.1, S p.2] hz rfl ?_ ?_ ?_ ?_ ?_ ?_
  · intro j u hj
    match j, hj with
    | 0, hj => simp at hj; subst hj; simp [Addr.add, S]
    | 1, hj => simp at hj; subst hj; simp [Addr.add, S]
  · intro u hu; simp at hu; rcases hu with rfl | rfl <;> rfl
  · unfold maxLen; omega
  · omega
  · simp; omega
  · intro v' w' h1 h2 _
    refine h v' w' ⟨by rw [cellsF_snoc]; simpa using h1, ?_⟩
    refine Below.grown (hown.2.alloc (by omega) _) h2 (by simp; omega) ?_
    intro k hk
    exact (hown.1.lt k hk).1
/-- a whole list of fields appended -/
theorem appAllF {ops : Array Oper} {rest : List Oper} {o : Oper} {a : Act} {Q : Exit → Act → World → Prop} {wr : World} (hgd : o.guard = none) (s z : Operand)
    (ho : o.op = .call { callee := .builtin .append, args := #[s, z], argTypes := #[22, 22] }) (w0 : World) (v : Value) (ps : FL) (hs : a.eval s = v) (hown : OwnF w0 v ps wr)
    (u : Value) (qs : FL) (hz : a.eval z = u) (hu : HoldsF wr u qs) (hlen : (ps.length + qs.length) * 32 ≤ 140737488355328)
    (h : ∀ v' w', OwnF w0 v' (ps ++ qs) w' → wpList Tryz.prog ops Q rest (a.put o.dst v') w') : wpList Tryz.prog ops Q (o :: rest) a wr := by
  obtain ⟨i0, hi, hz0, hz1, hz2⟩ := info_parts Tryz.info42
  have hsz := hown.2.size
  obtain ⟨ao, cap, rfl, h0, hcp, hc⟩ := hu
  have key : ∀ (ad : Addr), ao = some ad → (∀ j x, (cellsF qs)[j]? = some x → wr.cell? (ad.add j) = some x) → wpList Tryz.prog ops Q (o :: rest) a wr := by
    intro ad e hnews
    subst e
    refine wpList_append_own _ hgd s z 22 ho w0.heap.size 42 i0 (.agg #[.string ⟨#[]⟩, .string ⟨#[]⟩]) 2 32 Tryz.underlying22 hi hz0 hz1 hz2 rfl (by decide) v ps.length (cellsF ps) hs hown.1 ad qs.length cap (cellsF qs) hz (cellsF_len qs) hnews (cellsF_one qs) (by unfold maxLen; omega) (by omega) hsz ?_
    intro v' w' h1 h2 _
    refine h v' w' ⟨by rw [cellsF_append, List.length_append]; exact h1, ?_⟩
    refine Below.grown hown.2 h2 (by omega) ?_
    intro k hk
    exact (hown.1.lt k hk).1
  by_cases hq : qs = []
  · subst hq
    cases ao with
    | none =>
      obtain rfl := h0 rfl
      refine wpList_append_own_none hgd s z 22 ho w0.heap.size 42 i0 2 Tryz.underlying22 hi v ps.length (cellsF ps) hs hown.1 hz ?_
      exact h v wr (by rw [List.append_nil]; exact hown)
    | some ad => exact key ad rfl (fun j x hj => by simp [cellsF] at hj)
  · obtain ⟨b, off, rfl, hlt, hcell⟩ := hc hq
    refine key ⟨b, off, none⟩ rfl (fun j x hj => ?_)
    have hjl : j < qs.length * 2 := by
      rcases Nat.lt_or_ge j (qs.length * 2) with h | h
      · exact h
      · rw [List.getElem?_eq_none (by rw [cellsF_len]; omega)] at hj; cases hj
    have e : (⟨b, off, none⟩ : Addr).add j = ⟨b, off + j, none⟩ := Go.WideShapes.add_plain _ _ _
    rw [e]
    rcases (by omega : j = j / 2 * 2 ∨ j = j / 2 * 2 + 1) with hj2 | hj2
    · have hk : j / 2 < qs.length := by omega
      have c := (cellsF_at qs (j / 2) hk).1
      rw [← hj2] at c
      rw [c] at hj
      have d := (hcell (j / 2) hk).1
      rw [← hj2] at d
      rw [d]; exact hj
    · have hk : j / 2 < qs.length := by omega
      have c := (cellsF_at qs (j / 2) hk).2
      rw [← hj2] at c
      rw [c] at hj
      have d := (hcell (j / 2) hk).2
      rw [Nat.add_assoc, ← hj2] at d
      rw [d]; exact hj
theorem holdsF_lit0 (w : World) : HoldsF w (.slice none 0 0) [] := ⟨none, 0, rfl, fun _ => rfl, Nat.le_refl _, fun h => absurd rfl h⟩
theorem holdsF_lit1 (w : World) (x y : List UInt8) : HoldsF (w.alloc (.cells #[S x, S y] 42)) (.slice (some ⟨w.heap.size, 0, none⟩) 1 1) [(x, y)] := by
  refine ⟨_, 1, rfl, (fun e => by cases e), Nat.le_refl _, fun _ => ⟨w.heap.size, 0, rfl, by simp, fun j hj => ?_⟩⟩
  match j, hj with
  | 0, _ => simp
theorem holdsF_lit2 (w : World) (x y x' y' : List UInt8) : HoldsF (w.alloc (.cells #[S x, S y, S x', S y'] 42)) (.slice (some ⟨w.heap.size, 0, none⟩) 2 2) [(x, y), (x', y')] := by
  refine ⟨_, 2, rfl, (fun e => by cases e), Nat.le_refl _, fun _ => ⟨w.heap.size, 0, rfl, by simp, fun j hj => ?_⟩⟩
  match j, hj with
  | 0, _ => simp
  | 1, _ => simp
end Go.Proofs.YtipcmbonhkelbabGreatDoor
namespace Go.Proofs.YtipcmbonhkelbabGreatDoor
open Go.RowKit
set_option maxHeartbeats 400000 in
theorem copyF (v : Value) (fs : FL) (w : World) (hv : HoldsF w v fs) (hl : fs.length * 32 ≤ 140737488355328) :
    Calls Tryz.prog 14 #[v] w fun e w' => ∃ u, e = .returned u ∧ OwnF w u fs w' := by
  have hv2 := holdsF_mono hv (below_alloc' w (.cells #[] 42))
  have HV : Hid _ := hv2
  clear hv hv2
  go_enter Tryz.func14, Tryz.ntmps14
  go_wp2_with (at_builtin; refine appAllF rfl (.tmp 5) (.tmp 6) rfl w _ [] rfl (ownF_empty w) v fs rfl HV.out (by simpa using hl) ?_; intro v2 w2 hown2)
  go_ret
  exact ⟨v2, rfl, hown2⟩
set_option maxHeartbeats 1000000 in
theorem sameF (va vb : Value) (xs ys : FL) (w : World) (ha : HoldsF w va xs) (hb : HoldsF w vb ys) (la : xs.length ≤ 1000000000000000) (lb : ys.length ≤ 1000000000000000) :
    Calls Tryz.prog 31 #[va, vb] w fun e w' => e = .returned (.bool (decide (xs = ys))) ∧ ∃ n, w' = w.drewN n := by
  obtain ⟨ao, ca, rfl, _, _, hca⟩ := ha
  obtain ⟨bo, cb, rfl, _, _, hcb⟩ := hb
  by_cases hl : xs.length = ys.length
  · by_cases hz : xs.length = 0
    · have e1 : xs = [] := List.eq_nil_of_length_eq_zero hz
      have e2 : ys = [] := List.eq_nil_of_length_eq_zero (by omega)
      subst e1 e2
      clear hca hcb hl hz la lb
      go_enter Tryz.func31, Tryz.ntmps31
      go_wp2
      go_rounds 1
      go_ret
      exact ⟨rfl, 0, rfl⟩
    · obtain ⟨b1, o1, rfl, hlt1, c1⟩ := hca (fun e => hz (by rw [e]; rfl))
      obtain ⟨b2, o2, rfl, hlt2, c2⟩ := hcb (fun e => hz (by rw [hl, e]; rfl))
      have C1 : Hid _ := c1
      have C2 : Hid _ := c2
      obtain ⟨n, hn⟩ : ∃ n, n = xs.length := ⟨_, rfl⟩
      have N1 : Hid (xs.length = n) := hn.symm
      have N2 : Hid (ys.length = n) := by unfold Hid; omega
      have ln : n ≤ 1000000000000000 := by omega
      rw [N1.out, N2.out]
      clear hca hcb c1 c2 hl hz la lb hn
      go_enter Tryz.func31, Tryz.ntmps31
      go_wp2
      go_loopw [5] (fun i wr => ∃ k : Nat, k ≤ n ∧ i = .int .i64 k ∧ Hid (xs.take k = ys.take k) ∧ ∃ m, Hid (wr = w.drewN m)) (fun i _ => n - (intOf i).toNat)
      case atStart => exact ⟨0, by omega, rfl, rfl, 0, rfl⟩
      case round =>
        obtain ⟨k, hk, rfl, hE, m, hw⟩ := hrel
        have hw' := hw.out
        subst hw'
        by_cases hlt : k < n
        · have x1 := C1.out k (by rw [N1.out]; exact hlt)
          have x2 := C2.out k (by rw [N2.out]; exact hlt)
          unfold S at x1 x2
          have G1 : Hid (k < xs.length) := by unfold Hid; rw [N1.out]; exact hlt
          have G2 : Hid (k < ys.length) := by unfold Hid; rw [N2.out]; exact hlt
          by_cases he : xs[k]'G1.out = ys[k]'G2.out
          · have E : Hid (xs.take (k + 1) = ys.take (k + 1)) := by
              unfold Hid; rw [List.take_succ_eq_append_getElem G1.out, List.take_succ_eq_append_getElem G2.out, hE.out, he]
            rw [he] at x1
            generalize (ys[k]'G2.out).1.toArray = y1 at x1 x2
            generalize (ys[k]'G2.out).2.toArray = y2 at x1 x2
            clear he
            obtain ⟨x11, x12⟩ := x1
            obtain ⟨x21, x22⟩ := x2
            go_wp2
            go_quiet (fail)
            go_wp2
            go_roundw
            case rel => exact ⟨k + 1, by omega, by go_num, E, _, rfl⟩
            case measure => simp [intOf]; omega
          · have F : Hid (decide (xs = ys) = false) := by
              unfold Hid; rw [decide_eq_false_iff_not]; intro e; subst e; exact he rfl
            by_cases he1 : (xs[k]'G1.out).1 = (ys[k]'G2.out).1
            · have he2 : ¬ (xs[k]'G1.out).2 = (ys[k]'G2.out).2 := fun e2 => he (Prod.ext he1 e2)
              have hne : ((⟨(xs[k]'G1.out).2.toArray⟩ : ByteArray).toList == (⟨(ys[k]'G2.out).2.toArray⟩ : ByteArray).toList) = false := by
                rw [Lib.toList_data, Lib.toList_data]; simpa using he2
              rw [he1] at x1
              generalize (ys[k]'G2.out).1.toArray = y1 at x1 x2
              generalize (xs[k]'G1.out).2.toArray = x' at x1 hne
              generalize (ys[k]'G2.out).2.toArray = y' at x2 hne
              clear he he1 he2
              obtain ⟨x11, x12⟩ := x1
              obtain ⟨x21, x22⟩ := x2
              go_wp2
              go_quiet (fail)
              go_wp2
              go_ret
              rw [F.out]
              exact ⟨rfl, _, World.drewN_drewN _ _ _⟩
            · have hne : ((⟨(xs[k]'G1.out).1.toArray⟩ : ByteArray).toList == (⟨(ys[k]'G2.out).1.toArray⟩ : ByteArray).toList) = false := by
                rw [Lib.toList_data, Lib.toList_data]; simpa using he1
              generalize (xs[k]'G1.out).1.toArray = x at x1 hne
              generalize (ys[k]'G2.out).1.toArray = y at x2 hne
              generalize (xs[k]'G1.out).2.toArray = x' at x1
              generalize (ys[k]'G2.out).2.toArray = y' at x2
              clear he he1
              obtain ⟨x11, x12⟩ := x1
              obtain ⟨x21, x22⟩ := x2
              go_wp2
              go_quiet (fail)
              go_wp2
              go_ret
              rw [F.out]
              exact ⟨rfl, _, World.drewN_drewN _ _ _⟩
        · have F : Hid (decide (xs = ys) = true) := by
            unfold Hid; rw [decide_eq_true_iff]
            have := hE.out
            rwa [List.take_of_length_le (by rw [N1.out]; omega), List.take_of_length_le (by rw [N2.out]; omega)] at this
          go_wp2
          go_ret
          rw [F.out]
          exact ⟨rfl, m, rfl⟩
  · have F : Hid (decide (xs = ys) = false) := by
      unfold Hid; rw [decide_eq_false_iff_not]; intro e; subst e; exact hl rfl
    have hl' : ((xs.length : Int) != (ys.length : Int)) = true := by simp; omega
    clear hca hcb hl
    generalize xs.length = n1 at la hl' ⊢
    generalize ys.length = n2 at lb hl' ⊢
    go_enter Tryz.func31, Tryz.ntmps31
    go_wp2
    go_ret
    rw [F.out]
    exact ⟨rfl, 0, rfl⟩
end Go.Proofs.YtipcmbonhkelbabGreatDoor
namespace Go.Proofs.YtipcmbonhkelbabGreatDoor
open Go.RowKit Go.Maps
/-- the two cells of a variable of the call's own -/
def Two (w0 w : World) : Prop := (∃ x, w.cell? ⟨w0.heap.size, 0, none⟩ = some (.string x)) ∧ (∃ x, w.cell? ⟨w0.heap.size, 1, none⟩ = some (.string x)) ∧ w.frozen? ⟨w0.heap.size, 0, none⟩ = false ∧ w.frozen? ⟨w0.heap.size, 1, none⟩ = false ∧ w0.heap.size < w.heap.size ∧ Below w0.heap.size w0 w
theorem two_start (w : World) : Two w (w.alloc (.cells #[.string ⟨#[]⟩, .string ⟨#[]⟩] 42)) :=
  ⟨⟨⟨#[]⟩, by simp⟩, ⟨⟨#[]⟩, by simp⟩, by simp, by simp, by simp, (Below.refl _ _).alloc (Nat.le_refl _) _⟩
theorem two_below {w0 w w' : World} (h : Two w0 w) (hb : Below w.heap.size w w') : Two w0 w' := by
  obtain ⟨⟨x, h1⟩, ⟨y, h2⟩, h3, h4, h5, h6⟩ := h
  obtain ⟨c, f⟩ := bcell hb
  have := hb.size
  exact ⟨⟨x, by rw [c _ _ h5]; exact h1⟩, ⟨y, by rw [c _ _ h5]; exact h2⟩, by rw [f _ _ h5]; exact h3, by rw [f _ _ h5]; exact h4, by omega, h6.trans (hb.mono h6.size)⟩
theorem two_drawn {w0 w : World} (h : Two w0 w) (n : Nat) : Two w0 (w.drewN n) := two_below h (below_drewN w n)
theorem two_store {w0 w : World} (h : Two w0 w) (a b : Value) : ((w.setCell ⟨w0.heap.size, 0, none⟩ a).setCell ⟨w0.heap.size, 1, none⟩ b).cell? ⟨w0.heap.size, 0, none⟩ = some a ∧ ((w.setCell ⟨w0.heap.size, 0, none⟩ a).setCell ⟨w0.heap.size, 1, none⟩ b).cell? ⟨w0.heap.size, 1, none⟩ = some b ∧ Below w0.heap.size w0 ((w.setCell ⟨w0.heap.size, 0, none⟩ a).setCell ⟨w0.heap.size, 1, none⟩ b) := by
  obtain ⟨⟨x, h1⟩, ⟨y, h2⟩, h3, h4, h5, h6⟩ := h
  refine ⟨?_, ?_, (h6.setCell (Nat.le_refl _) _).setCell (Nat.le_refl _) _⟩
  · rw [World.cell?_setCell_other _ _ _ _ (by simp)]
    exact World.cell?_setCell_same _ _ _ h1
  · refine World.cell?_setCell_same (u := .string y) _ _ _ ?_
    rw [World.cell?_setCell_other _ _ _ _ (by simp)]
    exact h2
set_option maxHeartbeats 400000 in
theorem cloneF (x y : ByteArray) (w : World) (hx : x.size ≤ 140737488351232) (hy : y.size ≤ 140737488351232) :
    Calls Tryz.prog 40 #[.string x, .string y] w fun e w' => e = .returned (.agg #[.string x, .string y]) ∧ Below w.heap.size w w' := by
  go_enter Tryz.func40, Tryz.ntmps40
  go_wp2_with fail
  refine (clone x _ hx).mono ?_
  rintro e w1 ⟨rfl, h1⟩
  have T1 : Hid (Two w w1) := two_below (two_start w) h1
  clear h1
  go_wp2_with fail
  refine (clone y _ hy).mono ?_
  rintro e w2 ⟨rfl, h2⟩
  have T2 : Hid (Two w w2) := two_below T1.out h2
  clear h2 T1
  obtain ⟨⟨x1, c1⟩, ⟨x2, c2⟩, f1, f2, z, bel⟩ := T2.out
  go_wp2_with fail
  obtain ⟨q1, q2, q3⟩ := two_store T2.out (.string x) (.string y)
  exact bodyPost_ret (v := .agg #[.string x, .string y]) (by simp [results, Tryz.results40, go_sem, q1, q2]) rfl ⟨rfl, q3⟩
theorem ownsMap_below {H : Type} {P : Program} {k : TypeId} {R : Value → Option (DataW H × List MemPlace)} {b n : Nat} {D : DataW H} {w w' : World} (h : w.ownsMap P k R b n D) (hb : Below w.heap.size w w') : w'.ownsMap P k R b n D := by
  have hlt := h.lt
  obtain ⟨es, clock, hbk, F, hs, hD⟩ := h
  exact ⟨es, clock, by rw [hb.block b hlt]; exact hbk, F, hs, hD⟩
def keysOf (ns : List (List UInt8)) : List Lit := ns.map (fun n => Lit.string (lows n))
def setN (ns : List (List UInt8)) : DataW Unit := setOf (.agg []) (keysOf ns)
theorem setN_step (ns : List (List UInt8)) (k : Nat) (h : k < ns.length) : setN (ns.take (k + 1)) = (setN (ns.take k)).put (.string (lows ns[k])) (.agg []) := by
  unfold setN keysOf
  rw [List.take_succ_eq_append_getElem h, List.map_append, List.map_cons, List.map_nil, setOf_snoc]
theorem has_setN (ns : List (List UInt8)) (x : List UInt8) : Maps.has (setN ns) (.string x) = decide (x ∈ ns.map lows) := by
  unfold setN
  rw [has_setOf _ _ _ (by intro y hy; obtain ⟨n, _, rfl⟩ := List.mem_map.1 hy; exact trivial), Bool.eq_iff_iff, List.any_eq_true, decide_eq_true_iff]
  constructor
  · rintro ⟨y, hy, hs⟩
    obtain ⟨n, hn, rfl⟩ := List.mem_map.1 hy
    have := WideAt.sameKey_eq hs
    injection this with e
    exact List.mem_map.2 ⟨n, hn, e⟩
  · intro h
    obtain ⟨n, hn, rfl⟩ := List.mem_map.1 h
    exact ⟨_, List.mem_map.2 ⟨n, hn, rfl⟩, WideAt.sameKey_self trivial⟩
theorem keyLaw : Keyed Tryz.prog 9 := string_keyed Tryz.underlying9
theorem zeroUF (w : World) : (zeroValue 70).run Tryz.prog w = .ok (.agg #[]) w := by kernel_rfl
theorem mk_map (w : World) (n : Int) : (Instr.makeMap 69 (some (.int .i64 n))).run Tryz.prog w = .ok (.map (some w.heap.size)) (w.alloc (.map #[] 0)) := by
  simp [Instr.makeMap, run_underlying Tryz.underlying69, asInt, asIntOf, Result.andThen]
theorem holds_parts {w : World} {v : Value} {ss : List (List UInt8)} (h : Holds w v ss) : ∃ ao cap b off, v = .slice ao ss.length cap ∧ (0 < ss.length → ao = some ⟨b, off, none⟩ ∧ b < w.heap.size ∧ ∀ j (h : j < ss.length), w.cell? ⟨b, off + j, none⟩ = some (S ss[j])) := by
  obtain ⟨ao, cap, rfl, hc⟩ := h
  by_cases he : ss = []
  · subst he; exact ⟨ao, cap, 0, 0, rfl, fun h => absurd h (by simp)⟩
  · obtain ⟨b, off, h1, h2, h3⟩ := hc he
    exact ⟨ao, cap, b, off, rfl, fun _ => ⟨h1, h2, h3⟩⟩
theorem holdsF_parts {w : World} {v : Value} {ps : FL} (h : HoldsF w v ps) : ∃ ao cap b off, v = .slice ao ps.length cap ∧ (0 < ps.length → ao = some ⟨b, off, none⟩ ∧ b < w.heap.size ∧ ∀ j (h : j < ps.length), w.cell? ⟨b, off + j * 2, none⟩ = some (S ps[j].1) ∧ w.cell? ⟨b, off + j * 2 + 1, none⟩ = some (S ps[j].2)) := by
  obtain ⟨ao, cap, rfl, _, _, hc⟩ := h
  by_cases he : ps = []
  · subst he; exact ⟨ao, cap, 0, 0, rfl, fun h => absurd h (by simp)⟩
  · obtain ⟨b, off, h1, h2, h3⟩ := hc he
    exact ⟨ao, cap, b, off, rfl, fun _ => ⟨h1, h2, h3⟩⟩
set_option maxHeartbeats 2000000 in
theorem withoutTok (v vn : Value) (fs : FL) (ns : List (List UInt8)) (w : World) (hv : HoldsF w v fs) (hn : Holds w vn ns) (hfit : Fit fs) (hfn : ∀ n ∈ ns, n.length ≤ 140737488351232)
    (hl : fs.length * 32 ≤ 140737488355328) (hln : ns.length ≤ 8796093022208) :
    Calls Tryz.prog 18 #[v, vn] w fun e w' => ∃ u, e = .returned u ∧ OwnF w u (withoutOf fs ns) w' := by
  obtain ⟨ao, ca, b1, o1, rfl, hca⟩ := holdsF_parts hv
  obtain ⟨bo, cb, b2, o2, rfl, hcb⟩ := holds_parts hn
  have CA : Hid _ := hca
  have CB : Hid _ := hcb
  have FT : Hid _ := hfit
  have FN : Hid _ := hfn
  clear hca hcb hv hn hfit hfn
  obtain ⟨n, en⟩ : ∃ n, n = fs.length := ⟨_, rfl⟩
  obtain ⟨m, em⟩ : ∃ m, m = ns.length := ⟨_, rfl⟩
  have N : Hid (fs.length = n) := en.symm
  have M : Hid (ns.length = m) := em.symm
  rw [N.out] at hl ⊢
  rw [M.out] at hln ⊢
  clear en em
  have hmm := mk_map w m
  go_enter Tryz.func18, Tryz.ntmps18
  go_wp2_with fail
  clear hmm
  go_loopw [18] (fun i wr => ∃ k : Nat, k ≤ m ∧ i = .int .i64 k ∧ wr.ownsMap Tryz.prog 9 (unitElem (H := Unit)) w.heap.size k (setN (ns.take k)) ∧ Below w.heap.size w wr) (fun i _ => m - (intOf i).toNat)
  case atStart => exact ⟨0, Nat.zero_le _, rfl, World.ownsMap_made _ _ _ _, (Below.refl _ _).alloc (Nat.le_refl _) _⟩
  case round =>
    obtain ⟨k, hk, rfl, hown, hnx⟩ := hrel
    by_cases hlt : k < m
    · have G : Hid (k < ns.length) := by unfold Hid; rw [M.out]; exact hlt
      obtain ⟨hbo, hblt, hcell⟩ := CB.out (by have := G.out; omega)
      subst hbo
      have ck : wr.cell? ⟨b2, o2 + k, none⟩ = some (.string ⟨(ns[k]'G.out).toArray⟩) := by
        rw [hnx.cell (p := ⟨b2, o2 + k, none⟩) hblt]; exact hcell k G.out
      have R : Hid (setN (ns.take (k + 1)) = (setN (ns.take k)).put (.string (lows (ns[k]'G.out))) (.agg [])) := setN_step ns k G.out
      have hsz := FN.out _ (List.getElem_mem G.out)
      have cF := fun W => foldTok ⟨(ns[k]'G.out).toArray⟩ W (by rw [size_l]; exact hsz)
      have hlk : (lows (ns[k]'G.out)).length ≤ 140737488351232 := by rw [lows_len]; exact hsz
      have HK : Hid (keyOf Tryz.prog 9 (.string ⟨(lows (ns[k]'G.out)).toArray⟩) = some (.string (lows (ns[k]'G.out)))) := WideMaps.keyOf_string_mk Tryz.underlying9 (by rw [size_l]; unfold maxLen; omega)
      clear hcell
      simp only at cF
      generalize ns[k]'G.out = q at ck cF hsz R hlk HK
      have CF := hide' cF
      clear cF
      go_wp2_with (first
        | (go_at_call 39; refine (CF.out _).mono ?_; rintro e w2 ⟨rfl, hb2⟩; have hown2 := ownsMap_below hown hb2; have hnx2 : Below w.heap.size w w2 := hnx.trans (hb2.mono hnx.size); clear hown hnx)
        | (at_mapUpdate; refine wpList_mapUpdate_own _ rfl _ _ _ 69 rfl 9 70 keyLaw Tryz.underlying69 (unitElem (H := Unit)) w.heap.size k _ rfl hown2 (by unfold maxLen; omega) _ _ _ rfl rfl HK.out _ [] unitElem_mk ?_; intro w3 hown3 hgrow3))
      go_roundw
      case rel => exact ⟨k + 1, by omega, by go_num, by rw [R.out]; exact hown3, hnx2.grown hgrow3 hnx2.size (fun j hj => by cases hj; exact Nat.le_refl _)⟩
      case measure => simp [intOf]; omega
    · have E : Hid (ns.take k = ns) := List.take_of_length_le (by rw [M.out]; omega)
      rw [E.out] at hown
      clear E CB FN M
      obtain ⟨w1, ew⟩ : ∃ w1, w1 = wr := ⟨_, rfl⟩
      subst ew
      have LK : Hid (∀ W, Below w1.heap.size w1 W → W.ownsMap Tryz.prog 9 (unitElem (H := Unit)) w.heap.size k (setN ns)) := fun W hb => ownsMap_below hown hb
      have B1 := hide' hnx
      clear hown hnx
      go_wp2_with fail
      clear hlt hln hk
      go_loopw [8, 29] (fun v i wr => ∃ j : Nat, j ≤ n ∧ i = .int .i64 j ∧ OwnF w1 v (withoutOf (fs.take j) ns) wr) (fun _ i _ => n - (intOf i).toNat)
      case atStart => exact ⟨0, Nat.zero_le _, rfl, ownF_nil _ _ (Below.refl _ _)⟩
      case round =>
        obtain ⟨j, hj, rfl, ho⟩ := hrel
        have hac : (withoutOf (fs.take j) ns).length ≤ j := Nat.le_trans (without_len _ _) (List.length_take_le _ _)
        by_cases hlt : j < n
        · have G : Hid (j < fs.length) := by unfold Hid; rw [N.out]; exact hlt
          obtain ⟨hao, hblt, hcell⟩ := CA.out (by have := G.out; omega)
          subst hao
          obtain ⟨h1, h2⟩ := hcell j G.out
          have hblt1 : b1 < w1.heap.size := Nat.lt_of_lt_of_le hblt B1.out.size
          have c1 : wr.cell? ⟨b1, o1 + j * 2, none⟩ = some (.string ⟨(fs[j]'G.out).1.toArray⟩) := by
            rw [ho.2.cell (p := ⟨b1, o1 + j * 2, none⟩) hblt1, B1.out.cell (p := ⟨b1, o1 + j * 2, none⟩) hblt]; exact h1
          have c2 : wr.cell? ⟨b1, o1 + j * 2 + 1, none⟩ = some (.string ⟨(fs[j]'G.out).2.toArray⟩) := by
            rw [ho.2.cell (p := ⟨b1, o1 + j * 2 + 1, none⟩) hblt1, B1.out.cell (p := ⟨b1, o1 + j * 2 + 1, none⟩) hblt]; exact h2
          obtain ⟨hs1, hs2⟩ := fit_at FT.out j G.out
          have cF := fun W => foldTok ⟨(fs[j]'G.out).1.toArray⟩ W (by rw [size_l]; exact hs1)
          have cC := fun W => cloneF ⟨(fs[j]'G.out).1.toArray⟩ ⟨(fs[j]'G.out).2.toArray⟩ W (by rw [size_l]; exact hs1) (by rw [size_l]; exact hs2)
          have hlk : (lows (fs[j]'G.out).1).length ≤ 140737488351232 := by rw [lows_len]; exact hs1
          have HK : Hid (keyOf Tryz.prog 9 (.string ⟨(lows (fs[j]'G.out).1).toArray⟩) = some (.string (lows (fs[j]'G.out).1))) := WideMaps.keyOf_string_mk Tryz.underlying9 (by rw [size_l]; unfold maxLen; omega)
          have hh := has_setN ns (lows (fs[j]'G.out).1)
          clear hcell h1 h2
          simp only at cF
          have CF := hide' cF
          have CC := hide' cC
          clear cF cC
          by_cases hin : lows (fs[j]'G.out).1 ∈ ns.map lows
          · have R : Hid (withoutOf (fs.take (j + 1)) ns = withoutOf (fs.take j) ns) := without_hit fs ns j G.out hin
            rw [decide_eq_true hin] at hh
            clear hin
            generalize (fs[j]'G.out).1 = q1 at c1 CF CC hs1 hlk HK hh
            generalize (fs[j]'G.out).2 = q2 at c2 CC hs2
            go_wp2_with (first
            | (go_at_call 39; refine (CF.out _).mono ?_; rintro e w2 ⟨rfl, hb2⟩; have hz2 : wr.heap.size < w2.heap.size := (by have := hb2.size; simp at this; omega); have d1 : w2.cell? ⟨wr.heap.size, 0, none⟩ = some (.string ⟨q1.toArray⟩) := (by rw [hb2.cell (p := ⟨wr.heap.size, 0, none⟩) (by simp)]; simp); have d2 : w2.cell? ⟨wr.heap.size, 1, none⟩ = some (.string ⟨q2.toArray⟩) := (by rw [hb2.cell (p := ⟨wr.heap.size, 1, none⟩) (by simp)]; simp); have ho2 := ownF_mono (ownF_mono ho (below_alloc' wr (.cells #[.string ⟨q1.toArray⟩, .string ⟨q2.toArray⟩] 42))) hb2; have hm2 := LK.out w2 ho2.2; clear ho hb2 c1 c2)
            | (at_lookup; refine wpList_lookup_own_unit _ rfl _ _ 69 rfl 9 70 keyLaw Tryz.underlying69 (zeroUF _) w.heap.size k _ rfl hm2 _ _ rfl HK.out ?_))
            go_roundw
            case rel => exact ⟨j + 1, by omega, by go_num, by rw [R.out]; exact ownF_mono ho2 (below_alloc' _ _)⟩
            case measure => simp [intOf]; omega
          · have R : Hid (withoutOf (fs.take (j + 1)) ns = withoutOf (fs.take j) ns ++ [((fs[j]'G.out).1, (fs[j]'G.out).2)]) := without_miss fs ns j G.out hin
            rw [decide_eq_false hin] at hh
            clear hin
            generalize (fs[j]'G.out).1 = q1 at c1 CF CC hs1 hlk HK hh R
            generalize (fs[j]'G.out).2 = q2 at c2 CC hs2 R
            go_wp2_with (first
            | (go_at_call 39; refine (CF.out _).mono ?_; rintro e w2 ⟨rfl, hb2⟩; have hz2 : wr.heap.size < w2.heap.size := (by have := hb2.size; simp at this; omega); have d1 : w2.cell? ⟨wr.heap.size, 0, none⟩ = some (.string ⟨q1.toArray⟩) := (by rw [hb2.cell (p := ⟨wr.heap.size, 0, none⟩) (by simp)]; simp); have d2 : w2.cell? ⟨wr.heap.size, 1, none⟩ = some (.string ⟨q2.toArray⟩) := (by rw [hb2.cell (p := ⟨wr.heap.size, 1, none⟩) (by simp)]; simp); have ho2 := ownF_mono (ownF_mono ho (below_alloc' wr (.cells #[.string ⟨q1.toArray⟩, .string ⟨q2.toArray⟩] 42))) hb2; have hm2 := LK.out w2 ho2.2; clear ho hb2 c1 c2)
            | (at_lookup; refine wpList_lookup_own_unit _ rfl _ _ 69 rfl 9 70 keyLaw Tryz.underlying69 (zeroUF _) w.heap.size k _ rfl hm2 _ _ rfl HK.out ?_)
            | (go_at_call 40; refine (CC.out _).mono ?_; rintro e w4 ⟨rfl, hb4⟩; have ho4 := ownF_mono (ownF_mono ho2 (below_alloc' w2 (.cells #[] 70))) hb4; clear ho2 hb4 hm2 d1 d2)
            | (at_builtin; refine appF rfl (.tmp 43) (.tmp 49) rfl w1 _ _ rfl ho4 (q1, q2) rfl rfl rfl rfl (by omega) ?_; intro v5 w5 ho5))
            go_roundw
            case rel => exact ⟨j + 1, by omega, by go_num, by rw [R.out]; exact ho5⟩
            case measure => simp [intOf]; omega
        · have E : Hid (fs.take j = fs) := List.take_of_length_le (by rw [N.out]; omega)
          rw [E.out] at ho
          go_wp2_with fail
          go_ret
          exact ⟨_, rfl, ownF_base ho B1.out⟩
end Go.Proofs.YtipcmbonhkelbabGreatDoor
namespace Go.Proofs.YtipcmbonhkelbabGreatDoor
open Go.ChangeShapes Go.WideShapes Go.ChangeAt Go.RowKit
/-- how many letters and values fields hold -/
def bulkF : FL → Nat
  | [] => 0
  | f :: r => f.1.length + f.2.length + 3 + bulkF r
def bulkT : List (List UInt8) → Nat
  | [] => 0
  | f :: r => f.length + 1 + bulkT r
theorem bulkF_len (fs : FL) : fs.length ≤ bulkF fs := by
  induction fs with
  | nil => simp [bulkF]
  | cons f r ih => simp only [bulkF, List.length_cons]; omega
theorem bulkF_mem (fs : FL) : ∀ f ∈ fs, f.1.length + f.2.length ≤ bulkF fs := by
  induction fs with
  | nil => intro f hf; cases hf
  | cons g r ih =>
    intro f hf
    simp only [bulkF]
    rcases List.mem_cons.1 hf with rfl | hf
    · omega
    · have := ih f hf; omega
theorem bulkT_len (l : List (List UInt8)) : l.length ≤ bulkT l := by
  induction l with
  | nil => simp [bulkT]
  | cons f r ih => simp only [bulkT, List.length_cons]; omega
theorem bulkT_mem (l : List (List UInt8)) : ∀ f ∈ l, f.length ≤ bulkT l := by
  induction l with
  | nil => intro f hf; cases hf
  | cons g r ih =>
    intro f hf
    simp only [bulkT]
    rcases List.mem_cons.1 hf with rfl | hf
    · omega
    · have := ih f hf; omega
theorem weight_all {H : Type} {P : Program} {e : TypeId} {d : DataW H} {n : Nat} (hn : n ∈ d.weights P e) : ∀ {l : List (DataW H)}, d ∈ l → n ∈ DataW.weightsAll P e l
  | [], h => by cases h
  | x :: r, h => by
    simp only [DataW.weightsAll, List.mem_append]
    rcases List.mem_cons.1 h with rfl | h
    · exact Or.inl hn
    · exact Or.inr (weight_all hn h)
theorem addr_at {W : World} {a : Addr} {u : Value} (h : W.cell? (a.add 0) = some u) : ∃ b off, a = ⟨b, off, none⟩ ∧ b < W.heap.size := by
  obtain ⟨b, off, spot⟩ := a
  have hspot : spot = none := by simpa [Addr.add] using World.cell?_spot h
  subst hspot
  refine ⟨b, off, rfl, ?_⟩
  rcases Nat.lt_or_ge b W.heap.size with hlt | hge
  · exact hlt
  · rw [Go.WideShapes.add_plain] at h
    unfold World.cell? at h
    rw [Array.getElem?_eq_none hge] at h
    cases h
theorem laidOut : laidOutB Tryz.prog = true := by kernel_rfl
theorem bulk_lits {H : Type} (l : List Int) : Rows.uptoBulkAll (H := H) (lits .u8 l) = l.length := by
  induction l with
  | nil => rfl
  | cons f r ih =>
    show Rows.uptoBulk (.lit (.int .u8 f)) + Rows.uptoBulkAll (lits .u8 r) = _
    rw [ih]
    simp only [Rows.uptoBulk, List.length_cons]
    omega
theorem byte_wf {n : Int} (h : (Lit.int .u8 n).wf = true) : 0 ≤ n ∧ n < 256 := by
  have h1 : IntKind.u8.min = 0 := rfl
  have h2 : IntKind.u8.max = 255 := rfl
  simp only [Lit.wf, Bool.and_eq_true, decide_eq_true_eq] at h
  omega
end Go.Proofs.YtipcmbonhkelbabGreatDoor
namespace Go.Proofs.YtipcmbonhkelbabGreatDoor
open Go.ChangeShapes Go.WideShapes Go.ChangeAt Go.RowKit
def strOf : Value → ByteArray
  | .string s => s
  | _ => ByteArray.empty
def fieldD {H : Type} (f : List UInt8 × List UInt8) : DataW H := .agg [.lit (.string f.1), .lit (.string f.2)]
theorem bulk_fieldD {H : Type} (fs : FL) : Rows.uptoBulkAll (H := H) (fs.map fieldD) = bulkF fs := by
  induction fs with
  | nil => rfl
  | cons f r ih =>
    show Rows.uptoBulk (fieldD f) + Rows.uptoBulkAll (r.map fieldD) = _
    rw [ih]
    simp only [fieldD, Rows.uptoBulk, Rows.uptoBulkAll, bulkF]
    omega
theorem bulk_texts {H : Type} (l : List (List UInt8)) : Rows.uptoBulkAll (H := H) (l.map fun s => .lit (.string s)) = bulkT l := by
  induction l with
  | nil => rfl
  | cons f r ih =>
    show Rows.uptoBulk (.lit (.string f)) + Rows.uptoBulkAll (r.map fun s => .lit (.string s)) = _
    rw [ih]
    simp only [Rows.uptoBulk, bulkT]
set_option maxRecDepth 100000 in
theorem open_fieldsS {H : Type} {enc : TypeId × Value → H} {W : World} {v : Value} {d : DataW H} {p : List MemPlace} (hform : ∃ a l c, v = .slice a l c) (h : DataW.Trod enc Tryz.prog W 0 (fun _ => true) true 22 v d p) :
    ∃ fs : FL, HoldsF W v fs ∧ bulkF fs + 1 ≤ Rows.uptoBulk d ∧ ((∀ n ∈ d.weights Tryz.prog 22, n ≤ reachBytes) → fs.length * 32 ≤ reachBytes ∧ ∀ f ∈ fs, f.1.length ≤ reachBytes ∧ f.2.length ≤ reachBytes) := by
  obtain ⟨a0, len0, cap0, rfl⟩ := hform
  obtain ⟨fuel, hf⟩ := h
  rcases Go.Deep.open_slice_pairs Tryz.underlying22 Tryz.underlying42 (by kernel_rfl) rfl rfl (by kernel_rfl) (by kernel_rfl) hf with ⟨hcs, hx⟩ | ⟨a, len, cap, m, n, V0, V1, D0, D1, P0, P1, hcs, _, hl, hm, hmm, hx, hcell⟩
  · simp [Value.cells] at hcs
    obtain ⟨rfl, rfl, rfl⟩ := hcs
    simp only [Prod.mk.injEq] at hx
    obtain ⟨rfl, _⟩ := hx
    exact ⟨[], holdsF_lit0 W, by simp [bulkF, Rows.uptoBulk], fun _ => ⟨by simp, fun f hf => by cases hf⟩⟩
  · simp [Value.cells] at hcs
    obtain ⟨rfl, rfl, rfl⟩ := hcs
    simp only [Prod.mk.injEq] at hx
    obtain ⟨hd, _⟩ := hx
    have hmm' : m = cap0 := by simpa using hmm
    subst hmm'
    have E : ∀ i, i < m → V0 i = .string (strOf (V0 i)) ∧ V1 i = .string (strOf (V1 i)) ∧ D0 i = .lit (.string (strOf (V0 i)).data.toList) ∧ D1 i = .lit (.string (strOf (V1 i)).data.toList) := by
      intro i hi
      obtain ⟨_, _, t0, t1⟩ := hcell i hi
      obtain ⟨s0, e0, x0, _⟩ := DataW.trod_string Tryz.underlying9 t0
      obtain ⟨s1, e1, x1, _⟩ := DataW.trod_string Tryz.underlying9 t1
      simp only [List.cons.injEq, and_true] at e0 e1
      simp only [Prod.mk.injEq] at x0 x1
      rw [e0, e1, x0.1, x1.1]
      exact ⟨rfl, rfl, rfl, rfl⟩
    have hes : ∀ k o : Nat, o + k ≤ m → (List.range k).map (fun i => DataW.agg (H := H) [D0 (o + i), D1 (o + i)]) = ((List.range k).map fun i => ((strOf (V0 (o + i))).data.toList, (strOf (V1 (o + i))).data.toList)).map fieldD := by
      intro k o hk
      rw [List.map_map]
      apply List.map_congr_left
      intro i hi
      have hi' := List.mem_range.1 hi
      obtain ⟨_, _, d0, d1⟩ := E (o + i) (by omega)
      simp only [Function.comp, fieldD]
      rw [d0, d1]
    obtain ⟨fs, efs⟩ : ∃ fs : FL, fs = (List.range len0).map fun i => ((strOf (V0 i)).data.toList, (strOf (V1 i)).data.toList) := ⟨_, rfl⟩
    have hlen : fs.length = len0 := by rw [efs]; simp
    have h1 := hes len0 0 (by omega)
    simp only [Nat.zero_add] at h1
    rw [h1, ← efs] at hd
    refine ⟨fs, ⟨some a, m, by rw [hlen], (fun e => by cases e), by omega, fun hne => ?_⟩, ?_, ?_⟩
    · have hp : 0 < len0 := by
        rcases Nat.eq_zero_or_pos len0 with h | h
        · exact absurd (List.eq_nil_of_length_eq_zero (hlen.trans h)) hne
        · exact h
      have c0 := (hcell 0 (by omega)).1
      rw [Nat.zero_mul] at c0
      obtain ⟨b, off, rfl, hlt⟩ := addr_at c0
      refine ⟨b, off, rfl, hlt, fun j hj => ?_⟩
      obtain ⟨x0, x1, _, _⟩ := hcell j (by omega)
      obtain ⟨v0, v1, _, _⟩ := E j (by omega)
      rw [Go.WideShapes.add_plain] at x0 x1
      rw [Nat.add_assoc, x0, x1, v0, v1]
      subst efs
      simp [S, strOf]
    · rw [hd]
      simp only [Rows.uptoBulk, bulk_fieldD]
      omega
    · intro hw
      have hub : Tryz.prog.bytesOf 42 = 32 := by kernel_rfl
      rw [hd] at hw
      simp only [DataW.weights, Tryz.underlying22, List.mem_cons, List.mem_append, forall_eq_or_imp, hub] at hw
      obtain ⟨hw1, hw2⟩ := hw
      refine ⟨?_, fun f hf => ?_⟩
      · rw [List.length_map] at hw1
        omega
      · have mem : fieldD f ∈ fs.map (fieldD (H := H)) := List.mem_map.2 ⟨f, hf, rfl⟩
        constructor
        · refine hw2 _ (Or.inl (weight_all ?_ mem))
          simp [fieldD, DataW.weights, Tryz.underlying42, DataW.weightsEach]
        · refine hw2 _ (Or.inl (weight_all ?_ mem))
          simp [fieldD, DataW.weights, Tryz.underlying42, DataW.weightsEach]
set_option maxRecDepth 100000 in
theorem open_fields {H : Type} {enc : TypeId × Value → H} {W : World} {base : Nat} {v : Value} {d : DataW H} {p : List MemPlace} (hok : Value.okWide Tryz.prog W .any base 22 v) (h : DataW.Trod enc Tryz.prog W 0 (fun _ => true) true 22 v d p) :
    ∃ fs : FL, HoldsF W v fs ∧ bulkF fs + 1 ≤ Rows.uptoBulk d ∧ ((∀ n ∈ d.weights Tryz.prog 22, n ≤ reachBytes) → fs.length * 32 ≤ reachBytes ∧ ∀ f ∈ fs, f.1.length ≤ reachBytes ∧ f.2.length ≤ reachBytes) :=
  open_fieldsS (okWide_slice Tryz.underlying22 hok) h
set_option maxRecDepth 100000 in
theorem open_texts {H : Type} {enc : TypeId × Value → H} {W : World} {base : Nat} {v : Value} {d : DataW H} {p : List MemPlace} (hok : Value.okWide Tryz.prog W .any base 55 v) (h : DataW.Trod enc Tryz.prog W 0 (fun _ => true) true 55 v d p) :
    ∃ ts : List (List UInt8), Holds W v ts ∧ (∀ cap, v = .slice none 0 cap → cap = 0) ∧ bulkT ts + 1 ≤ Rows.uptoBulk d ∧ ((∀ n ∈ d.weights Tryz.prog 55, n ≤ reachBytes) → ts.length * 16 ≤ reachBytes ∧ ∀ f ∈ ts, f.length ≤ reachBytes) := by
  obtain ⟨a0, len0, cap0, rfl⟩ := okWide_slice Tryz.underlying55 hok
  obtain ⟨fuel, hf⟩ := h
  rcases open_strings Tryz.underlying55 Tryz.underlying9 (by kernel_rfl) hf with ⟨hcs, hx⟩ | ⟨x, l, c, ss, hcs, _, hl, hm, hz, hx, hcell, hws⟩
  · simp [Value.cells] at hcs
    obtain ⟨rfl, rfl, rfl⟩ := hcs
    simp only [Prod.mk.injEq] at hx
    obtain ⟨rfl, _⟩ := hx
    exact ⟨[], ⟨none, 0, rfl, fun h => absurd rfl h⟩, fun cap e => by simpa using e.symm, by simp [bulkT, Rows.uptoBulk], fun _ => ⟨by simp, fun f hf => by cases hf⟩⟩
  · simp [Value.cells] at hcs
    obtain ⟨rfl, rfl, rfl⟩ := hcs
    simp only [Prod.mk.injEq] at hx
    obtain ⟨hd, _⟩ := hx
    have hz' : ss.length = cap0 := by simpa using hz
    have est : strs (H := H) (ss.take len0) = ((ss.take len0).map (fun s => s.data.toList)).map (fun s => .lit (.string s)) := by unfold strs; rw [List.map_map]; rfl
    refine ⟨(ss.take len0).map (fun s => s.data.toList), ⟨some x, cap0, ?_, ?_⟩, fun cap e => by simp at e, ?_, ?_⟩
    · rw [List.length_map, List.length_take, Nat.min_eq_left (by omega)]
    · intro hne
      have hpos : 0 < len0 := by
        rcases Nat.eq_zero_or_pos len0 with h | h
        · subst h; simp at hne
        · exact h
      obtain ⟨b, off, rfl, hblt⟩ := addr_at (hcell 0 (by omega))
      refine ⟨b, off, rfl, hblt, fun j hj => ?_⟩
      rw [List.length_map, List.length_take] at hj
      have hc := hcell j (by omega)
      rw [Go.WideShapes.add_plain] at hc
      rw [hc]
      simp only [List.getElem_map, List.getElem_take]
      rw [List.getD_eq_getElem?_getD, List.getElem?_eq_getElem (by omega)]
      rfl
    · rw [hd, est]
      simp only [Rows.uptoBulk, bulk_texts]
      omega
    · intro hw
      have hub : Tryz.prog.bytesOf 9 = 16 := by kernel_rfl
      rw [hd, est] at hw
      simp only [DataW.weights, Tryz.underlying55, List.mem_cons, List.mem_append, forall_eq_or_imp, hub] at hw
      obtain ⟨hw1, hw2⟩ := hw
      refine ⟨?_, fun f hf => ?_⟩
      · simp only [List.length_map] at hw1 ⊢
        omega
      · refine hw2 _ (Or.inl (weight_all ?_ (List.mem_map.2 ⟨f, hf, rfl⟩)))
        simp [DataW.weights]
end Go.Proofs.YtipcmbonhkelbabGreatDoor
namespace Go.Proofs.YtipcmbonhkelbabGreatDoor
open Go.RowKit
theorem bulk_vals (fs : FL) (n : List UInt8) : bulkT (valsOf fs n) ≤ bulkF fs := by
  induction fs with
  | nil => simp [valsOf, bulkT]
  | cons f r ih =>
    unfold valsOf at ih ⊢
    simp only [bulkF, List.filter_cons]
    split
    · simp only [List.map_cons, bulkT]; omega
    · omega
theorem bulkT_take (vs : List (List UInt8)) : ∀ k, bulkT (vs.take k) ≤ bulkT vs := by
  induction vs with
  | nil => intro k; simp
  | cons v r ih =>
    intro k
    cases k with
    | zero => simp [bulkT]
    | succ k => have := ih k; simp only [List.take_succ_cons, bulkT]; omega
def toksOf (vs : List (List UInt8)) : List (List UInt8) := (vs.flatMap listOf).map lows
theorem toks_next (vs : List (List UInt8)) (k : Nat) (h : k < vs.length) : toksOf (vs.take (k + 1)) = toksOf (vs.take k) ++ (listOf vs[k]).map lows := by
  unfold toksOf
  rw [List.take_succ_eq_append_getElem h, List.flatMap_append, List.map_append]
  simp
theorem listOf_len (l : List UInt8) : (listOf l).length ≤ l.length + 1 := by
  have h1 := filt_len ((pieces 44 l).map trimT)
  have h2 := pieces_len 44 l
  rw [List.length_map] at h1
  unfold listOf
  omega
theorem toks_len (vs : List (List UInt8)) : (toksOf vs).length ≤ bulkT vs := by
  induction vs with
  | nil => simp [toksOf, bulkT]
  | cons v r ih =>
    unfold toksOf at ih ⊢
    rw [List.length_map] at ih ⊢
    rw [List.flatMap_cons, List.length_append]
    have := listOf_len v
    simp only [bulkT]
    omega
theorem listOf_mem (l p : List UInt8) (h : p ∈ listOf l) : p.length ≤ l.length := by
  unfold listOf filt at h
  obtain ⟨h, _⟩ := List.mem_filter.1 h
  obtain ⟨q, hq, rfl⟩ := List.mem_map.1 h
  have h1 := pieces_mem 44 _ _ hq
  have h2 := trimT_len q
  omega
end Go.Proofs.YtipcmbonhkelbabGreatDoor
namespace Go.Proofs.YtipcmbonhkelbabGreatDoor
open Go.RowKit
structure Rq where
  m : List UInt8
  t : List UInt8
  k : Int
  fs : FL
structure Rs where
  s : Int
  r : List UInt8
  k : Int
  fs : FL
def Rq.zero : Rq := ⟨[], [], 0, []⟩
def Rs.zero : Rs := ⟨0, [], 0, []⟩
/-- an entry -/
structure En where
  key : List UInt8
  vary : List UInt8
  r : Rs
  body : List UInt8
  a : Int
  g : Int
def En.zero : En := ⟨[], [], Rs.zero, [], 0, 0⟩
end Go.Proofs.YtipcmbonhkelbabGreatDoor
namespace Go.Proofs.YtipcmbonhkelbabGreatDoor
open Go.RowKit
/-- a block of four cells that may be written, and what they hold -/
def Quad (b : Nat) (W : World) (v0 v1 v2 v3 : Value) : Prop := W.cell? ⟨b, 0, none⟩ = some v0 ∧ W.cell? ⟨b, 1, none⟩ = some v1 ∧ W.cell? ⟨b, 2, none⟩ = some v2 ∧ W.cell? ⟨b, 3, none⟩ = some v3 ∧
  W.frozen? ⟨b, 0, none⟩ = false ∧ W.frozen? ⟨b, 1, none⟩ = false ∧ W.frozen? ⟨b, 2, none⟩ = false ∧ W.frozen? ⟨b, 3, none⟩ = false ∧ b < W.heap.size
theorem quad_below {b : Nat} {W W' : World} {v0 v1 v2 v3 : Value} (h : Quad b W v0 v1 v2 v3) (hb : Below W.heap.size W W') : Quad b W' v0 v1 v2 v3 := by
  obtain ⟨h0, h1, h2, h3, f0, f1, f2, f3, hz⟩ := h
  have c : ∀ o, W'.cell? ⟨b, o, none⟩ = W.cell? ⟨b, o, none⟩ := fun o => hb.cell (p := ⟨b, o, none⟩) hz
  have f : ∀ o, W'.frozen? ⟨b, o, none⟩ = W.frozen? ⟨b, o, none⟩ := fun o => hb.frozen (p := ⟨b, o, none⟩) hz
  exact ⟨by rw [c]; exact h0, by rw [c]; exact h1, by rw [c]; exact h2, by rw [c]; exact h3, by rw [f]; exact f0, by rw [f]; exact f1, by rw [f]; exact f2, by rw [f]; exact f3, Nat.lt_of_lt_of_le hz hb.size⟩
theorem oth4 {b i j : Nat} {W : World} {v : Value} (h : j ≠ i) : (W.setCell ⟨b, j, none⟩ v).cell? ⟨b, i, none⟩ = W.cell? ⟨b, i, none⟩ := World.cell?_setCell_other _ _ _ _ (by first | (simp; done) | omega)
def put4 (b : Nat) (W : World) (v0 v1 v2 v3 : Value) : World := (((W.setCell ⟨b, 0, none⟩ v0).setCell ⟨b, 1, none⟩ v1).setCell ⟨b, 2, none⟩ v2).setCell ⟨b, 3, none⟩ v3
theorem quad_store {b : Nat} {W : World} {u0 u1 u2 u3 : Value} (h : Quad b W u0 u1 u2 u3) (v0 v1 v2 v3 : Value) :
    (put4 b W v0 v1 v2 v3).cell? ⟨b, 0, none⟩ = some v0 ∧ (put4 b W v0 v1 v2 v3).cell? ⟨b, 1, none⟩ = some v1 ∧ (put4 b W v0 v1 v2 v3).cell? ⟨b, 2, none⟩ = some v2 ∧ (put4 b W v0 v1 v2 v3).cell? ⟨b, 3, none⟩ = some v3 := by
  obtain ⟨h0, h1, h2, h3, _⟩ := h
  unfold put4
  refine ⟨?_, ?_, ?_, ?_⟩
  · rw [oth4 (by decide), oth4 (by decide), oth4 (by decide)]
    exact World.cell?_setCell_same _ _ _ h0
  · rw [oth4 (by decide), oth4 (by decide)]
    exact World.cell?_setCell_same (u := u1) _ _ _ (by rw [oth4 (by decide)]; exact h1)
  · rw [oth4 (by decide)]
    exact World.cell?_setCell_same (u := u2) _ _ _ (by rw [oth4 (by decide), oth4 (by decide)]; exact h2)
  · exact World.cell?_setCell_same (u := u3) _ _ _ (by rw [oth4 (by decide), oth4 (by decide), oth4 (by decide)]; exact h3)
theorem put4_below {w W : World} {b : Nat} (h : Below w.heap.size w W) (hb : w.heap.size ≤ b) (v0 v1 v2 v3 : Value) : Below w.heap.size w (put4 b W v0 v1 v2 v3) :=
  (((h.setCell hb _).setCell hb _).setCell hb _).setCell hb _
theorem quad_lit (w : World) (v0 v1 v2 v3 : Value) (t : TypeId) : Quad w.heap.size (w.alloc (.cells #[v0, v1, v2, v3] t)) v0 v1 v2 v3 :=
  ⟨by simp, by simp, by simp, by simp, by simp, by simp, by simp, by simp, by simp⟩
theorem frozen_set4 {b i j : Nat} {W : World} {v : Value} : (W.setCell ⟨b, j, none⟩ v).frozen? ⟨b, i, none⟩ = W.frozen? ⟨b, i, none⟩ := by simp
theorem quad_put {b : Nat} {W : World} {u0 u1 u2 u3 : Value} (h : Quad b W u0 u1 u2 u3) (v0 v1 v2 v3 : Value) : Quad b (put4 b W v0 v1 v2 v3) v0 v1 v2 v3 := by
  obtain ⟨q0, q1, q2, q3⟩ := quad_store h v0 v1 v2 v3
  obtain ⟨_, _, _, _, f0, f1, f2, f3, hz⟩ := h
  refine ⟨q0, q1, q2, q3, ?_, ?_, ?_, ?_, by simp [put4, World.setCell]; exact hz⟩
  · unfold put4; rw [frozen_set4, frozen_set4, frozen_set4, frozen_set4]; exact f0
  · unfold put4; rw [frozen_set4, frozen_set4, frozen_set4, frozen_set4]; exact f1
  · unfold put4; rw [frozen_set4, frozen_set4, frozen_set4, frozen_set4]; exact f2
  · unfold put4; rw [frozen_set4, frozen_set4, frozen_set4, frozen_set4]; exact f3
theorem row_put {W : World} {base k n b : Nat} {t : TypeId} {v v0 v1 v2 v3 : Value} {cs : List Value} (h : W.ownsRow base t k v n cs) (hb : b < base) : (put4 b W v0 v1 v2 v3).ownsRow base t k v n cs :=
  row_poke (row_poke (row_poke (row_poke h hb) hb) hb) hb
theorem quad_set3 {b : Nat} {W : World} {v0 v1 v2 v3 : Value} (h : Quad b W v0 v1 v2 v3) (x : Value) : Quad b (W.setCell ⟨b, 3, none⟩ x) v0 v1 v2 x := by
  obtain ⟨h0, h1, h2, h3, f0, f1, f2, f3, hz⟩ := h
  exact ⟨by rw [oth4 (by decide)]; exact h0, by rw [oth4 (by decide)]; exact h1, by rw [oth4 (by decide)]; exact h2, World.cell?_setCell_same (u := v3) _ _ _ h3, by rw [frozen_set4]; exact f0, by rw [frozen_set4]; exact f1, by rw [frozen_set4]; exact f2, by rw [frozen_set4]; exact f3, by simpa using hz⟩
theorem quad_other {b c o : Nat} {W : World} {v0 v1 v2 v3 : Value} (h : Quad b W v0 v1 v2 v3) (hne : b ≠ c) (x : Value) : Quad b (W.setCell ⟨c, o, none⟩ x) v0 v1 v2 v3 := by
  obtain ⟨h0, h1, h2, h3, f0, f1, f2, f3, hz⟩ := h
  have c : ∀ i, (W.setCell ⟨c, o, none⟩ x).cell? ⟨b, i, none⟩ = W.cell? ⟨b, i, none⟩ := fun i => by simp [World.cell?, heap_setCell_other W ⟨c, o, none⟩ b x hne]
  exact ⟨by rw [c]; exact h0, by rw [c]; exact h1, by rw [c]; exact h2, by rw [c]; exact h3, by simpa using f0, by simpa using f1, by simpa using f2, by simpa using f3, by simpa using hz⟩
end Go.Proofs.YtipcmbonhkelbabGreatDoor
namespace Go.Proofs.YtipcmbonhkelbabGreatDoor
open Go.RowKit
theorem holdsF_row {w : World} {base : Nat} {v : Value} {ps : FL} (h : w.ownsRow base 42 2 v ps.length (cellsF ps)) : HoldsF w v ps := by
  obtain ⟨hl, h1 | ⟨g, cap, cur, rfl, hg, hh, hr⟩⟩ := h
  · obtain ⟨rfl, hn⟩ := h1
    obtain rfl : ps = [] := List.eq_nil_of_length_eq_zero hn
    exact ⟨none, 0, rfl, fun _ => rfl, Nat.le_refl _, fun h => absurd rfl h⟩
  · have h' : w.ownsRow base 42 2 (.slice (some ⟨g, 0, none⟩) ps.length cap) ps.length (cellsF ps) := ⟨hl, .inr ⟨g, cap, cur, rfl, hg, hh, hr⟩⟩
    refine ⟨_, cap, rfl, fun e => (by cases e), hr.1, fun _ => ⟨g, 0, rfl, (h'.lt g rfl).2, fun j hj => ?_⟩⟩
    have c := cellsF_at ps j hj
    rw [Nat.zero_add]
    exact ⟨by rw [h'.cellAt (j * 2) (by omega)]; exact c.1, by rw [h'.cellAt (j * 2 + 1) (by omega)]; exact c.2⟩
end Go.Proofs.YtipcmbonhkelbabGreatDoor
namespace Go.Proofs.YtipcmbonhkelbabGreatDoor
open Go.RowKit
theorem vals_app (a b : FL) (n : List UInt8) : valsOf (a ++ b) n = valsOf a n ++ valsOf b n := by unfold valsOf; rw [List.filter_append, List.map_append]
theorem vals_other {x y n : List UInt8} (h : ¬ lows x = lows n) : valsOf [(x, y)] n = [] := by
  unfold valsOf
  rw [List.filter_cons_of_neg (by simpa using h)]
  rfl
theorem vals_more (fs : FL) (k : Nat) {x y n : List UInt8} (h : ¬ lows x = lows n) : valsOf (fs.take k ++ [(x, y)] ++ fs.drop k) n = valsOf fs n := by
  rw [vals_app, vals_app, vals_other h, List.append_nil, ← vals_app, List.take_append_drop]
theorem bulkF_app (a b : FL) : bulkF (a ++ b) = bulkF a + bulkF b := by
  induction a with
  | nil => simp [bulkF]
  | cons f r ih => simp only [List.cons_append, bulkF, ih]; omega
theorem bulk_more (fs : FL) (k : Nat) (x y : List UInt8) : bulkF (fs.take k ++ [(x, y)] ++ fs.drop k) = bulkF fs + (x.length + y.length + 3) := by
  have h : bulkF (fs.take k) + bulkF (fs.drop k) = bulkF fs := by rw [← bulkF_app, List.take_append_drop]
  have h1 : bulkF [(x, y)] = x.length + y.length + 3 := by simp [bulkF]
  rw [bulkF_app, bulkF_app, h1]
  omega
theorem elemF : Tryz.prog.elem 22 = 42 := by kernel_rfl
theorem holdsF_take {w : World} {v : Value} {fs : FL} (h : HoldsF w v fs) (k : Nat) (hk : k ≤ fs.length) : ∃ pa pc, (∀ W, Sem.run Tryz.prog (Instr.slice 22 v none (some (.int .i64 (k : Int))) none) W = .ok (.slice pa k pc) W) ∧ HoldsF w (.slice pa k pc) (fs.take k) := by
  obtain ⟨ao, cap, rfl, h0, hc, hcell⟩ := h
  have hl : (fs.take k).length = k := by rw [List.length_take]; omega
  refine ⟨ao, cap, fun W => ?_, ao, cap, by rw [hl], h0, by omega, fun hne => ?_⟩
  · have hh := run_slice_h (P := Tryz.prog) W 22 ao fs.length cap (by rw [elemF]; exact Tryz.underlying22) .i64 k (by omega) (by omega)
    rw [elemF, Tryz.sizeOf42] at hh
    simp only [Result.andThen, Int.toNat_natCast, sliced] at hh
    rw [hh]
    by_cases hz : cap = 0
    · subst hz
      obtain rfl : k = 0 := by omega
      cases ao <;> simp
    · cases ao with
      | none => exact absurd (h0 rfl) hz
      | some a => simp [hz, Addr.add]
  · have hf : fs ≠ [] := by intro e; rw [e] at hne; simp at hne
    obtain ⟨b, off, e, hlt, hc2⟩ := hcell hf
    refine ⟨b, off, e, hlt, fun j hj => ?_⟩
    have hj2 : j < fs.length := by rw [hl] at hj; omega
    rw [List.getElem_take]
    exact hc2 j hj2
theorem holdsF_drop {w : World} {v : Value} {fs : FL} (h : HoldsF w v fs) (k : Nat) (hk : k ≤ fs.length) : ∃ pa pc, (∀ W, Sem.run Tryz.prog (Instr.slice 22 v (some (.int .i64 (k : Int))) none none) W = .ok (.slice pa (fs.length - k) pc) W) ∧ HoldsF w (.slice pa (fs.length - k) pc) (fs.drop k) := by
  obtain ⟨ao, cap, rfl, h0, hc, hcell⟩ := h
  have hl : (fs.drop k).length = fs.length - k := List.length_drop
  refine ⟨if cap = k then ao else ao.map (·.add (k * 2)), cap - k, fun W => ?_, _, cap - k, by rw [hl], ?_, by omega, fun hne => ?_⟩
  · have hh := run_slice_l (P := Tryz.prog) W 22 ao fs.length cap (by rw [elemF]; exact Tryz.underlying22) .i64 k (by omega) (by omega)
    rw [elemF, Tryz.sizeOf42] at hh
    simp only [Result.andThen, Int.toNat_natCast, sliced] at hh
    exact hh
  · intro e
    by_cases hz : cap = k
    · omega
    · rw [if_neg hz] at e
      cases ao with
      | none => have := h0 rfl; omega
      | some a => simp at e
  · have hlt1 : k < fs.length := by
      rcases Nat.lt_or_ge k fs.length with h | h
      · exact h
      · exact absurd (List.drop_eq_nil_of_le h) hne
    have hf : fs ≠ [] := by intro e; rw [e] at hlt1; simp at hlt1
    obtain ⟨b, off, e, hlt, hc2⟩ := hcell hf
    refine ⟨b, off + k * 2, ?_, hlt, fun j hj => ?_⟩
    · rw [if_neg (by omega), e, Option.map_some, Go.WideShapes.add_plain]
    · have hj2 : k + j < fs.length := by rw [hl] at hj; omega
      rw [List.getElem_drop]
      have c := hc2 (k + j) hj2
      rw [show off + (k + j) * 2 = off + k * 2 + j * 2 by omega] at c
      exact c
end Go.Proofs.YtipcmbonhkelbabGreatDoor
