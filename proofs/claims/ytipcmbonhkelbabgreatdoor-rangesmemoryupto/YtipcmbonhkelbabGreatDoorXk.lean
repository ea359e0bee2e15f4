/- A row of spans that a call itself made; a list of spans that may be read. The contract of the document's number (ranges). -/
import Derived.Test.YtipcmbonhkelbabGreatDoorBk
import Derived.Test.YtipcmbonhkelbabGreatDoorBm
import Derived.Laws.AppendOwnNone
import Derived.Test.YtipcmbonhkelbabGreatDoorXa
namespace Go.Proofs.YtipcmbonhkelbabGreatDoor
open Go.RowKit
abbrev XL := List (Int × Int)
def cellsX (ps : XL) : List Value := ps.flatMap (fun p => [.int .i64 p.1, .int .i64 p.2])
theorem cellsX_len (ps : XL) : (cellsX ps).length = ps.length * 2 := by
  induction ps with
  | nil => rfl
  | cons p ps ih => simp only [cellsX, List.flatMap_cons, List.length_append, List.length_cons, List.length_nil] at ih ⊢; omega
theorem cellsX_snoc (ps : XL) (p : Int × Int) : cellsX (ps ++ [p]) = cellsX ps ++ [.int .i64 p.1, .int .i64 p.2] := by simp [cellsX]
theorem cellsX_append (ps qs : XL) : cellsX (ps ++ qs) = cellsX ps ++ cellsX qs := by simp [cellsX]
theorem cellsX_at : ∀ (ps : XL) (j : Nat) (h : j < ps.length), (cellsX ps)[j * 2]? = some (.int .i64 ps[j].1) ∧ (cellsX ps)[j * 2 + 1]? = some (.int .i64 ps[j].2) := by
  intro ps
  induction ps with
  | nil => intro j h; simp at h
  | cons p ps ih =>
    intro j h
    have e : cellsX (p :: ps) = .int .i64 p.1 :: .int .i64 p.2 :: cellsX ps := by simp [cellsX]
    rw [e]
    cases j with
    | zero => simp
    | succ j =>
      have := ih j (by simpa using h)
      rw [show (j + 1) * 2 = j * 2 + 2 by omega]
      simpa using this
theorem cellsX_one (ps : XL) : ∀ u ∈ cellsX ps, u.oneCell' = true := by
  intro u hu
  obtain ⟨p, _, hu⟩ := List.mem_flatMap.1 hu
  simp at hu; rcases hu with rfl | rfl <;> rfl
theorem Tryz.info44 : (Tryz.prog.info? 44).map (fun i => (i.zero, i.size, i.bytes)) = some (some (.agg #[.int .i64 0, .int .i64 0]), 2, 16) := by kernel_rfl
def OwnX (w0 : World) (v : Value) (ps : XL) (w : World) : Prop := w.ownsRow w0.heap.size 44 2 v ps.length (cellsX ps) ∧ Below w0.heap.size w0 w
theorem ownX_nil (w0 w : World) (h : Below w0.heap.size w0 w) : OwnX w0 (.slice none 0 0) [] w := ⟨World.ownsRow_nil _ _ _ _, h⟩
theorem ownX_empty (w0 : World) : OwnX w0 (.slice (some ⟨w0.heap.size, 0, none⟩) 0 0) [] (w0.alloc (.cells #[] 44)) :=
  ⟨World.ownsRow_lit w0 #[] 0 (Nat.le_refl _) (by decide) rfl, (Below.refl _ _).alloc (Nat.le_refl _) _⟩
theorem ownX_mono {w0 w w' : World} {v : Value} {ps : XL} (h : OwnX w0 v ps w) (hb : Below w.heap.size w w') : OwnX w0 v ps w' := by
  have hz := h.2.size
  refine ⟨?_, h.2.trans (hb.mono hz)⟩
  obtain ⟨hl, h1 | ⟨g, cap, cur, rfl, hg, hh, hr⟩⟩ := h.1
  · exact ⟨hl, .inl h1⟩
  · have hlt : g < w.heap.size := by
      rcases Nat.lt_or_ge g w.heap.size with h | h
      · exact h
      · rw [Array.getElem?_eq_none (by omega)] at hh; cases hh
    exact ⟨hl, .inr ⟨g, cap, cur, rfl, hg, by rw [hb.block g hlt]; exact hh, hr⟩⟩
theorem ownX_base {w w1 w2 : World} {v : Value} {ps : XL} (h : OwnX w1 v ps w2) (hb : Below w.heap.size w w1) : OwnX w v ps w2 := by
  have hz := hb.size
  refine ⟨?_, hb.trans (h.2.mono hz)⟩
  obtain ⟨hl, h1 | ⟨g, cap, cur, hv, hg, hr⟩⟩ := h.1
  · exact ⟨hl, .inl h1⟩
  · exact ⟨hl, .inr ⟨g, cap, cur, hv, by omega, hr⟩⟩
/-- v is a slice whose elements are the spans ps -/
def HoldsX (w : World) (v : Value) (ps : XL) : Prop :=
  ∃ ao cap, v = .slice ao ps.length cap ∧ (ao = none → cap = 0) ∧ ps.length ≤ cap ∧ (ps ≠ [] → ∃ b off, ao = some ⟨b, off, none⟩ ∧ b < w.heap.size ∧ ∀ j (h : j < ps.length), w.cell? ⟨b, off + j * 2, none⟩ = some (.int .i64 ps[j].1) ∧ w.cell? ⟨b, off + j * 2 + 1, none⟩ = some (.int .i64 ps[j].2))
theorem holdsX_own {w0 w : World} {v : Value} {ps : XL} (h : OwnX w0 v ps w) : HoldsX w v ps := by
  obtain ⟨hl, h1 | ⟨g, cap, cur, rfl, hg, hh, hr⟩⟩ := h.1
  · obtain ⟨rfl, hn⟩ := h1
    obtain rfl : ps = [] := List.eq_nil_of_length_eq_zero hn
    exact ⟨none, 0, rfl, fun _ => rfl, Nat.le_refl _, fun h => absurd rfl h⟩
  · refine ⟨_, cap, rfl, fun e => (by cases e), hr.1, fun _ => ⟨g, 0, rfl, (h.1.lt g rfl).2, fun j hj => ?_⟩⟩
    have c := cellsX_at ps j hj
    rw [Nat.zero_add]
    exact ⟨by rw [h.1.cellAt (j * 2) (by omega)]; exact c.1, by rw [h.1.cellAt (j * 2 + 1) (by omega)]; exact c.2⟩
theorem holdsX_mono {w w' : World} {v : Value} {ps : XL} (h : HoldsX w v ps) (hb : Below w.heap.size w w') : HoldsX w' v ps := by
  obtain ⟨ao, cap, rfl, h0, hcp, hc⟩ := h
  refine ⟨ao, cap, rfl, h0, hcp, fun hne => ?_⟩
  obtain ⟨b, off, rfl, hlt, hcell⟩ := hc hne
  have := hb.size
  exact ⟨b, off, rfl, by omega, fun j hj => ⟨by rw [hb.cell (p := ⟨b, off + j * 2, none⟩) hlt]; exact (hcell j hj).1, by rw [hb.cell (p := ⟨b, off + j * 2 + 1, none⟩) hlt]; exact (hcell j hj).2⟩⟩
/-- one span appended -/
theorem appX {ops : Array Oper} {rest : List Oper} {o : Oper} {a : Act} {Q : Exit → Act → World → Prop} {wr : World} {x y : Int} {H : Nat} (hgd : o.guard = none) (s z : Operand)
    (ho : o.op = .call { callee := .builtin .append, args := #[s, z], argTypes := #[37, 37] }) (w0 : World) (v : Value) (ps : XL) (hs : a.eval s = v) (hown : OwnX w0 v ps wr)
    (p : Int × Int) (hx : x = p.1) (hy : y = p.2) (hz : a.eval z = .slice (some ⟨H, 0, none⟩) 1 1) (hH : wr.heap.size = H) (hlen : (ps.length + 1) * 16 ≤ 140737488355328)
    (h : ∀ v' w', OwnX w0 v' (ps ++ [p]) w' → wpList Tryz.prog ops Q rest (a.put o.dst v') w') : wpList Tryz.prog ops Q (o :: rest) a (wr.alloc (.cells #[.int .i64 x, .int .i64 y] 44)) := by
  subst hx hy hH
  obtain ⟨i0, hi, hz0, hz1, hz2⟩ := info_parts Tryz.info44
  have hsz := hown.2.size
  refine wpList_append_own _ hgd s z 37 ho w0.heap.size 44 i0 (.agg #[.int .i64 0, .int .i64 0]) 2 16 Tryz.underlying37 hi hz0 hz1 hz2 rfl (by decide) v ps.length (cellsX ps) hs (hown.1.alloc _) ⟨wr.heap.size, 0, none⟩ 1 1 [.int .i64 p.1, .int .i64 p.2] hz rfl ?_ ?_ ?_ ?_ ?_ ?_
  · intro j u hj
    match j, hj with
    | 0, hj => simp at hj; subst hj; simp [Addr.add]
    | 1, hj => simp at hj; subst hj; simp [Addr.add]
  · intro u hu; simp at hu; rcases hu with rfl | rfl <;> rfl
  · unfold maxLen; omega
  · omega
  · simp; omega
  · intro v' w' h1 h2 _
    refine h v' w' ⟨by rw [cellsX_snoc]; simpa using h1, ?_⟩
    refine Below.grown (hown.2.alloc (by omega) _) h2 (by simp; omega) ?_
    intro k hk
    exact (hown.1.lt k hk).1
end Go.Proofs.YtipcmbonhkelbabGreatDoor
namespace Go.Proofs.YtipcmbonhkelbabGreatDoor
open Go.RowKit
set_option maxRecDepth 20000 in
set_option maxHeartbeats 2000000 in
theorem numRG (l : List UInt8) (w : World) (hl : l.length ≤ 140737488351232) :
    Calls Tryz.prog 49 #[.string ⟨l.toArray⟩] w fun e w' => e = .returned (.int .i64 (numR l)) ∧ w' = w := by
  have hz : (⟨l.toArray⟩ : ByteArray).size = l.length := size_l l
  have hd : (⟨l.toArray⟩ : ByteArray).data.toList = l := by simp
  obtain ⟨q, eq⟩ : ∃ q, q = numR l := ⟨_, rfl⟩
  rw [← eq]
  have EQ := hide' eq
  clear eq
  obtain ⟨s, es⟩ : ∃ s, s = (⟨l.toArray⟩ : ByteArray) := ⟨_, rfl⟩
  rw [← es] at hz hd ⊢
  have HD := hide' hd
  clear es hd
  by_cases h1 : l.length < 1
  · have R := hide' (EQ.out.trans (numR_short h1))
    have t1 : s.size < 1 := by omega
    have HZ := hide' hz
    clear EQ hz h1
    go_enter Tryz.func49, Tryz.ntmps49
    go_wp2_with fail
    go_ret
    exact ⟨by rw [R.out]; rfl, rfl⟩
  · by_cases h2 : 18 < l.length
    · have R := hide' (EQ.out.trans (numR_long h2))
      have t1 : ¬ s.size < 1 := by omega
      have t2 : 18 < s.size := by omega
      have HZ := hide' hz
      clear EQ hz h1 h2
      go_enter Tryz.func49, Tryz.ntmps49
      go_wp2_with fail
      go_ret
      exact ⟨by rw [R.out]; rfl, rfl⟩
    · have t1 : ¬ s.size < 1 := by omega
      have t2 : s.size ≤ 18 := by omega
      have XG := hide' (numR_good (l := l) (by omega) (by omega))
      have XB := hide' (fun k hk hh => numR_bad (l := l) (k := k) hk hh)
      rw [← EQ.out] at XG XB
      rw [← HD.out] at XG XB
      have HZ := hide' hz
      clear hz h1 h2 EQ HD hl
      go_enter Tryz.func49, Tryz.ntmps49
      go_wp2_with fail
      go_loop [3, 4] (fun av i => ∃ (k : Nat) (a : Int), k ≤ s.size ∧ av = .int .i64 a ∧ i = .int .i64 k ∧ Hid (NumTo s k a)) (fun _ i => s.size - (intOf i).toNat)
      case atStart => exact ⟨0, 0, Nat.zero_le _, rfl, rfl, rfl, rfl, by decide, by decide⟩
      case round =>
        obtain ⟨k, a, hk, rfl, rfl, P⟩ := hrel
        by_cases hlt : k < s.size
        · have hb := byte_lt s[k]
          have p18 := pow17 (show k ≤ 17 by omega)
          obtain ⟨a0, a1⟩ := P.out.2.2
          have a2 : a < 100000000000000000 := by omega
          have XK := hide' (numTo_next P.out hlt)
          have XD := hide' (XB.out k (by simpa using hlt))
          have ek : s.data.toList[k]'(by simpa using hlt) = s[k] := rfl
          rw [ek] at XD
          clear p18 a1 ek
          by_cases d1 : s[k].toNat < 48
          · have R := hide' (XD.out (decide_eq_false (by omega)))
            have c1 : (s[k].toNat : Int) < 48 := by omega
            clear XK XD d1 P
            go_wp2_with fail
            go_ret
            exact ⟨by rw [R.out]; rfl, rfl⟩
          · by_cases d2 : 57 < s[k].toNat
            · have R := hide' (XD.out (decide_eq_false (by omega)))
              have c1 : 57 < (s[k].toNat : Int) := by omega
              have c2 : ¬ (s[k].toNat : Int) < 48 := by omega
              clear XK XD d1 d2 P
              go_wp2_with fail
              go_ret
              exact ⟨by rw [R.out]; rfl, rfl⟩
            · have R := hide' (XK.out (by omega) (by omega))
              have c1 : ¬ 57 < (s[k].toNat : Int) := by omega
              have c2 : ¬ (s[k].toNat : Int) < 48 := by omega
              clear XK XD d1 d2 P
              go_wp2_with fail
              go_round
              case rel => exact ⟨k + 1, a * 10 + (s[k].toNat : Int) - 48, by omega, by first | rfl | go_num | (congr 1; unfold wrap64; omega), by go_num, R⟩
              case measure => simp [intOf]; omega
        · have ek : s.data.toList.take k = s.data.toList := take_all s k (by omega)
          have PA := P.out.1
          have PB := P.out.2.1
          rw [ek] at PA PB
          have R := hide' ((XG.out PA).trans PB.symm)
          clear ek PA PB
          go_wp2_with fail
          go_ret
          exact ⟨by rw [R.out]; rfl, rfl⟩
end Go.Proofs.YtipcmbonhkelbabGreatDoor
