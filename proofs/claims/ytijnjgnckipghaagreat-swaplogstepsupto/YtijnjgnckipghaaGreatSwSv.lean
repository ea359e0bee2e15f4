/- A log and a list of records beside it; one record appended, and where the row lies then. -/
import Derived.Test.YtijnjgnckipghaaGreatSwPm
import Derived.Test.YtijnjgnckipghaaGreatBdB
import Derived.Test.YtijnjgnckipghaaGreatBw17
namespace Go.Proofs.YtijnjgnckipghaaGreat
open Go.RowKit Go.Shelf
theorem row_offS {W W' : World} {base k n : Nat} {t : TypeId} {v : Value} {cs : List Value} {S : Nat → Prop} (h : W.ownsRow base t k v n cs) (ho : Off S W W') (hS : ∀ rb, v.ownBlock = some rb → ¬ S rb) : W'.ownsRow base t k v n cs := by
  obtain ⟨hl, h1 | ⟨g, cap, cur, rfl, hg, hh, hr⟩⟩ := id h
  · exact ⟨hl, .inl h1⟩
  · have hlt := (h.lt g rfl).2
    exact ⟨hl, .inr ⟨g, cap, cur, rfl, hg, by rw [ho.block g hlt (hS g rfl)]; exact hh, hr⟩⟩
structure SvS (w0 : World) (g lb : Nat) (o : Ow) (s : Dk) (c : Int) (tv : Value) (tr : RL) (W : World) : Prop where
  log : LogS o g lb s c W
  own : ∀ k, o.has k → w0.heap.size ≤ k
  lbl : w0.heap.size ≤ lb
  bel : Below w0.heap.size w0 W
  row : W.ownsRow w0.heap.size 53 4 tv tr.length (cellsR tr)
  far : ∀ rb, tv.ownBlock = some rb → o rb = none ∧ rb ≠ lb
theorem sv_grow {w0 : World} {g lb : Nat} {o o' : Ow} {s s' : Dk} {c c' : Int} {tv : Value} {tr : RL} {W W' : World} (h : SvS w0 g lb o s c tv tr W) (hl : LogS o' g lb s' c' W') (hg : GrowL lb o W o' W') : SvS w0 g lb o' s' c' tv tr W' where
  log := hl
  own := fun k hk => by
    rcases hg.new k hk with h1 | h1
    · exact h.own k h1
    · exact Nat.le_trans h.bel.size h1
  lbl := h.lbl
  bel := h.bel.trans (hg.off.below h.bel.size (fun k hk => by
    rcases hk with hk | hk
    · exact h.own k hk
    · rw [hk]; exact h.lbl))
  row := row_offS h.row hg.off (fun rb e hh => by
    obtain ⟨p1, p2⟩ := h.far rb e
    rcases hh with hh | hh
    · exact hh p1
    · exact p2 hh)
  far := fun rb e => ⟨none_grow (h.far rb e).1 (h.row.lt rb e).2 hg.new, (h.far rb e).2⟩
theorem sv_below {w0 : World} {g lb : Nat} {o : Ow} {s : Dk} {c : Int} {tv : Value} {tr : RL} {W W' : World} (h : SvS w0 g lb o s c tv tr W) (hb : Below W.heap.size W W') : SvS w0 g lb o s c tv tr W' := sv_grow h (logS_below h.log hb) (growL_below hb)
/-- one record appended, and where the row lies then -/
theorem appRX {ops : Array Oper} {rest : List Oper} {o : Oper} {a : Act} {Q : Exit → Act → World → Prop} {wr : World} {q0 q1 q2 : Int} {x : ByteArray} {H : Nat} (hgd : o.guard = none) (s z : Operand)
    (ho : o.op = .call { callee := .builtin .append, args := #[s, z], argTypes := #[42, 42] }) {w0 : World} {g lb : Nat} {ow : Ow} {sd : Dk} {c : Int} {v : Value} {ps : RL} (hs : a.eval s = v) (hsv : SvS w0 g lb ow sd c v ps wr)
    (p : Rc) (h0 : q0 = p.1) (h1 : q1 = p.2.1) (h2 : q2 = p.2.2.1) (hx : x = ⟨p.2.2.2.toArray⟩) (hz : a.eval z = .slice (some ⟨H, 0, none⟩) 1 1) (hH : wr.heap.size = H) (hlen : (ps.length + 1) * 40 ≤ 140737488355328)
    (h : ∀ v' w', SvS w0 g lb ow sd c v' (ps ++ [p]) w' → wpList Tryz.prog ops Q rest (a.put o.dst v') w') : wpList Tryz.prog ops Q (o :: rest) a (wr.alloc (.cells #[.int .i64 q0, .int .i64 q1, .int .i64 q2, .string x] 53)) := by
  subst hx h0 h1 h2 hH
  obtain ⟨i0, hi, hz0, hz1, hz2⟩ := info_parts Tryz.info53
  have hb := bel_a wr (.cells #[.int .i64 p.1, .int .i64 p.2.1, .int .i64 p.2.2.1, .string ⟨p.2.2.2.toArray⟩] 53)
  have hv := sv_below hsv hb
  have hsz := hsv.bel.size
  refine wpList_append_own_at _ hgd s z 42 ho w0.heap.size 53 i0 (.agg #[.int .i64 0, .int .i64 0, .int .i64 0, .string ⟨#[]⟩]) 4 40 Tryz.underlying42 hi hz0 hz1 hz2 rfl (by decide) v ps.length (cellsR ps) hs hv.row ⟨wr.heap.size, 0, none⟩ 1 1 (celR p) hz rfl ?_ ?_ ?_ ?_ ?_ ?_
  · intro j u hj
    match j, hj with
    | 0, hj => simp [celR] at hj; subst hj; simp [Addr.add]
    | 1, hj => simp [celR] at hj; subst hj; simp [Addr.add]
    | 2, hj => simp [celR] at hj; subst hj; simp [Addr.add]
    | 3, hj => simp [celR] at hj; subst hj; simp [Addr.add, S]
  · intro u hu; simp [celR] at hu; rcases hu with rfl | rfl | rfl | rfl <;> rfl
  · unfold maxLen; omega
  · omega
  · simp; omega
  · intro v' w' r1 r2 _ r4
    have hoff : Off (fun k => v.ownBlock = some k) (wr.alloc (.cells #[.int .i64 p.1, .int .i64 p.2.1, .int .i64 p.2.2.1, .string ⟨p.2.2.2.toArray⟩] 53)) w' := off_grown r2 (fun k e => e)
    refine h v' w' ⟨⟨dsk_off hv.log.dsk hoff (fun k hk => (hv.far k hk).1), blk_offL hv.log.blk hoff (fun e => (hv.far lb e).2 rfl), hv.log.no⟩, hv.own, hv.lbl, hv.bel.trans (hoff.below hv.bel.size (fun k hk => (hv.row.lt k hk).1)), by rw [cellsR_snoc]; simpa using r1, fun rb e => ?_⟩
    rcases r4 with r4 | r4
    · exact hv.far rb (by rw [← r4]; exact e)
    · rw [r4] at e
      have e' := Option.some.inj e
      exact ⟨none_of_lt (dsk_lt hv.log.dsk) (by omega), by have := hv.log.blk.2; omega⟩
/-- behind the loop: what the disk would leave, what was tried -/
def FinS (w0 : World) (g : Nat) (tv fv : Value) (W : World) : Prop :=
  ∃ (o : Ow) (s : Dk) (T tr : RL) (fm : Nat), fv = .int .i64 (fm : Int) ∧ Dsk o g s W ∧ (∀ k, o.has k → w0.heap.size ≤ k) ∧ Below w0.heap.size w0 W ∧ W.ownsRow w0.heap.size 53 4 tv tr.length (cellsR tr) ∧ Bd 60000000 s ∧ (∀ k keep, Lft T fm (s.left k keep)) ∧ T <+: tr ∧ T.length ≤ 100 ∧ tr.length ≤ 101
theorem takeRx {w : World} {ao : Option Addr} {vl vc : Nat} {rs : RL} (h : HoldsR w (.slice ao vl vc) rs) (k : Nat) (hk : k ≤ rs.length) : (∀ W, Sem.run Tryz.prog (Instr.slice 42 (.slice ao vl vc) none (some (.int .i64 (k : Int))) none) W = .ok (.slice ao k vc) W) ∧ HoldsR w (.slice ao k vc) (rs.take k) := by
  have h' := h
  obtain ⟨ao', cap, e, h0, hc, hcell⟩ := h'
  simp only [Value.slice.injEq] at e
  obtain ⟨rfl, rfl, rfl⟩ := e
  refine ⟨fun W => ?_, ao, vc, by rw [List.length_take, Nat.min_eq_left hk], h0, by rw [List.length_take]; omega, fun hne => ?_⟩
  · have hel : Tryz.prog.elem 42 = 53 := by kernel_rfl
    have hh := run_slice_h (P := Tryz.prog) W 42 ao rs.length vc (by rw [hel]; exact Tryz.underlying42) .i64 k (by omega) (by omega)
    rw [hel, Tryz.sizeOf53] at hh
    simp only [Result.andThen, Int.toNat_natCast, sliced] at hh
    rw [hh]
    by_cases hz : vc = 0
    · subst hz
      obtain rfl : k = 0 := by omega
      cases ao <;> simp
    · simp [Addr.add]
  · obtain ⟨b, off, e1, e2, e3⟩ := hcell (fun e => hne (by rw [e]; simp))
    refine ⟨b, off, e1, e2, fun j hj => ?_⟩
    rw [List.length_take] at hj
    have := e3 j (by omega)
    rw [List.getElem_take]
    exact this
theorem holdsR_row {w : World} {base : Nat} {v : Value} {rs : RL} (h : w.ownsRow base 53 4 v rs.length (cellsR rs)) : HoldsR w v rs := by
  obtain ⟨hl, h1 | ⟨g, cap, cur, rfl, hg, hh, hr⟩⟩ := id h
  · obtain ⟨rfl, hn⟩ := h1
    obtain rfl : rs = [] := List.eq_nil_of_length_eq_zero hn
    exact ⟨none, 0, rfl, fun _ => rfl, Nat.le_refl _, fun h => absurd rfl h⟩
  · refine ⟨_, cap, rfl, fun e => (by cases e), hr.1, fun _ => ⟨g, 0, rfl, (h.lt g rfl).2, fun j hj => ?_⟩⟩
    have c := cellsR_at rs j hj
    unfold RcAt
    rw [Nat.zero_add]
    exact ⟨by rw [h.cellAt (j * 4) (by omega)]; exact c.1, by rw [h.cellAt (j * 4 + 1) (by omega)]; exact c.2.1, by rw [h.cellAt (j * 4 + 2) (by omega)]; exact c.2.2.1, by rw [h.cellAt (j * 4 + 3) (by omega)]; exact c.2.2.2⟩
theorem newE_leftS {s : Dk} (h : Wf s) (k : Int) (keep : List Int) : newE (s.left k keep) 1048576 = 0 := by
  unfold newE
  rw [if_neg (by decide), if_pos (left_ok h k keep)]
theorem lft_bd {T : RL} {fm : Nat} {fs : FilL} (h : Lft T fm fs) (hT : T.length ≤ 100) : fs.length ≤ 411200 ∧ ∀ f ∈ fs, f.1.length ≤ 140737488351232 ∧ f.2.length ≤ 411200 := by
  rcases h with ⟨rfl, _⟩ | ⟨p, K, rfl, _, _, _, _, h5⟩
  · exact ⟨Nat.zero_le _, fun f hf => by cases hf⟩
  · refine ⟨by simp, fun f hf => ?_⟩
    rw [List.mem_singleton.1 hf]
    exact ⟨by show lgN.length ≤ _; decide, by show p.length ≤ _; omega⟩
/-- Open of any disk -/
theorem openL {o : Ow} {g : Nat} {s : Dk} {W : World} (h : Dsk o g s W) (m : Nat) (hB : Bd m s) (hm : m ≤ 1000000) :
    Calls Tryz.prog 7 #[lptr g] W fun e W' => OpPost o g (openT rdT s) W e W' ∧ Bd (15 * m + 200) (openT rdT s).1.1.1 := by
  refine (openC h m (7 * m + 100) hB (by omega) (by omega) rdT (fun lb o' w hl _ => ?_)).mono ?_
  · refine (readG hl (m + 2) (by omega) (remU_bd (st := (s, 0)) hB)).mono ?_
    rintro e W' ⟨p1, p2⟩
    exact ⟨p1, bd_mono p2 (by omega)⟩
  · rintro e W' ⟨p1, p2⟩
    exact ⟨p1, bd_mono p2 (by omega)⟩
end Go.Proofs.YtijnjgnckipghaaGreat
