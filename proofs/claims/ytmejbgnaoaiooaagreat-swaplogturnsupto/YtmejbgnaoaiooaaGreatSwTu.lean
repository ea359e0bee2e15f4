/- For the walk of SwaplogTurns: a record appended inside a drawn region; an Add without a loss of power. -/
import Derived.Test.YtmejbgnaoaiooaaGreatSwSv
import Derived.Test.YtmejbgnaoaiooaaGreatSwPt
import Derived.Deep.AppendLies
namespace Go.Proofs.YtmejbgnaoaiooaaGreat
open Go.RowKit Go.Shelf
theorem row_belowT {W W' : World} {base k n : Nat} {t : TypeId} {v : Value} {cs : List Value} (h : W.ownsRow base t k v n cs) (hb : Below W.heap.size W W') : W'.ownsRow base t k v n cs := row_offS (S := fun _ => False) h (off_of hb) (fun _ _ hh => hh)
/-- a world with one more block of these cells -/
def Lit1T (wl X : World) (cs : List Value) : Prop := Below wl.heap.size wl X ∧ X.heap.size = wl.heap.size + 1 ∧ ∀ i u, cs[i]? = some u → X.cell? ⟨wl.heap.size, i, none⟩ = some u
theorem lit1T_alloc (wl : World) (cs : List Value) (t : TypeId) : Lit1T wl (wl.alloc (.cells cs.toArray t)) cs := by
  refine ⟨below_alloc' wl _, by simp, fun i u hu => ?_⟩
  unfold World.cell?
  rw [World.alloc_heap_new]
  simpa using hu
theorem lit1T_drew (wl : World) (cs : List Value) (t : TypeId) : Lit1T wl (wl.alloc (.cells cs.toArray t)).drew cs := by
  obtain ⟨h1, _, h3⟩ := lit1T_alloc wl cs t
  exact ⟨h1.drew, by simp, fun i u hu => by simpa using h3 i u hu⟩
/-- one element, laid in a new block, appended to a row inside a drawn region -/
theorem step_appT {ops : Array Oper} {o : Oper} {a : Act} {K : Act → World → Prop} {Q : Exit → Act → World → Prop} {E : Prop} {X : World} (wl : World) (cs : List Value) (hX : Lit1T wl X cs) (hgd : o.guard = none) (s x : Operand) (st t : TypeId) (zv : Value) (k nb : Nat)
    (hus : Tryz.prog.underlying st = some (.slice t)) (hinfo : (Tryz.prog.info? t).map (fun i => (i.zero, i.size, i.bytes)) = some (some zv, k, nb)) (hzc : zv.cells.size = k) (hk : 0 < k)
    (ho : o.op = .call { callee := .builtin .append, args := #[s, x], argTypes := #[st, st] }) (base : Nat) (v : Value) (n : Nat) (xs : List Value) (hs : a.eval s = v) (hown : wl.ownsRow base t k v n xs)
    (hx : a.eval x = .slice (some ⟨wl.heap.size, 0, none⟩) 1 1) (hl : cs.length = k) (h1 : ∀ u ∈ cs, u.oneCell' = true) (hn : n ≤ 1000000000) (hnb : nb ≤ 1000) (hb : base ≤ wl.heap.size)
    (h : ∀ g cap w', w'.ownsRow base t k (.slice (some ⟨g, 0, none⟩) (n + 1) cap) (n + 1) (xs ++ cs) → X.grownBy w' v.ownBlock → (v.ownBlock = some g ∨ g = wl.heap.size + 1) → K (a.put o.dst (.slice (some ⟨g, 0, none⟩) (n + 1) cap)) w') :
    if Region.wanted o (yielded ops a.tmps) = true then Oper.wp Tryz.prog o a X K Q else E := by
  obtain ⟨i0, hi, hz0, hz1, hz2⟩ := info_parts hinfo
  obtain ⟨x1, x2, x3⟩ := hX
  have hle : (n + 1) * nb ≤ 140737488355328 := by
    have := Nat.mul_le_mul (show n + 1 ≤ 1000000001 by omega) hnb
    omega
  refine step_append_lies _ hgd s x st ho base t i0 zv k nb hus hi hz0 hz1 hz2 hzc hk v n xs hs (row_belowT hown x1) ⟨wl.heap.size, 0, none⟩ 1 1 cs hx (by omega) ?_ h1 (by decide) (by unfold maxLen; omega) hle (by omega) (wl.heap.size + 1) x2 (fun g cap w' r1 r2 r3 _ => h g cap w' r1 r2 r3)
  intro i u hu
  rw [Go.WideShapes.add_plain, Nat.zero_add]
  exact x3 i u hu
theorem celR_one (p : Rc) : ∀ u ∈ celR p, u.oneCell' = true := by intro u hu; simp [celR] at hu; rcases hu with rfl | rfl | rfl | rfl <;> rfl
/-- a record appended to the list beside a log, inside a drawn region -/
theorem stepRX {ops : Array Oper} {o : Oper} {a : Act} {K : Act → World → Prop} {Q : Exit → Act → World → Prop} {E : Prop} {X : World} {w0 : World} {g lb : Nat} {ow : Ow} {sd : Dk} {c : Int} {v : Value} {ps : RL} (wl : World) (hsv : SvS w0 g lb ow sd c v ps wl) (p : Rc) (hX : Lit1T wl X (celR p)) (hgd : o.guard = none) (s x : Operand)
    (ho : o.op = .call { callee := .builtin .append, args := #[s, x], argTypes := #[25, 25] }) (hs : a.eval s = v) (hx : a.eval x = .slice (some ⟨wl.heap.size, 0, none⟩) 1 1) (hn : ps.length ≤ 1000)
    (h : ∀ gb gc w', SvS w0 g lb ow sd c (.slice (some ⟨gb, 0, none⟩) (ps.length + 1) gc) (ps ++ [p]) w' → K (a.put o.dst (.slice (some ⟨gb, 0, none⟩) (ps.length + 1) gc)) w') : if Region.wanted o (yielded ops a.tmps) = true then Oper.wp Tryz.prog o a X K Q else E := by
  refine step_appT wl (celR p) hX hgd s x 25 59 (.agg #[.int .i64 0, .int .i64 0, .int .i64 0, .string ⟨#[]⟩]) 4 40 Tryz.underlying25 Tryz.info59 rfl (by decide) ho w0.heap.size v ps.length (cellsR ps) hs hsv.row hx rfl (celR_one p) (by omega) (by decide) hsv.bel.size ?_
  intro gb gc w' r6 g6 a6
  have hv := sv_below hsv hX.1
  have hoff : Off (fun k => v.ownBlock = some k) X w' := off_grown g6 (fun k e => e)
  refine h gb gc w' ⟨⟨dsk_off hv.log.dsk hoff (fun k hk => (hv.far k hk).1), blk_offL hv.log.blk hoff (fun e => (hv.far lb e).2 rfl), hv.log.no⟩, hv.own, hv.lbl, hv.bel.trans (hoff.below hv.bel.size (fun k hk => (hv.row.lt k hk).1)), by rw [cellsR_snoc]; simpa using r6, fun rb e => ?_⟩
  have e' : gb = rb := by simpa [Value.ownBlock] using e
  subst e'
  rcases a6 with a6 | a6
  · exact hv.far gb a6
  · exact ⟨none_of_lt (dsk_lt hsv.log.dsk) (by omega), by have := hsv.log.blk.2; omega⟩
/-- .. to a list of the call's own -/
theorem stepOR {ops : Array Oper} {o : Oper} {a : Act} {K : Act → World → Prop} {Q : Exit → Act → World → Prop} {E : Prop} {X : World} {w0 : World} {v : Value} {ps : RL} (wl : World) (hsv : OwnR w0 v ps wl) (p : Rc) (hX : Lit1T wl X (celR p)) (hgd : o.guard = none) (s x : Operand)
    (ho : o.op = .call { callee := .builtin .append, args := #[s, x], argTypes := #[25, 25] }) (hs : a.eval s = v) (hx : a.eval x = .slice (some ⟨wl.heap.size, 0, none⟩) 1 1) (hn : ps.length ≤ 1000)
    (h : ∀ gb gc w', OwnR w0 (.slice (some ⟨gb, 0, none⟩) (ps.length + 1) gc) (ps ++ [p]) w' → K (a.put o.dst (.slice (some ⟨gb, 0, none⟩) (ps.length + 1) gc)) w') : if Region.wanted o (yielded ops a.tmps) = true then Oper.wp Tryz.prog o a X K Q else E := by
  refine step_appT wl (celR p) hX hgd s x 25 59 (.agg #[.int .i64 0, .int .i64 0, .int .i64 0, .string ⟨#[]⟩]) 4 40 Tryz.underlying25 Tryz.info59 rfl (by decide) ho w0.heap.size v ps.length (cellsR ps) hs hsv.1 hx rfl (celR_one p) (by omega) (by decide) hsv.2.size ?_
  intro gb gc w' r6 g6 a6
  have hz := hsv.2.size
  have h1 := hX.1.size
  exact h gb gc w' ⟨by rw [cellsR_snoc]; simpa using r6, Below.grown (hsv.2.trans (hX.1.mono hz)) g6 (by omega) (fun k hk => (hsv.1.lt k hk).1)⟩
/-- without a loss of power an Add is refused, or safe -/
theorem add_up {T : RL} {bs : List UInt8} {f fm : Nat} (h : Lif T bs f fm) (R : Int) (n : Nat) (op no : Int) (id : List UInt8) :
    ((addT op no id (sL R (-1) n bs f, (T.length : Int))).2 ≠ 0 ∧ ∃ k, (addT op no id (sL R (-1) n bs f, (T.length : Int))).1 = (sL R (-1) k bs f, (T.length : Int))) ∨
    ((addT op no id (sL R (-1) n bs f, (T.length : Int))).2 = 0 ∧ ∃ k x, (addT op no id (sL R (-1) n bs f, (T.length : Int))).1 = (sL R (-1) k (bs ++ x) (bs ++ x).length, (T.length : Int) + 1) ∧ Lif (T ++ [((T.length : Int), op, no, id)]) (bs ++ x) (bs ++ x).length (T.length + 1)) := by
  have nd : ∀ k b g, (sL R (-1) k b g).down = false := fun k b g => by unfold Dk.down sL; simp
  rcases add_step h R (-1) n op no id with ⟨h1, _, h3⟩ | ⟨h1, h3⟩ | ⟨h1, k, x, h3, h4⟩ | h4
  · exact .inl ⟨h1, h3⟩
  · exact .inl ⟨by rw [h1]; decide, h3⟩
  · exfalso
    by_cases hz : (encOf (T.length : Int) op no id).2 = 0
    · have ea : addT op no id (sL R (-1) n bs f, (T.length : Int)) = addR (encOf (T.length : Int) op no id).1 (sL R (-1) n bs f, (T.length : Int)) := by unfold addT; dsimp only; rw [if_pos hz]
      rw [ea] at h1
      generalize (encOf (T.length : Int) op no id).1 = y at h1
      unfold addR at h1
      dsimp only at h1
      by_cases hr : y ≠ [] ∧ R < ((bs.length + y.length : Nat) : Int)
      · have e1 : opT ⟨2, lgN, [], y⟩ (sL R (-1) n bs f, (T.length : Int)) = ((sL R (-1) (n + 1) bs f, (T.length : Int)), 92) := by unfold opT; dsimp only; rw [l_app R (-1) n bs f y (nd _ _ _), if_pos hr]
        rw [runT_bad (by rw [e1]; simp), e1] at h1
        exact absurd h1 (by simp)
      · have e1 : opT ⟨2, lgN, [], y⟩ (sL R (-1) n bs f, (T.length : Int)) = ((sL R (-1) (n + 1) (bs ++ y) f, (T.length : Int)), 0) := by unfold opT; dsimp only; rw [l_app R (-1) n bs f y (nd _ _ _), if_neg hr]
        rw [runT_ok (by rw [e1]), e1] at h1
        dsimp only at h1
        rw [runT_ok (by rfl)] at h1
        have e2 : opT ⟨3, lgN, [], []⟩ (setT ((T.length : Int) + 1) (sL R (-1) (n + 1) (bs ++ y) f, (T.length : Int))).1 = ((sL R (-1) (n + 1 + 1) (bs ++ y) (bs ++ y).length, (T.length : Int) + 1), 0) := by unfold opT setT; dsimp only; rw [l_sync R (-1) _ _ _ (nd _ _ _)]
        rw [runT_ok (by rw [e2]), e2, runT_nil] at h1
        exact absurd h1 (by simp)
    · have ea : addT op no id (sL R (-1) n bs f, (T.length : Int)) = ((sL R (-1) n bs f, (T.length : Int)), (encOf (T.length : Int) op no id).2) := by unfold addT; dsimp only; rw [if_neg hz]
      rw [ea] at h3
      have := congrArg Prod.snd h3
      simp at this
      omega
  · exact .inr h4
/-- between two rounds of the law's first loop -/
def LoopT (w0 : World) (g lb i : Nat) (tv : Value) (W : World) : Prop :=
  ∃ (o : Ow) (nn : Nat) (bs : List UInt8) (T : RL) (fm : Nat), SvS w0 g lb o (sL 1048576 (-1) nn bs bs.length) (T.length : Int) tv T W ∧ Lif T bs bs.length fm ∧ T.length ≤ i ∧ Bd (2000 + 13000 * i) (sL 1048576 (-1) nn bs bs.length)
end Go.Proofs.YtmejbgnaoaiooaaGreat
