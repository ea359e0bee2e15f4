/- Open, sameRecords and a script's step, as SwaplogSteps' walk calls them. -/
import Derived.Test.YtijnjgnckipghaaGreatSwEa
namespace Go.Proofs.YtijnjgnckipghaaGreat
open Go.RowKit
theorem openX {o : Ow} {g : Nat} {s : Dk} {W : World} (h : Dsk o g s W) (m : Nat) (hB : Bd m s) (hm : m ≤ 1100000) {S1 : Dk} {c1 : Int} {L1 : RL} {e1 : Int} (hQ : refOpen s = ((S1, c1), L1, e1)) :
    Calls Tryz.prog 7 #[lptr g] W fun e W' => (e1 ≠ 0 ∧ e = .returned (.tuple #[.pointer none, .slice none 0 0, .int .i64 e1]) ∧ ∃ o', Dsk o' g S1 W' ∧ Grow o W o' W') ∨ (e1 = 0 ∧ ∃ lb lv o', e = .returned (.tuple #[lptr lb, lv, .int .i64 0]) ∧ LogS o' g lb S1 c1 W' ∧ Grow o W o' W' ∧ W.heap.size ≤ lb ∧ HoldsR W' lv L1) := by
  obtain ⟨p1, p2, p3⟩ := open_ref s
  rw [hQ] at p1 p2 p3
  dsimp only at p1 p2 p3
  refine (openM h m hB hm).mono ?_
  rintro e W' op
  unfold OpPost at op
  rw [p1] at op
  rw [p1] at p3
  obtain ⟨ne, rfl, o', hd, hg⟩ | ⟨ok, lb, lv, o', rfl, hl, hg, hlb, hr⟩ := op
  · rw [p2] at hd
    exact .inl ⟨ne, rfl, o', hd, hg⟩
  · obtain ⟨q1, q2⟩ := p3 ok
    have hr1 := hr.1
    rw [p2, ← q2] at hl
    rw [q1] at hr1
    exact .inr ⟨ok, lb, lv, o', rfl, hl, hg, hlb, hr1⟩
theorem sameRX (va vb : Value) (xs : RL) (w : World) (ha : HoldsR w va xs) (hb : HoldsR w vb xs) (la : xs.length ≤ 1000000000000) :
    Calls Tryz.prog 9 #[va, vb] w fun e w' => e = .returned (.bool true) ∧ Below w.heap.size w w' := by
  refine (sameRC va vb xs xs w ha hb la).mono ?_
  rintro e w' ⟨rfl, n, rfl⟩
  exact ⟨by simp, below_drewN w n⟩
theorem st_slice {w : World} {v : Value} {os : List StT} (h : HoldsSt w v os) : ∃ oa oc, v = .slice oa os.length oc ∧ (0 < os.length → ∃ b off, oa = some ⟨b, off, none⟩) := by
  obtain ⟨ao, cap, rfl, _, _, hc⟩ := h
  refine ⟨ao, cap, rfl, fun hp => ?_⟩
  obtain ⟨b, off, e, _⟩ := hc (fun e => by rw [e] at hp; cases hp)
  exact ⟨b, off, e⟩
theorem st_at {w : World} {b off cap : Nat} {os : List StT} (h : HoldsSt w (.slice (some ⟨b, off, none⟩) os.length cap) os) (j : Nat) (hj : j < os.length) :
    ∃ xa xc, (w.cell? ⟨b, off + j * 5, none⟩ = some (.int .i64 os[j].1.1) ∧ w.cell? ⟨b, off + j * 5 + 1, none⟩ = some (.int .i64 os[j].1.2.1) ∧ w.cell? ⟨b, off + j * 5 + 2, none⟩ = some (.int .i64 os[j].1.2.2.1) ∧ w.cell? ⟨b, off + j * 5 + 3, none⟩ = some (.string ⟨os[j].1.2.2.2.toArray⟩) ∧ w.cell? ⟨b, off + j * 5 + 4, none⟩ = some (.slice xa os[j].2.length xc)) ∧ HoldsR w (.slice xa os[j].2.length xc) os[j].2 := by
  obtain ⟨ao, cap', e, _, _, hc⟩ := h
  obtain ⟨b', off', e2, hlt, hcell⟩ := hc (fun e => by rw [e] at hj; cases hj)
  simp only [Value.slice.injEq] at e
  obtain ⟨rfl, _, rfl⟩ := e
  simp only [Option.some.injEq, Addr.mk.injEq, and_true] at e2
  obtain ⟨rfl, rfl⟩ := e2
  obtain ⟨⟨h1, h2, h3, h4⟩, u, h5, h6⟩ := hcell j hj
  obtain ⟨xa, xc, hu, _⟩ := id h6
  subst hu
  exact ⟨xa, xc, ⟨h1, h2, h3, h4, h5⟩, h6⟩
theorem put_size {b : Nat} : ∀ (us : List Value) (o : Nat) (W : World), W.heap.size ≤ (putFrom b o W us).heap.size := fun us o W => (off_put (S := fun k => k = b) rfl us o W).size
theorem rsd_put {o : Ow} {lb n0 rb : Nat} {v : Value} {rs : RL} {W : World} (h : Rsd o lb n0 v rs W) (hn : rb < n0) (us : List Value) : Rsd o lb n0 v rs (putFrom rb 0 W us) :=
  ⟨holdsR_put h.1 (fun ad n c e => by have := h.2 ad n c e; omega) us, fun ad n c e => by
    obtain ⟨p1, p2, p3, p4⟩ := h.2 ad n c e
    exact ⟨p1, p2, p3, Nat.lt_of_lt_of_le p4 (put_size us 0 W)⟩⟩
theorem rsd_below {o : Ow} {lb n0 : Nat} {v : Value} {rs : RL} {W W' : World} (h : Rsd o lb n0 v rs W) (hb : Below W.heap.size W W') : Rsd o lb n0 v rs W' := rsd_grow h (growL_below hb)
theorem blk_five {b : Nat} {W : World} {v0 v1 v2 v3 v4 : Value} (h : Blk b W [v0, v1, v2, v3, v4]) : W.cell? ⟨b, 0, none⟩ = some v0 ∧ W.cell? ⟨b, 1, none⟩ = some v1 ∧ W.cell? ⟨b, 2, none⟩ = some v2 ∧ W.cell? ⟨b, 3, none⟩ = some v3 ∧ W.cell? ⟨b, 4, none⟩ = some v4 :=
  ⟨(h.1 0 (by simp)).1, (h.1 1 (by simp)).1, (h.1 2 (by simp)).1, (h.1 3 (by simp)).1, (h.1 4 (by simp)).1⟩
/-- both logs, and the fate's block -/
def Lq (g lb rb fb : Nat) (vs cs : List Value) (v : Value) (s : Dk) (c : Int) (t : Dk) (w W : World) : Prop := ∃ o, Sx o g lb rb vs v s c t w W ∧ Kz o lb rb w fb cs W
theorem lq_below {g lb rb fb : Nat} {vs cs : List Value} {v : Value} {s t : Dk} {c : Int} {w W W' : World} (h : Lq g lb rb fb vs cs v s c t w W) (hb : Below W.heap.size W W') : Lq g lb rb fb vs cs v s c t w W' := by
  obtain ⟨o, h1, h2⟩ := h
  exact ⟨o, sx_below h1 hb, kz_below h2 hb⟩
theorem lq_bel {g lb rb fb : Nat} {vs cs : List Value} {v : Value} {s t : Dk} {c : Int} {w W : World} (h : Lq g lb rb fb vs cs v s c t w W) : Below w.heap.size w W := by
  obtain ⟨o, h1, h2⟩ := h
  exact h1.bel
theorem lq_blk {g lb rb fb : Nat} {vs cs : List Value} {v : Value} {s t : Dk} {c : Int} {w W : World} (h : Lq g lb rb fb vs cs v s c t w W) : Blk rb W vs ∧ Blk fb W cs := by
  obtain ⟨o, h1, h2⟩ := h
  exact ⟨h1.blk, h2.blk⟩
end Go.Proofs.YtijnjgnckipghaaGreat
