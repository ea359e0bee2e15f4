/- The contract of Create. -/
import Derived.Test.YtaklfiipkjfjdaaDkY
import Derived.Deep.RegionWith
namespace Go.Proofs.Ytaklfiipkjfjdaa
open Go.RowKit Go.Maps
theorem cre_spec (s : Dk) (nm to : Nm) (d : List UInt8) (h : stepE s [nm] = 0) : (∀ k, atN s.now nm = some k → s.step ⟨1, nm, to, d⟩ = (cntS s, 91)) ∧ (atN s.now nm = none → s.step ⟨1, nm, to, d⟩ = ({ cntS s with data := (cntS s).data ++ [[]], firm := (cntS s).firm ++ [0] }.named ((Chg.put nm (cntS s).data.length).app (cntS s).now), 0)) := by
  obtain ⟨h1, h2⟩ := step_z s ⟨1, nm, to, d⟩ h
  refine ⟨fun k e => ?_, fun e => ?_⟩
  · rw [h2, e, h1]; rfl
  · rw [h2, e, h1]; rfl
def upd (fb : Nat → Nat) (n b : Nat) : Nat → Nat := fun i => if i = n then b else fb i
theorem upd_same (fb : Nat → Nat) (n b : Nat) : upd fb n b n = b := by unfold upd; rw [if_pos rfl]
theorem upd_lt {fb : Nat → Nat} {n b i : Nat} (h : i < n) : upd fb n b i = fb i := by unfold upd; rw [if_neg (by omega)]
theorem tbl_upd {W : World} {m : Nat} {fb : Nat → Nat} {l : NL} (h : Tbl W m fb l) {n b : Nat} (hl : ∀ p ∈ l, p.2 < n) : Tbl W m (upd fb n b) l := by
  unfold Tbl at *
  rw [dOf_congr (fc := fb) (fun p hp => upd_lt (hl p hp))]
  exact h
/-- the numbers that a change names are below n -/
def chgLt (n : Nat) : Chg → Prop
  | .put _ k => k < n
  | .del _ => True
  | .mv _ _ k => k < n
theorem chg_upd {o : Ow} {W : World} {fb : Nat → Nat} {v : Value} {c : Chg} (h : ChgV o fb W v c) {n b : Nat} (hl : chgLt n c) : ChgV o (upd fb n b) W v c := by
  cases c with
  | put x k =>
    obtain ⟨l, bf, bn, e, h1, h2, o1, o2⟩ := h
    exact ⟨l, bf, bn, e, by rw [upd_lt hl]; exact h1, h2, o1, o2⟩
  | del x => exact h
  | mv x y k =>
    obtain ⟨l1, l2, ba, bf, bb, e, h1, h2, h3, o1, o2, o3⟩ := h
    exact ⟨l1, l2, ba, bf, bb, e, h1, by rw [upd_lt hl]; exact h2, h3, o1, o2, o3⟩
theorem mem_insN {x : Nm} {k : Nat} (l : NL) : (x, k) ∈ insN x k l := mem_ins.2 (.inl rfl)
/-- the changes name files that are there: each change's number stands in the names' list behind it -/
theorem sc_lt {s : Dk} {cs : List Chg} (hw : Wf s) (hsc : Sc s cs) : ∀ i (h : i < cs.length), chgLt s.data.length cs[i] := by
  intro i hi
  have hm : (scanC s.safe cs).getD i [] ∈ s.pend := by
    rw [hsc.1]
    have hl : i < (scanC s.safe cs).length := by rw [scan_len]; exact hi
    have e : (scanC s.safe cs).getD i [] = (scanC s.safe cs)[i] := by simp [List.getD, hl]
    rw [e]
    exact List.getElem_mem _
  rw [scan_get _ _ _ hi] at hm
  have hwf := hw.pend _ hm
  rw [take_succ_app cs s.safe i hi] at hwf
  cases hc : cs[i] with
  | put x k => rw [hc] at hwf; exact (hwf.2 (x, k) (mem_insN _)).1
  | del x => trivial
  | mv x y k => rw [hc] at hwf; exact (hwf.2 (y, k) (mem_insN _)).1
/-- a new file in a new block, and the count of files -/
theorem dkV_new {o : Ow} {g m0 m1 m2 : Nat} {pv : Value} {fb : Nat → Nat} {s : Dk} {cs : List Chg} {W : World} (h : DkV o g m0 m1 m2 pv fb s cs W) :
    DkV (o.set W.heap.size (.file s.data.length)) g m0 m1 m2 pv (upd fb s.data.length W.heap.size) { s with data := s.data ++ [[]], firm := s.firm ++ [0] } cs (newB W g s.data.length) := by
  have hob : o W.heap.size = none := none_of_lt h.lt (Nat.le_refl _)
  have hle : o.le (o.set W.heap.size (.file s.data.length)) := le_set _ (.inl hob)
  have ez : (W.setCell ⟨g, 4, none⟩ (.int .i64 ((s.data.length : Int) + 1))).heap.size = W.heap.size := by simp [World.setCell]
  have s1 : Same o (fun r => r ≠ .disk) W (W.setCell ⟨g, 4, none⟩ (.int .i64 ((s.data.length : Int) + 1))) := same_poke h.og _
  have s2 : Same o (fun _ => True) (W.setCell ⟨g, 4, none⟩ (.int .i64 ((s.data.length : Int) + 1))) (newB W g s.data.length) := same_below (below_alloc' _ _) (fun k hk => by rw [ez]; exact h.lt k hk)
  have s12 : Same o (fun r => r ≠ .disk) W (newB W g s.data.length) := s1.trans (s2.mono (fun _ _ => trivial))
  have b1 := cells_set h.blk (j := 4) (by simp) (.int .i64 ((s.data.length : Int) + 1))
  have b2 := blk_same b1 s2 h.og trivial
  have bl := cells_lit (W.setCell ⟨g, 4, none⟩ (.int .i64 ((s.data.length : Int) + 1))) #[.int .i64 (s.data.length : Int), .slice none 0 0, .int .i64 0] 75
  rw [ez] at bl
  have hnl : ∀ p ∈ s.now, p.2 < s.data.length := fun p hp => (h.wf.now.2 p hp).1
  have hsl : ∀ p ∈ s.safe, p.2 < s.data.length := fun p hp => (h.wf.safe.2 p hp).1
  have hzz : (newB W g s.data.length).heap.size = W.heap.size + 1 := by simp [ez]
  have hwf : Wf { s with data := s.data ++ [[]], firm := s.firm ++ [0] } := by
    have hl : s.data.length ≤ (s.data ++ [[]]).length := by simp
    refine ⟨by simp [h.wf.len], fun i => ?_, wfN_more (d := s.data ++ [[]]) (f := s.firm ++ [0]) h.wf.now hl, wfN_more (d := s.data ++ [[]]) (f := s.firm ++ [0]) h.wf.safe hl, fun l hx => wfN_more (d := s.data ++ [[]]) (f := s.firm ++ [0]) (h.wf.pend l hx) hl⟩
    rcases Nat.lt_or_ge i s.firm.length with hi | hi
    · have := h.wf.firm i
      have hi2 : i < s.data.length := by rw [← h.wf.len]; exact hi
      simp only [List.getD, List.getElem?_append_left hi, List.getElem?_append_left hi2]
      exact this
    · have e9 : (s.firm ++ [0]).getD i 0 = 0 := by
        simp only [List.getD, List.getElem?_append_right hi]
        cases i - s.firm.length <;> simp
      show (s.firm ++ [0]).getD i 0 ≤ _
      rw [e9]
      exact Nat.zero_le _
  refine ⟨?_, fails_same h.fails s12 h.o0 (by decide), tbl_upd (tbl_same h.seen s12 h.o1 (by decide)) hnl, tbl_upd (tbl_same h.safe s12 h.o2 (by decide)) hsl, ?_, fun i hi => ?_, hle _ _ h.og, hle _ _ h.o0, hle _ _ h.o1, hle _ _ h.o2, fun k hk => ?_, hwf, h.once, h.sc, h.rm⟩
  · show Blk g _ [.int .i64 s.room, .int .i64 s.power, .map (some m0), .int .i64 (s.n : Int), .int .i64 ((s.data ++ [[]]).length : Int), .map (some m1), .map (some m2), pv]
    have e : ((s.data ++ [[]]).length : Int) = (s.data.length : Int) + 1 := by simp
    rw [e]
    exact b2
  · obtain ⟨vs, hr, hc, hw⟩ := pend_le (pend_same h.pend s12 (by decide) (by decide)) hle
    exact ⟨vs, hr, fun i hi => by obtain ⟨v, e, hv⟩ := hc i hi; exact ⟨v, e, chg_upd hv (sc_lt h.wf h.sc i hi)⟩, hw⟩
  · rw [show ({ s with data := s.data ++ [[]], firm := s.firm ++ [0] } : Dk).data = s.data ++ [[]] from rfl, List.length_append, List.length_singleton] at hi
    show FileAt _ _ (upd fb s.data.length W.heap.size i) i ((s.data ++ [[]]).getD i []) ((s.firm ++ [0]).getD i 0)
    by_cases e : i < s.data.length
    · have hf : i < s.firm.length := by rw [h.wf.len]; exact e
      have e1 : (s.data ++ [[]]).getD i [] = s.data.getD i [] := by simp only [List.getD, List.getElem?_append_left e]
      have e2 : (s.firm ++ [0]).getD i 0 = s.firm.getD i 0 := by simp only [List.getD, List.getElem?_append_left hf]
      rw [upd_lt e, e1, e2]
      exact file_le (file_same (h.files i e) s12 (by simp) (by simp)) hle
    · have ei : i = s.data.length := by omega
      subst ei
      have e1 : (s.data ++ [[]]).getD s.data.length [] = [] := by simp [List.getD]
      have e2 : (s.firm ++ [0]).getD s.data.length 0 = 0 := by rw [← h.wf.len]; simp [List.getD]
      rw [upd_same, e1, e2]
      exact ⟨.slice none 0 0, bl, World.ownsRow_nil _ _ _ _, set_same _ _ _, fun rb e => by cases e⟩
  · rw [hzz]
    rcases has_set hk with e | e
    · omega
    · have := h.lt k e; omega
/-- behind newFile: the disk has one file more, in block X -/
def NFw (o : Ow) (g m0 m1 m2 : Nat) (pv : Value) (fb : Nat → Nat) (s : Dk) (cs : List Chg) (w0 : World) (X : Nat) (w : World) : Prop :=
  DkV (o.set X (.file s.data.length)) g m0 m1 m2 pv (upd fb s.data.length X) { s with data := s.data ++ [[]], firm := s.firm ++ [0] } cs w ∧ Off (fun k => k = g) w0 w ∧ w0.heap.size ≤ X ∧ X < w.heap.size
theorem nf_off {o : Ow} {g m0 m1 m2 : Nat} {pv : Value} {fb : Nat → Nat} {s : Dk} {cs : List Chg} {w0 w w' : World} {X : Nat} {S : Nat → Prop} (h : NFw o g m0 m1 m2 pv fb s cs w0 X w) (hb : Off S w w') (hS : ∀ k, S k → (o.set X (.file s.data.length)) k = none ∧ w0.heap.size ≤ k) : NFw o g m0 m1 m2 pv fb s cs w0 X w' :=
  ⟨dkV_off h.1 hb (fun k hk => (hS k hk).1), h.2.1.trans hb (fun i hi => .inr (hS i hi).2), h.2.2.1, Nat.lt_of_lt_of_le h.2.2.2 hb.size⟩
theorem nf_below {o : Ow} {g m0 m1 m2 : Nat} {pv : Value} {fb : Nat → Nat} {s : Dk} {cs : List Chg} {w0 w w' : World} {X : Nat} (h : NFw o g m0 m1 m2 pv fb s cs w0 X w) (hb : Below w.heap.size w w') : NFw o g m0 m1 m2 pv fb s cs w0 X w' :=
  nf_off (S := fun _ => False) h (off_of hb) (fun _ h => h.elim)
end Go.Proofs.Ytaklfiipkjfjdaa
