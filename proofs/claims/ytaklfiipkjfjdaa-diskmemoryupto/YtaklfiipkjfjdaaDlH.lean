/- A disk under way: what New has laid behind some files. -/
import Derived.Test.YtaklfiipkjfjdaaDlG
namespace Go.Proofs.Ytaklfiipkjfjdaa
open Go.RowKit Go.Maps
set_option maxHeartbeats 1000000 in
theorem newFileB {g n : Nat} {a0 a1 a2 a3 a5 a6 a7 : Value} {W : World} (h : Blk g W [a0, a1, a2, a3, .int .i64 (n : Int), a5, a6, a7]) (hb : n ≤ 1000000000) :
    Calls Try.prog 27 #[.pointer (some ⟨g, 0, none⟩)] W fun e W' => e = .returned (.pointer (some ⟨W.heap.size, 0, none⟩)) ∧ W' = newB W g n := by
  have hg := h.2
  have hne : ¬ W.heap.size = g := by omega
  have hne2 : ¬ g = W.heap.size := by omega
  obtain ⟨⟨_, _, _, _, c4, _⟩, ⟨_, f4, _⟩⟩ := cells_eight h
  clear h
  go_enter Try.func27, Try.ntmps27
  go_wp2_with fail
  go_ret
  exact ⟨rfl, rfl⟩
/-- a map that holds just these numbers, put in one by one -/
def FailsN (W : World) (m n : Nat) (fs : List Int) : Prop := ∃ D, W.ownsMap Try.prog 3 (unitElem (H := Unit)) m n D ∧ ∀ i : Int, Maps.has D (.int .i64 i) = decide (i ∈ fs)
theorem fails_put {D : DU} {fs : List Int} {z : Int} (hm : Maps.IsMap D) (h : ∀ i : Int, Maps.has D (.int .i64 i) = decide (i ∈ fs)) (i : Int) : Maps.has (D.put (.int .i64 z) (.agg [])) (.int .i64 i) = decide (i ∈ fs ++ [z]) := by
  by_cases e : i = z
  · subst e
    rw [Maps.has_put_same (k := .int .i64 i) hm trivial]
    simp
  · rw [Maps.has_put_other (by simpa using e), h i]
    apply decide_eq_decide.2
    simp [e]
/-- a disk under way: so many files are laid, none of them safe by name -/
structure NewP (o : Ow) (g m0 m1 : Nat) (fb : Nat → Nat) (room power : Int) (fails : List Int) (fs : FilL) (n0 : Nat) (W : World) : Prop where
  blk : Blk g W [.int .i64 room, .int .i64 power, .map (some m0), .int .i64 0, .int .i64 (fs.length : Int), .map (some m1), .map none, .slice none 0 0]
  fails : FailsAt W m0 fails
  seen : Tbl W m1 fb (numbered fs)
  files : ∀ i (h : i < fs.length), FileAt o W (fb i) i (fs[i]).2 (fs[i]).2.length
  og : o g = some .disk
  o0 : o m0 = some .fails
  o1 : o m1 = some .seen
  lt : ∀ k, o.has k → k < W.heap.size
  new : ∀ k, o.has k → n0 ≤ k
theorem newP_same {o : Ow} {g m0 m1 : Nat} {fb : Nat → Nat} {room power : Int} {fails : List Int} {fs : FilL} {n0 : Nat} {W W' : World} (h : NewP o g m0 m1 fb room power fails fs n0 W) (hs : Same o (fun _ => True) W W') : NewP o g m0 m1 fb room power fails fs n0 W' :=
  ⟨blk_same h.blk hs h.og trivial, fails_same h.fails hs h.o0 trivial, tbl_same h.seen hs h.o1 trivial, fun i hi => file_same (h.files i hi) hs trivial trivial, h.og, h.o0, h.o1, fun k hk => Nat.lt_of_lt_of_le (h.lt k hk) hs.size, h.new⟩
theorem newP_below {o : Ow} {g m0 m1 : Nat} {fb : Nat → Nat} {room power : Int} {fails : List Int} {fs : FilL} {n0 : Nat} {W W' : World} (h : NewP o g m0 m1 fb room power fails fs n0 W) (hb : Below W.heap.size W W') : NewP o g m0 m1 fb room power fails fs n0 W' := newP_same h (same_below hb h.lt)
theorem num_snoc (fs : FilL) (f : Nm × List UInt8) : numbered (fs ++ [f]) = numbered fs ++ [(f.1, fs.length)] := by
  unfold numbered
  rw [List.zipIdx_append, List.map_append]
  simp
theorem put_last {l : NL} {n : Nm} {k : Nat} (h : ∀ p ∈ l, lessN p.1 n = true) : putN l n k = l ++ [(n, k)] := by
  have h1 : delN l n = l := by
    unfold delN
    refine List.filter_eq_self.2 (fun p hp => ?_)
    have := h p hp
    simp only [ne_eq, decide_eq_true_eq]
    intro e
    rw [e, less_irrefl] at this
    cases this
  unfold putN
  rw [h1]
  clear h1
  induction l with
  | nil => rfl
  | cons q r ih =>
    have hq := less_asymm _ _ (h q (List.mem_cons_self ..))
    unfold insN
    rw [if_neg (by rw [hq]; decide), ih (fun p hp => h p (List.mem_cons_of_mem _ hp))]
    rfl
theorem num_put (fs : FilL) (f : Nm × List UInt8) (h : filesOk (fs ++ [f]) = true) : putN (numbered fs) f.1 fs.length = numbered (fs ++ [f]) := by
  rw [num_snoc]
  refine put_last (fun p hp => ?_)
  have hs := num_sorted h
  rw [num_snoc] at hs
  exact (List.pairwise_append.1 hs).2.2 p hp (f.1, fs.length) (by simp)
/-- one file more, in block X, whose bytes lie in rows of its own; its name is put in -/
theorem newP_file {o : Ow} {g m0 m1 : Nat} {fb : Nat → Nat} {room power : Int} {fails : List Int} {fs : FilL} {n0 : Nat} {W W' : World} {X : Nat} {rv : Value} {f : Nm × List UInt8} (h : NewP o g m0 m1 fb room power fails fs n0 W) (hn0 : n0 ≤ W.heap.size) (hX : W.heap.size ≤ X) (hXl : X < W'.heap.size)
    (hs : Same o (fun r => r ≠ .disk ∧ r ≠ .seen) W W') (hb : Blk g W' [.int .i64 room, .int .i64 power, .map (some m0), .int .i64 0, .int .i64 ((fs.length : Int) + 1), .map (some m1), .map none, .slice none 0 0])
    (hx : Blk X W' [.int .i64 (fs.length : Int), rv, .int .i64 (f.2.length : Int)]) (hr : W'.ownsRow (X + 1) 5 1 rv f.2.length (f.2.map B)) (ht : Tbl W' m1 (upd fb fs.length X) (putN (numbered fs) f.1 fs.length)) (hok : filesOk (fs ++ [f]) = true) :
    NewP ((o.set X (.file fs.length)).row rv fs.length) g m0 m1 (upd fb fs.length X) room power fails (fs ++ [f]) n0 W' := by
  have nX : o X = none := none_of_lt h.lt hX
  have le0 : o.le (o.set X (.file fs.length)) := le_set _ (.inl nX)
  have nr : ∀ rb, rv.ownBlock = some rb → X < rb ∧ rb < W'.heap.size ∧ (o.set X (.file fs.length)) rb = none := by
    intro rb e
    have hlt := hr.lt rb e
    refine ⟨by omega, hlt.2, ?_⟩
    rw [set_other _ _ (by omega)]
    exact none_of_lt h.lt (by omega)
  have le1 : (o.set X (.file fs.length)).le ((o.set X (.file fs.length)).row rv fs.length) := by
    unfold Ow.row
    cases e : rv.ownBlock with
    | none => exact fun _ _ h => h
    | some rb => exact le_set _ (.inl (nr rb e).2.2)
  have hle : o.le ((o.set X (.file fs.length)).row rv fs.length) := fun k r e => le1 k r (le0 k r e)
  have hhas : ∀ k, ((o.set X (.file fs.length)).row rv fs.length).has k → o.has k ∨ k = X ∨ rv.ownBlock = some k := by
    intro k hk
    unfold Ow.row at hk
    cases e : rv.ownBlock with
    | none =>
      rw [e] at hk
      rcases has_set hk with h1 | h1
      · exact .inr (.inl h1)
      · exact .inl h1
    | some rb =>
      rw [e] at hk
      rcases has_set hk with h1 | h1
      · exact .inr (.inr (by rw [h1]))
      · rcases has_set h1 with h2 | h2
        · exact .inr (.inl h2)
        · exact .inl h2
  refine ⟨?_, fails_same h.fails hs h.o0 (by decide), ?_, fun i hi => ?_, hle _ _ h.og, hle _ _ h.o0, hle _ _ h.o1, fun k hk => ?_, fun k hk => ?_⟩
  · have e : ((fs ++ [f]).length : Int) = (fs.length : Int) + 1 := by simp
    rw [e]
    exact hb
  · rw [← num_put fs f hok]; exact ht
  · by_cases e : i < fs.length
    · rw [upd_lt e, List.getElem_append_left e]
      exact file_le (file_same (h.files i e) hs (by simp) (by simp)) hle
    · have ei : i = fs.length := by simp at hi; omega
      subst ei
      have e2 : (fs ++ [f])[fs.length]'hi = f := by simp
      rw [upd_same, e2]
      refine ⟨rv, hx, row_base hr (Nat.zero_le _), le1 _ _ (set_same _ _ _), fun rb e => ?_⟩
      unfold Ow.row
      rw [e]
      exact set_same _ _ _
  · rcases hhas k hk with h1 | h1 | h1
    · exact Nat.lt_of_lt_of_le (h.lt k h1) hs.size
    · rw [h1]; exact hXl
    · exact (nr k h1).2.1
  · rcases hhas k hk with h1 | h1 | h1
    · exact h.new k h1
    · omega
    · have := (nr k h1).1; omega
/-- the names' copy, and the disk is whole -/
theorem newP_dkV {o : Ow} {g m0 m1 m2 : Nat} {fb : Nat → Nat} {room power : Int} {fails : List Int} {fs : FilL} {n0 : Nat} {W W' : World} (h : NewP o g m0 m1 fb room power fails fs n0 W) (hok : filesOk fs = true) (hrm : 0 ≤ room ∧ room ≤ 1073741824) (hm2 : W.heap.size ≤ m2) (hb : Below W.heap.size W W') (ht : Tbl W' m2 fb (numbered fs)) :
    DkV (o.set m2 .safe) g m0 m1 m2 (.slice none 0 0) fb (newS fs room fails power) [] (W'.setCell ⟨g, 6, none⟩ (.map (some m2))) := by
  have h1 := newP_below h hb
  have n2 : o m2 = none := none_of_lt h.lt hm2
  have hle : o.le (o.set m2 .safe) := le_set _ (.inl n2)
  have s1 : Same o (fun r => r ≠ .disk) W' (W'.setCell ⟨g, 6, none⟩ (.map (some m2))) := same_poke h.og _
  have s2 : Same (o.set m2 .safe) (fun r => r ≠ .disk) W' (W'.setCell ⟨g, 6, none⟩ (.map (some m2))) := same_poke (hle _ _ h.og) _
  have hw := wf_new hok room fails power
  have hl2 : m2 < W'.heap.size := World.ownsMap.lt ht
  have hdl : (newS fs room fails power).data.length = fs.length := by simp [newS]
  refine ⟨?_, fails_same h1.fails s1 h.o0 (by decide), tbl_same h1.seen s1 h.o1 (by decide), tbl_same ht s2 (set_same _ _ _) (by decide), ⟨[], World.ownsRow_nil _ _ _ _, fun i hi => absurd hi (by simp), fun rb e => by cases e⟩, fun i hi => ?_, hle _ _ h.og, hle _ _ h.o0, hle _ _ h.o1, set_same _ _ _, fun k hk => ?_, hw.1, hw.2, ⟨rfl, rfl⟩, hrm⟩
  · have := cells_set h1.blk (j := 6) (by simp) (.map (some m2))
    rw [hdl]
    exact this
  · rw [hdl] at hi
    have e1 : (newS fs room fails power).data.getD i [] = (fs[i]).2 := by simp [newS, List.getD, hi]
    have e2 : (newS fs room fails power).firm.getD i 0 = (fs[i]).2.length := by simp [newS, List.getD, hi]
    rw [e1, e2]
    exact file_le (file_same (h1.files i hi) s1 (by simp) (by simp)) hle
  · have e : (W'.setCell ⟨g, 6, none⟩ (.map (some m2))).heap.size = W'.heap.size := by simp [World.setCell]
    rw [e]
    rcases has_set hk with e1 | e1
    · rw [e1]; exact hl2
    · exact h1.lt k e1
end Go.Proofs.Ytaklfiipkjfjdaa
