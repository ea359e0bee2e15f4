/- A table and the document's beside it, both made since world w; blocks that lie in neither. -/
import Derived.Test.YtikkmnclcbanfaaLrG
import Derived.Test.YtikkmnclcbanfaaLrV
import Derived.Test.YtikkmnclcbanfaaOpnK
namespace Go.Proofs.Ytikkmnclcbanfaa
open Go.RowKit Go.Maps Go.WideMaps
/-- the table l at block g since w; the blocks of q lie outside of it; rv holds the document's items lr, outside of it -/
def TbQ (w : World) (g : Nat) (room : Int) (l : IL) (c : Nat) (q : List Nat) (rv : Value) (lr : IL) (W : World) : Prop :=
  ∃ U, TbI U g room l c W ∧ (∀ k, U k → w.heap.size ≤ k) ∧ (∀ k ∈ q, ¬ U k ∧ w.heap.size ≤ k ∧ k < W.heap.size) ∧ Below w.heap.size w W ∧ HoldsI (mask (fun k => U k ∨ k ∈ q) W) rv lr
def KeepQ (q : List Nat) (W W' : World) : Prop := ∀ b ∈ q, W'.heap[b]? = W.heap[b]?
theorem keepQ_blk {q : List Nat} {W W' : World} {b : Nat} {vs : List Value} (h : Blk b W vs) (hk : KeepQ q W W') (hb : b ∈ q) (hz : W.heap.size ≤ W'.heap.size) : Blk b W' vs :=
  ⟨fun j hj => ⟨by rw [World.cell?_of_block (w := W) (a := ⟨b, j, none⟩) (hk b hb)]; exact (h.1 j hj).1, by rw [World.frozen?_of_block (w := W) (a := ⟨b, j, none⟩) (hk b hb)]; exact (h.1 j hj).2⟩, Nat.lt_of_lt_of_le h.2 hz⟩
theorem keepQ_below {q : List Nat} {W W' : World} (hb : Below W.heap.size W W') (hq : ∀ b ∈ q, b < W.heap.size) : KeepQ q W W' := fun b h => hb.block b (hq b h)
theorem tbq_lt {w W : World} {g c : Nat} {room : Int} {l lr : IL} {q : List Nat} {rv : Value} (h : TbQ w g room l c q rv lr W) : ∀ b ∈ q, b < W.heap.size := by
  obtain ⟨U, _, _, h3, _⟩ := h
  exact fun b hb => (h3 b hb).2.2
theorem tbq_bel {w W : World} {g c : Nat} {room : Int} {l lr : IL} {q : List Nat} {rv : Value} (h : TbQ w g room l c q rv lr W) : Below w.heap.size w W := by
  obtain ⟨U, _, _, _, h4, _⟩ := h
  exact h4
theorem tbq_ok {w W : World} {g c : Nat} {room : Int} {l lr : IL} {q : List Nat} {rv : Value} (h : TbQ w g room l c q rv lr W) : TOk room l := by
  obtain ⟨U, h1, _⟩ := h
  exact tb_okI h1
theorem tbq_holds {w W : World} {g c : Nat} {room : Int} {l lr : IL} {q : List Nat} {rv : Value} (h : TbQ w g room l c q rv lr W) : HoldsI W rv lr := by
  obtain ⟨U, _, _, _, _, h5⟩ := h
  exact holdsI_sub h5 (mask_sub _ W)
theorem tbq_below {w W W' : World} {g c : Nat} {room : Int} {l lr : IL} {q : List Nat} {rv : Value} (h : TbQ w g room l c q rv lr W) (hb : Below W.heap.size W W') : TbQ w g room l c q rv lr W' := by
  obtain ⟨U, h1, h2, h3, h4, h5⟩ := h
  exact ⟨U, tb_belowI h1 hb, h2, fun k hk => ⟨(h3 k hk).1, (h3 k hk).2.1, Nat.lt_of_lt_of_le (h3 k hk).2.2 hb.size⟩, h4.trans (hb.mono h4.size), holdsI_sub h5 (off_mask (off_of hb) (fun k e => .inl e))⟩
theorem tbq_sub {w W : World} {g c : Nat} {room : Int} {l lr : IL} {q q' : List Nat} {rv : Value} (h : TbQ w g room l c q rv lr W) (hq : ∀ k ∈ q', k ∈ q) : TbQ w g room l c q' rv lr W := by
  obtain ⟨U, h1, h2, h3, h4, h5⟩ := h
  exact ⟨U, h1, h2, fun k hk => h3 k (hq k hk), h4, holdsI_sub h5 (mask_mono (fun k e => by rcases e with e | e; exact .inl e; exact .inr (hq k e)))⟩
/-- a new block lies outside -/
theorem tbq_new {w W W' : World} {g c b : Nat} {room : Int} {l lr : IL} {q : List Nat} {rv : Value} (h : TbQ w g room l c q rv lr W) (hb : Below W.heap.size W W') (h1 : W.heap.size ≤ b) (h2 : b < W'.heap.size) : TbQ w g room l c (b :: q) rv lr W' := by
  have h0 := tbq_below h hb
  obtain ⟨U, k1, k2, k3, k4, k5⟩ := h
  have hU := tb_ltI k1
  refine ⟨U, tb_belowI k1 hb, k2, fun k hk => ?_, k4.trans (hb.mono k4.size), holdsI_sub k5 (off_mask (off_of hb) (fun k e => by
    rcases e with e | e
    · exact .inl (.inl e)
    · rcases List.mem_cons.1 e with e | e
      · right; omega
      · exact .inl (.inr e)))⟩
  rcases List.mem_cons.1 hk with e | e
  · rw [e]
    exact ⟨fun e2 => by have := hU b e2; omega, Nat.le_trans k4.size h1, h2⟩
  · exact ⟨(k3 k e).1, (k3 k e).2.1, Nat.lt_of_lt_of_le (k3 k e).2.2 hb.size⟩
/-- a store outside -/
theorem tbq_poke {w W : World} {g c b o : Nat} {room : Int} {l lr : IL} {q : List Nat} {rv v : Value} (h : TbQ w g room l c q rv lr W) (hb : b ∈ q) : TbQ w g room l c q rv lr (W.setCell ⟨b, o, none⟩ v) := by
  obtain ⟨U, h1, h2, h3, h4, h5⟩ := h
  exact ⟨U, tb_offI h1 (off_poke (S := fun k => k = b) ⟨b, o, none⟩ rfl v) (fun k hk e => (h3 b hb).1 (by rw [← e]; exact hk)), h2, fun k hk => ⟨(h3 k hk).1, (h3 k hk).2.1, by simpa using (h3 k hk).2.2⟩, h4.setCell (h3 b hb).2.1 v, holdsI_sub h5 (off_mask (S := fun k => U k ∨ k ∈ q) (off_poke ⟨b, o, none⟩ (.inr hb) v) (fun k e => .inl e))⟩
/-- another document's value -/
theorem tbq_rv {w W W' : World} {g c : Nat} {room : Int} {l lr lr' : IL} {q : List Nat} {rv rv' : Value} (h : TbQ w g room l c q rv lr W) (hb : Below W.heap.size W W') (hr : ∀ T : Nat → Prop, (∀ k, T k → k < W.heap.size) → HoldsI (mask T W) rv lr → HoldsI (mask T W') rv' lr') : TbQ w g room l c q rv' lr' W' := by
  obtain ⟨U, h1, h2, h3, h4, h5⟩ := h
  exact ⟨U, tb_belowI h1 hb, h2, fun k hk => ⟨(h3 k hk).1, (h3 k hk).2.1, Nat.lt_of_lt_of_le (h3 k hk).2.2 hb.size⟩, h4.trans (hb.mono h4.size), hr _ (fun k e => by rcases e with e | e; exact tb_ltI h1 k e; exact (h3 k e).2.2) h5⟩
theorem newQ (w W : World) (room : Int) (hb : Below w.heap.size w W) (q : List Nat) (hq : ∀ k ∈ q, w.heap.size ≤ k ∧ k < W.heap.size) : Calls Try.prog 9 #[.int .i64 room] W fun e W' => ∃ g, e = .returned (.pointer (some ⟨g, 0, none⟩)) ∧ TbQ w g (min (max room 0) 1073741824) [] 0 q (.slice none 0 0) [] W' ∧ Below W.heap.size W W' := by
  refine (newIC room W).mono ?_
  rintro e W' ⟨U, g, rfl, h1, h2, h3⟩
  exact ⟨g, rfl, ⟨U, h1, fun k hk => Nat.le_trans hb.size (h3 k hk), fun k hk => ⟨fun e => by have := h3 k e; have := (hq k hk).2; omega, (hq k hk).1, Nat.lt_of_lt_of_le (hq k hk).2 h2.size⟩, hb.trans (h2.mono hb.size), ⟨none, 0, rfl, fun _ => rfl, Nat.le_refl _, fun h => absurd rfl h⟩⟩, h2⟩
theorem offQ {w W W' : World} {U U' : Nat → Prop} {g c' : Nat} {room : Int} {l' lr : IL} {q : List Nat} {rv : Value} (h2 : ∀ k, U k → w.heap.size ≤ k) (h3 : ∀ k ∈ q, ¬ U k ∧ w.heap.size ≤ k ∧ k < W.heap.size) (h4 : Below w.heap.size w W) (h5 : HoldsI (mask (fun k => U k ∨ k ∈ q) W) rv lr)
    (k1 : TbI U' g room l' c' W') (k2 : Off U W W') (k3 : ∀ k, U' k → U k ∨ W.heap.size ≤ k) : TbQ w g room l' c' q rv lr W' ∧ KeepQ q W W' := by
  have hz := k2.size
  refine ⟨⟨U', k1, fun k hk => ?_, fun k hk => ⟨fun e => ?_, (h3 k hk).2.1, Nat.lt_of_lt_of_le (h3 k hk).2.2 hz⟩, h4.trans (k2.below h4.size h2), holdsI_sub h5 (off_mask (k2.mono (T := fun k => U k ∨ k ∈ q) (fun k e => .inl e)) (fun k e => by
    rcases e with e | e
    · rcases k3 k e with e | e
      · exact .inl (.inl e)
      · exact .inr e
    · exact .inl (.inr e)))⟩, fun b hb => k2.block b (h3 b hb).2.2 (h3 b hb).1⟩
  · rcases k3 k hk with e | e
    · exact h2 k e
    · exact Nat.le_trans h4.size e
  · rcases k3 k e with e | e
    · exact (h3 k hk).1 e
    · have := (h3 k hk).2.2; omega
theorem putQ {w W : World} {g c : Nat} {room : Int} {l lr : IL} {q : List Nat} {rv : Value} (h : TbQ w g room l c q rv lr W) (hc : c ≤ 100000) (x : ItI) (kb : ByteArray) (hk : x.key = kb.data.toList) (hs : kb.size ≤ 140737488351232) :
    Calls Try.prog 13 #[.pointer (some ⟨g, 0, none⟩), .string kb, .int .i64 x.v, .int .i64 x.size] W fun e W' => ∃ gv, e = .returned (.tuple #[gv, .bool (putOk room x.size)]) ∧ OwnT W.heap.size gv (putG room l x) W' ∧ TbQ w g room (putT room l x) (c + 1) (gv.ownBlock.toList ++ q) rv lr W' ∧ KeepQ q W W' ∧ W.heap.size ≤ W'.heap.size := by
  obtain ⟨U, h1, h2, h3, h4, h5⟩ := h
  refine (putIC h1 hc x kb hk hs).mono ?_
  rintro e W' ⟨gv, U', rfl, g1, k1, k2, _, k4, k5⟩
  obtain ⟨q1, q2⟩ := offQ h2 h3 h4 h5 k1 k2 k4
  refine ⟨gv, rfl, g1, ?_, q2, k2.size⟩
  refine ⟨U', k1, fun k hk => ?_, fun k hk => ?_, h4.trans (k2.below h4.size h2), holdsI_sub h5 (off_mask (k2.mono (T := fun k => U k ∨ k ∈ q) (fun k e => .inl e)) (fun k e => by
    rcases e with e | e
    · rcases k4 k e with e | e
      · exact .inl (.inl e)
      · exact .inr e
    · rcases List.mem_append.1 e with e | e
      · right
        exact (ownT_lt g1 k (by simpa using e)).1
      · exact .inl (.inr e)))⟩
  · rcases k4 k hk with e | e
    · exact h2 k e
    · exact Nat.le_trans h4.size e
  · rcases List.mem_append.1 hk with e | e
    · have e' : gv.ownBlock = some k := by simpa using e
      have := ownT_lt g1 k e'
      exact ⟨k5 k e', Nat.le_trans h4.size this.1, this.2⟩
    · refine ⟨fun e2 => ?_, (h3 k e).2.1, Nat.lt_of_lt_of_le (h3 k e).2.2 k2.size⟩
      rcases k4 k e2 with e3 | e3
      · exact (h3 k e).1 e3
      · have := (h3 k e).2.2; omega
/-- a row of texts that a call made lies outside -/
theorem tbq_row {w W W' : World} {g c : Nat} {room : Int} {l lr : IL} {q : List Nat} {rv kv : Value} {ss : List Nm} (h : TbQ w g room l c q rv lr W) (ho : OwnS W kv ss W') : TbQ w g room l c (kv.ownBlock.toList ++ q) rv lr W' := by
  cases e : kv.ownBlock with
  | none => exact tbq_below h ho.2
  | some k =>
    have := World.ownsRow.lt ho.1 k e
    exact tbq_new h ho.2 this.1 this.2
theorem ownT_keep {base : Nat} {W W' : World} {kv : Value} {ss : List Nm} {q : List Nat} (h : OwnT base kv ss W) (hk : KeepQ q W W') (hq : ∀ k, kv.ownBlock = some k → k ∈ q) : OwnT base kv ss W' := by
  obtain ⟨hl, h1 | ⟨g, cap, cur, rfl, hg, hh, hr⟩⟩ := h
  · exact ⟨hl, .inl h1⟩
  · exact ⟨hl, .inr ⟨g, cap, cur, rfl, hg, by rw [hk g (hq g rfl)]; exact hh, hr⟩⟩
theorem getQ {w W : World} {g c : Nat} {room : Int} {l lr : IL} {q : List Nat} {rv : Value} (h : TbQ w g room l c q rv lr W) (kb : ByteArray) (hs : kb.size ≤ 140737488351232) :
    Calls Try.prog 16 #[.pointer (some ⟨g, 0, none⟩), .string kb] W fun e W' => e = .returned (peekI l kb.data.toList) ∧ TbQ w g room (getT l kb.data.toList) c q rv lr W' ∧ KeepQ q W W' ∧ W.heap.size ≤ W'.heap.size := by
  obtain ⟨U, h1, h2, h3, h4, h5⟩ := h
  refine (getIC h1 kb hs).mono ?_
  rintro e W' ⟨rfl, k1, k2⟩
  obtain ⟨q1, q2⟩ := offQ h2 h3 h4 h5 k1 k2 (fun k e => .inl e)
  exact ⟨rfl, q1, q2, k2.size⟩
theorem dropQ {w W : World} {g c : Nat} {room : Int} {l lr : IL} {q : List Nat} {rv : Value} (h : TbQ w g room l c q rv lr W) (kb : ByteArray) (hs : kb.size ≤ 140737488351232) :
    Calls Try.prog 19 #[.pointer (some ⟨g, 0, none⟩), .string kb] W fun e W' => e = .returned (.bool (findT l kb.data.toList).isSome) ∧ TbQ w g room (withT l kb.data.toList) c q rv lr W' ∧ KeepQ q W W' ∧ W.heap.size ≤ W'.heap.size := by
  obtain ⟨U, h1, h2, h3, h4, h5⟩ := h
  refine (dropIC h1 kb hs).mono ?_
  rintro e W' ⟨rfl, k1, k2⟩
  obtain ⟨q1, q2⟩ := offQ h2 h3 h4 h5 k1 k2 (fun k e => .inl e)
  exact ⟨rfl, q1, q2, k2.size⟩
theorem peekQ {w W : World} {g c : Nat} {room : Int} {l lr : IL} {q : List Nat} {rv : Value} (h : TbQ w g room l c q rv lr W) (kb : ByteArray) (hs : kb.size ≤ 140737488351232) :
    Calls Try.prog 18 #[.pointer (some ⟨g, 0, none⟩), .string kb] W fun e W' => e = .returned (peekI l kb.data.toList) ∧ W' = W := by
  obtain ⟨U, h1, _⟩ := h
  exact peekIC h1 kb hs
theorem usedQ {w W : World} {g c : Nat} {room : Int} {l lr : IL} {q : List Nat} {rv : Value} (h : TbQ w g room l c q rv lr W) :
    Calls Try.prog 21 #[.pointer (some ⟨g, 0, none⟩)] W fun e W' => e = .returned (.int .i64 (usedT l)) ∧ W' = W := by
  obtain ⟨U, h1, _⟩ := h
  exact usedIC h1
theorem keysQ {w W : World} {g c : Nat} {room : Int} {l lr : IL} {q : List Nat} {rv : Value} (h : TbQ w g room l c q rv lr W) (hc : c ≤ 1000000) :
    Calls Try.prog 23 #[.pointer (some ⟨g, 0, none⟩)] W fun e W' => ∃ kv, e = .returned kv ∧ OwnS W kv (keysT l) W' := by
  obtain ⟨U, h1, _⟩ := h
  exact keysIC h1 hc
/-! the script's beginning -/
set_option maxHeartbeats 1000000 in
theorem cutC (v : Value) (os : KL) (w0 w : World) (h : HoldsK w0 v os) (hn : os.length ≤ 9000000000000000000) :
    Calls Try.prog 11 #[v] w fun e w' => ∃ v', e = .returned v' ∧ HoldsK w0 v' (os.take 300) ∧ w' = w := by
  have HH := hide' h
  obtain ⟨ao, cap, rfl, h0, hcp, hcx⟩ := h
  clear hcx
  by_cases hl : 300 < os.length
  · have HK := hide' (holdsK_take HH.out 300 (by omega))
    have q : decide ((300 : Int) < (os.length : Int)) = true := by rw [decide_eq_true_iff]; omega
    generalize os.length = n at *
    have HH2 := HH
    clear HH h0
    go_enter Try.func11, Try.ntmps11
    go_wp2_with fail
    go_ret
    exact ⟨_, rfl, HK.out, rfl⟩
  · have q : decide ((300 : Int) < (os.length : Int)) = false := by rw [decide_eq_false_iff_not]; omega
    have et : Hid (os.take 300 = os) := by unfold Hid; rw [List.take_of_length_le (by omega)]
    rw [et.out]
    generalize os.length = n at *
    clear h0
    go_enter Try.func11, Try.ntmps11
    go_wp2_with fail
    go_ret
    exact ⟨_, rfl, HH.out, rfl⟩
end Go.Proofs.Ytikkmnclcbanfaa
