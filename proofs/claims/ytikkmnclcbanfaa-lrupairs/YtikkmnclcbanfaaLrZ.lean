/- Two tables of other things beside the document's. -/
import Derived.Test.YtikkmnclcbanfaaLrFP
import Derived.Test.YtikkmnclcbanfaaLrFY
import Derived.Test.YtikkmnclcbanfaaLawLrNum
import Derived.Test.YtikkmnclcbanfaaHolB
import Derived.Lib.ConvBytes
import Derived.Laws.Strings3
namespace Go.Proofs.Ytikkmnclcbanfaa
open Go.RowKit Go.Maps Go.WideMaps
section plain
variable {α β : Type}
theorem used_map (f : It α → It β) (hz : ∀ x, (f x).size = x.size) (l : List (It α)) : usedT (l.map f) = usedT l := by
  unfold usedT; rw [List.map_map]; congr 1; exact List.map_congr_left (fun x _ => hz x)
theorem keys_map (f : It α → It β) (hk : ∀ x, (f x).key = x.key) (l : List (It α)) : keysT (l.map f) = keysT l := by
  unfold keysT; rw [List.map_map]; exact List.map_congr_left (fun x _ => hk x)
theorem with_map (f : It α → It β) (hk : ∀ x, (f x).key = x.key) (l : List (It α)) (k : Nm) : withT (l.map f) k = (withT l k).map f := by
  unfold withT
  rw [List.filter_map]
  congr 1
  apply List.filter_congr
  intro x _
  show decide ((f x).key ≠ k) = _
  rw [hk x]
theorem find_map (f : It α → It β) (hk : ∀ x, (f x).key = x.key) (l : List (It α)) (k : Nm) : findT (l.map f) k = (findT l k).map f := by
  unfold findT
  rw [List.find?_map]
  congr 2
  funext x
  show decide ((f x).key = k) = _
  rw [hk x]
theorem fitN_map (f : It α → It β) (hz : ∀ x, (f x).size = x.size) (l : List (It α)) (cap : Int) : ∀ m, fitN (l.map f) cap m = fitN l cap m := by
  intro m
  induction m with
  | zero => rfl
  | succ m ih => unfold fitN; rw [← List.map_take, used_map f hz, ih]
theorem put_map (f : It α → It β) (hk : ∀ x, (f x).key = x.key) (hz : ∀ x, (f x).size = x.size) (room : Int) (l : List (It α)) (x : It α) : putT room (l.map f) (f x) = (putT room l x).map f := by
  unfold putT fitT
  rw [hz x, hk x, with_map f hk, fitN_map f hz, List.length_map]
  split
  · rw [List.map_cons, List.map_take]
  · rfl
end plain
def fP (x : ItI) : It (Nm × Int) := ⟨x.key, (x.key, x.v), x.size⟩
def sk {α : Type} (x : It α) : It Unit := ⟨x.key, (), x.size⟩
theorem sk_put {α : Type} (room : Int) (l : List (It α)) (x : It α) : putT room (l.map sk) (sk x) = (putT room l x).map sk := put_map (sk (α := α)) (fun _ => rfl) (fun _ => rfl) room l x
theorem sk_with {α : Type} (l : List (It α)) (k : Nm) : withT (l.map sk) k = (withT l k).map sk := with_map (sk (α := α)) (fun _ => rfl) l k
theorem sk_find {α : Type} (l : List (It α)) (k : Nm) : findT (l.map sk) k = (findT l k).map sk := find_map (sk (α := α)) (fun _ => rfl) l k
theorem sk_keys {α : Type} (l : List (It α)) : keysT (l.map sk) = keysT l := keys_map (sk (α := α)) (fun _ => rfl) l
theorem sk_used {α : Type} (l : List (It α)) : usedT (l.map sk) = usedT l := used_map (sk (α := α)) (fun _ => rfl) l
theorem put_mem {α : Type} {room : Int} {l : List (It α)} {x y : It α} (h : y ∈ putT room l x) : y = x ∨ y ∈ l := by
  unfold putT at h
  split at h
  · rcases List.mem_cons.1 h with e | e
    · exact .inl e
    · exact .inr (with_mem.1 (List.mem_of_mem_take e)).1
  · exact .inr h
/-- the slice sv holds the bytes k -/
def HoldsY (M : World) (sv : Option Addr × Nat × Nat) (k : Nm) : Prop := sv.2.1 = k.length ∧ (k ≠ [] → ∃ b off, sv.1 = some ⟨b, off, none⟩ ∧ b < M.heap.size ∧ ∀ j (h : j < k.length), M.cell? ⟨b, off + j, none⟩ = some (B k[j]))
theorem holdsY_sub {M W : World} {sv : Option Addr × Nat × Nat} {k : Nm} (h : HoldsY M sv k) (hs : Sub M W) : HoldsY W sv k :=
  ⟨h.1, fun hne => by
    obtain ⟨b, off, e, hlt, hc⟩ := h.2 hne
    exact ⟨b, off, e, Nat.lt_of_lt_of_le hlt hs.size, fun j hj => hs.cell _ _ (hc j hj)⟩⟩
theorem conv_Y {w : World} {a : Option Addr} {n c : Nat} {k : Nm} (h : HoldsY w (a, n, c) k) : Sem.run Try.prog (convert 56 9 (.slice a n c)) w = .ok (.string ⟨k.toArray⟩) w := by
  obtain ⟨h1, h2⟩ := h
  simp only at h1 h2
  subst h1
  by_cases hz : k = []
  · subst hz
    cases a with
    | none =>
      rw [run_convert_bytes_string w 56 9 5 _ _ _ Try.underlying56 Try.underlying5 Try.underlying9]
      unfold Conv.bytesToString
      simp [Sem.run_pure]
      rfl
    | some a => exact run_convert_bytes_back w 56 9 5 a c [] Try.underlying56 Try.underlying5 Try.underlying9 (fun j hj => by simp at hj)
  · obtain ⟨b, off, rfl, hlt, hcell⟩ := h2 hz
    rw [run_convert_bytes_back w 56 9 5 ⟨b, off, none⟩ c k Try.underlying56 Try.underlying5 Try.underlying9 (fun j hj => by rw [Go.WideShapes.add_plain]; exact hcell j hj)]
theorem below_bytes (w : World) (s : ByteArray) : Below w.heap.size w (Lib.bytesWorld w 5 s) :=
  ⟨rfl, rfl, rfl, by rw [Lib.bytesWorld_size]; omega, fun k hk => Lib.bytesWorld_at_old w 5 s k hk⟩
theorem holdsY_new (w : World) (s : ByteArray) (k : Nm) (c : Nat) (hs : s = ⟨k.toArray⟩) {T : Nat → Prop} (hT : ¬ T w.heap.size) : HoldsY (mask T (Lib.bytesWorld w 5 s)) (some ⟨w.heap.size, 0, none⟩, s.size, c) k := by
  have hl : s.size = k.length := by rw [hs, size_l]
  refine ⟨hl, fun _ => ⟨w.heap.size, 0, rfl, by rw [mask_size, Lib.bytesWorld_size]; omega, fun j hj => ?_⟩⟩
  rw [mask_cell _ (a := ⟨w.heap.size, 0 + j, none⟩) hT, Nat.zero_add, Lib.bytesWorld_cell w 5 s j (by omega)]
  unfold B
  rw [hs]
  simp [hj]
theorem tb_moreP {U : Nat → Prop} {g c c' : Nat} {room : Int} {l : List (It (Nm × Int))} {W : World} (h : TbP U g room l c W) (hc : c ≤ c') : TbP U g room l c' W := by
  obtain ⟨m, rb, ns, nl, O, N, k1, k2, k3, k4, k5, k6⟩ := h
  exact ⟨m, rb, ns, nl, O, N, k1, k2, by omega, by omega, k5, k6⟩
theorem tb_moreY {U : Nat → Prop} {g c c' : Nat} {room : Int} {l : List (It (Option Addr × Nat × Nat))} {W : World} (h : TbY U g room l c W) (hc : c ≤ c') : TbY U g room l c' W := by
  obtain ⟨m, rb, ns, nl, O, N, k1, k2, k3, k4, k5, k6⟩ := h
  exact ⟨m, rb, ns, nl, O, N, k1, k2, by omega, by omega, k5, k6⟩
abbrev LP := List (It (Nm × Int))
abbrev LY := List (It (Option Addr × Nat × Nat))
/-- two tables since w, apart from each other, from the blocks of q, from the document's items and the texts' bytes -/
structure TbD2 (U1 U2 : Nat → Prop) (w : World) (g1 g2 : Nat) (room : Int) (lt : LP) (lu : LY) (c : Nat) (q : List Nat) (rv : Value) (lr : IL) (W : World) : Prop where
  t1 : TbP U1 g1 room lt c W
  t2 : TbY U2 g2 room lu c W
  since : ∀ k, U1 k ∨ U2 k → w.heap.size ≤ k
  apart : ∀ k, U1 k → ¬ U2 k
  out : ∀ k ∈ q, ¬ U1 k ∧ ¬ U2 k ∧ w.heap.size ≤ k ∧ k < W.heap.size
  bel : Below w.heap.size w W
  ref : HoldsI (mask (fun k => U1 k ∨ U2 k ∨ k ∈ q) W) rv lr
  txt : ∀ y ∈ lu, HoldsY (mask (fun k => U1 k ∨ U2 k ∨ k ∈ q) W) y.v y.key
def TbD (w : World) (g1 g2 : Nat) (room : Int) (lt : LP) (lu : LY) (c : Nat) (q : List Nat) (rv : Value) (lr : IL) (W : World) : Prop := ∃ U1 U2, TbD2 U1 U2 w g1 g2 room lt lu c q rv lr W
theorem tbd_below {w W W' : World} {g1 g2 c : Nat} {room : Int} {lt : LP} {lu : LY} {lr : IL} {q : List Nat} {rv : Value} (h : TbD w g1 g2 room lt lu c q rv lr W) (hb : Below W.heap.size W W') : TbD w g1 g2 room lt lu c q rv lr W' := by
  obtain ⟨U1, U2, h⟩ := h
  have hm : Sub (mask (fun k => U1 k ∨ U2 k ∨ k ∈ q) W) (mask (fun k => U1 k ∨ U2 k ∨ k ∈ q) W') := off_mask (off_of hb) (fun k e => .inl e)
  exact ⟨U1, U2, tb_belowP h.t1 hb, tb_belowY h.t2 hb, h.since, h.apart, fun k hk => ⟨(h.out k hk).1, (h.out k hk).2.1, (h.out k hk).2.2.1, Nat.lt_of_lt_of_le (h.out k hk).2.2.2 hb.size⟩, h.bel.trans (hb.mono h.bel.size), holdsI_sub h.ref hm, fun y hy => holdsY_sub (h.txt y hy) hm⟩
theorem tbd_new {w W W' : World} {g1 g2 c b : Nat} {room : Int} {lt : LP} {lu : LY} {lr : IL} {q : List Nat} {rv : Value} (h : TbD w g1 g2 room lt lu c q rv lr W) (hb : Below W.heap.size W W') (h1 : W.heap.size ≤ b) (h2 : b < W'.heap.size) : TbD w g1 g2 room lt lu c (b :: q) rv lr W' := by
  obtain ⟨U1, U2, h⟩ := h
  have hU1 := tb_ltP h.t1
  have hU2 := tb_ltY h.t2
  have hm : Sub (mask (fun k => U1 k ∨ U2 k ∨ k ∈ q) W) (mask (fun k => U1 k ∨ U2 k ∨ k ∈ b :: q) W') := off_mask (off_of hb) (fun k e => by
    rcases e with e | e | e
    · exact .inl (.inl e)
    · exact .inl (.inr (.inl e))
    · rcases List.mem_cons.1 e with e | e
      · right; omega
      · exact .inl (.inr (.inr e)))
  refine ⟨U1, U2, tb_belowP h.t1 hb, tb_belowY h.t2 hb, h.since, h.apart, fun k hk => ?_, h.bel.trans (hb.mono h.bel.size), holdsI_sub h.ref hm, fun y hy => holdsY_sub (h.txt y hy) hm⟩
  rcases List.mem_cons.1 hk with e | e
  · rw [e]
    exact ⟨fun e2 => by have := hU1 b e2; omega, fun e2 => by have := hU2 b e2; omega, Nat.le_trans h.bel.size h1, h2⟩
  · exact ⟨(h.out k e).1, (h.out k e).2.1, (h.out k e).2.2.1, Nat.lt_of_lt_of_le (h.out k e).2.2.2 hb.size⟩
theorem tbd_sub {w W : World} {g1 g2 c : Nat} {room : Int} {lt : LP} {lu : LY} {lr : IL} {q q' : List Nat} {rv : Value} (h : TbD w g1 g2 room lt lu c q rv lr W) (hq : ∀ k ∈ q', k ∈ q) : TbD w g1 g2 room lt lu c q' rv lr W := by
  obtain ⟨U1, U2, h⟩ := h
  have hm : Sub (mask (fun k => U1 k ∨ U2 k ∨ k ∈ q) W) (mask (fun k => U1 k ∨ U2 k ∨ k ∈ q') W) := mask_mono (fun k e => by
    rcases e with e | e | e
    · exact .inl e
    · exact .inr (.inl e)
    · exact .inr (.inr (hq k e)))
  exact ⟨U1, U2, h.t1, h.t2, h.since, h.apart, fun k hk => h.out k (hq k hk), h.bel, holdsI_sub h.ref hm, fun y hy => holdsY_sub (h.txt y hy) hm⟩
theorem tbd_poke {w W : World} {g1 g2 c b o : Nat} {room : Int} {lt : LP} {lu : LY} {lr : IL} {q : List Nat} {rv v : Value} (h : TbD w g1 g2 room lt lu c q rv lr W) (hb : b ∈ q) : TbD w g1 g2 room lt lu c q rv lr (W.setCell ⟨b, o, none⟩ v) := by
  obtain ⟨U1, U2, h⟩ := h
  obtain ⟨n1, n2, n3, n4⟩ := h.out b hb
  have po : Off (fun k => k = b) W (W.setCell ⟨b, o, none⟩ v) := off_poke (S := fun k => k = b) ⟨b, o, none⟩ rfl v
  have hm : Sub (mask (fun k => U1 k ∨ U2 k ∨ k ∈ q) W) (mask (fun k => U1 k ∨ U2 k ∨ k ∈ q) (W.setCell ⟨b, o, none⟩ v)) := off_mask (S := fun k => U1 k ∨ U2 k ∨ k ∈ q) (off_poke ⟨b, o, none⟩ (.inr (.inr hb)) v) (fun k e => .inl e)
  exact ⟨U1, U2, tb_offP h.t1 po (fun k hk e => n1 (by rw [← e]; exact hk)), tb_offY h.t2 po (fun k hk e => n2 (by rw [← e]; exact hk)), h.since, h.apart, fun k hk => ⟨(h.out k hk).1, (h.out k hk).2.1, (h.out k hk).2.2.1, by simpa using (h.out k hk).2.2.2⟩, h.bel.setCell n3 v, holdsI_sub h.ref hm, fun y hy => holdsY_sub (h.txt y hy) hm⟩
theorem tbd_rv {w W W' : World} {g1 g2 c : Nat} {room : Int} {lt : LP} {lu : LY} {lr lr' : IL} {q : List Nat} {rv rv' : Value} (h : TbD w g1 g2 room lt lu c q rv lr W) (hb : Below W.heap.size W W') (hr : ∀ T : Nat → Prop, (∀ k, T k → k < W.heap.size) → HoldsI (mask T W) rv lr → HoldsI (mask T W') rv' lr') : TbD w g1 g2 room lt lu c q rv' lr' W' := by
  obtain ⟨U1, U2, h⟩ := h
  have hm : Sub (mask (fun k => U1 k ∨ U2 k ∨ k ∈ q) W) (mask (fun k => U1 k ∨ U2 k ∨ k ∈ q) W') := off_mask (off_of hb) (fun k e => .inl e)
  refine ⟨U1, U2, tb_belowP h.t1 hb, tb_belowY h.t2 hb, h.since, h.apart, fun k hk => ⟨(h.out k hk).1, (h.out k hk).2.1, (h.out k hk).2.2.1, Nat.lt_of_lt_of_le (h.out k hk).2.2.2 hb.size⟩, h.bel.trans (hb.mono h.bel.size), hr _ (fun k e => ?_) h.ref, fun y hy => holdsY_sub (h.txt y hy) hm⟩
  rcases e with e | e | e
  · exact tb_ltP h.t1 k e
  · exact tb_ltY h.t2 k e
  · exact (h.out k e).2.2.2
theorem tbd_holds {w W : World} {g1 g2 c : Nat} {room : Int} {lt : LP} {lu : LY} {lr : IL} {q : List Nat} {rv : Value} (h : TbD w g1 g2 room lt lu c q rv lr W) : HoldsI W rv lr := by
  obtain ⟨U1, U2, h⟩ := h
  exact holdsI_sub h.ref (mask_sub _ W)
theorem tbd_txt {w W : World} {g1 g2 c : Nat} {room : Int} {lt : LP} {lu : LY} {lr : IL} {q : List Nat} {rv : Value} (h : TbD w g1 g2 room lt lu c q rv lr W) : ∀ y ∈ lu, HoldsY W y.v y.key := by
  obtain ⟨U1, U2, h⟩ := h
  exact fun y hy => holdsY_sub (h.txt y hy) (mask_sub _ W)
theorem tbd_bel {w W : World} {g1 g2 c : Nat} {room : Int} {lt : LP} {lu : LY} {lr : IL} {q : List Nat} {rv : Value} (h : TbD w g1 g2 room lt lu c q rv lr W) : Below w.heap.size w W := by
  obtain ⟨U1, U2, h⟩ := h
  exact h.bel
theorem tbd_ok {w W : World} {g1 g2 c : Nat} {room : Int} {lt : LP} {lu : LY} {lr : IL} {q : List Nat} {rv : Value} (h : TbD w g1 g2 room lt lu c q rv lr W) : TOk room lt ∧ TOk room lu ∧ lt.length ≤ c ∧ lu.length ≤ c := by
  obtain ⟨U1, U2, h⟩ := h
  refine ⟨tb_okP h.t1, tb_okY h.t2, ?_, ?_⟩
  · obtain ⟨m, rb, ns, nl, O, N, k1, k2, k3, k4, _⟩ := h.t1; exact k4
  · obtain ⟨m, rb, ns, nl, O, N, k1, k2, k3, k4, _⟩ := h.t2; exact k4
/-- the first table's work -/
theorem step1 {w W W' : World} {U1 U2 U1' : Nat → Prop} {g1 g2 c c' : Nat} {room : Int} {lt lt' : LP} {lu : LY} {lr : IL} {q : List Nat} {rv : Value} (h : TbD2 U1 U2 w g1 g2 room lt lu c q rv lr W) (k1 : TbP U1' g1 room lt' c' W') (hc : c ≤ c') (k2 : Off U1 W W') (k3 : ∀ k, U1' k → U1 k ∨ W.heap.size ≤ k) : TbD w g1 g2 room lt' lu c' q rv lr W' ∧ KeepQ q W W' := by
  have hU2 := tb_ltY h.t2
  have hm : Sub (mask (fun k => U1 k ∨ U2 k ∨ k ∈ q) W) (mask (fun k => U1' k ∨ U2 k ∨ k ∈ q) W') := off_mask (k2.mono (T := fun k => U1 k ∨ U2 k ∨ k ∈ q) (fun k e => .inl e)) (fun k e => by
    rcases e with e | e | e
    · rcases k3 k e with e | e
      · exact .inl (.inl e)
      · exact .inr e
    · exact .inl (.inr (.inl e))
    · exact .inl (.inr (.inr e)))
  refine ⟨⟨U1', U2, k1, tb_moreY (tb_offY h.t2 k2 (fun k hk e => h.apart k e hk)) hc, fun k e => ?_, fun k e e2 => ?_, fun k hk => ⟨fun e => ?_, (h.out k hk).2.1, (h.out k hk).2.2.1, Nat.lt_of_lt_of_le (h.out k hk).2.2.2 k2.size⟩, h.bel.trans (k2.below h.bel.size (fun k e => h.since k (.inl e))), holdsI_sub h.ref hm, fun y hy => holdsY_sub (h.txt y hy) hm⟩, fun b hb => k2.block b (h.out b hb).2.2.2 (h.out b hb).1⟩
  · rcases e with e | e
    · rcases k3 k e with e | e
      · exact h.since k (.inl e)
      · exact Nat.le_trans h.bel.size e
    · exact h.since k (.inr e)
  · rcases k3 k e with e | e
    · exact h.apart k e e2
    · have := hU2 k e2; omega
  · rcases k3 k e with e | e
    · exact (h.out k hk).1 e
    · have := (h.out k hk).2.2.2; omega
/-- the second table's work -/
theorem step2 {w W W' : World} {U1 U2 U2' : Nat → Prop} {g1 g2 c c' : Nat} {room : Int} {lt : LP} {lu lu' : LY} {lr : IL} {q : List Nat} {rv : Value} (h : TbD2 U1 U2 w g1 g2 room lt lu c q rv lr W) (k1 : TbY U2' g2 room lu' c' W') (hc : c ≤ c') (k2 : Off U2 W W') (k3 : ∀ k, U2' k → U2 k ∨ W.heap.size ≤ k) (ht : ∀ y ∈ lu', HoldsY (mask (fun k => U1 k ∨ U2 k ∨ k ∈ q) W) y.v y.key) : TbD w g1 g2 room lt lu' c' q rv lr W' ∧ KeepQ q W W' := by
  have hU1 := tb_ltP h.t1
  have hm : Sub (mask (fun k => U1 k ∨ U2 k ∨ k ∈ q) W) (mask (fun k => U1 k ∨ U2' k ∨ k ∈ q) W') := off_mask (k2.mono (T := fun k => U1 k ∨ U2 k ∨ k ∈ q) (fun k e => .inr (.inl e))) (fun k e => by
    rcases e with e | e | e
    · exact .inl (.inl e)
    · rcases k3 k e with e | e
      · exact .inl (.inr (.inl e))
      · exact .inr e
    · exact .inl (.inr (.inr e)))
  refine ⟨⟨U1, U2', tb_moreP (tb_offP h.t1 k2 (fun k hk e => h.apart k hk e)) hc, k1, fun k e => ?_, fun k e e2 => ?_, fun k hk => ⟨(h.out k hk).1, fun e => ?_, (h.out k hk).2.2.1, Nat.lt_of_lt_of_le (h.out k hk).2.2.2 k2.size⟩, h.bel.trans (k2.below h.bel.size (fun k e => h.since k (.inr e))), holdsI_sub h.ref hm, fun y hy => holdsY_sub (ht y hy) hm⟩, fun b hb => k2.block b (h.out b hb).2.2.2 (h.out b hb).2.1⟩
  · rcases e with e | e
    · exact h.since k (.inl e)
    · rcases k3 k e with e | e
      · exact h.since k (.inr e)
      · exact Nat.le_trans h.bel.size e
  · rcases k3 k e2 with e2 | e2
    · exact h.apart k e e2
    · have := hU1 k e; omega
  · rcases k3 k e with e | e
    · exact (h.out k hk).2.1 e
    · have := (h.out k hk).2.2.2; omega
theorem putD1 {w W : World} {g1 g2 c : Nat} {room : Int} {lt : LP} {lu : LY} {lr : IL} {q : List Nat} {rv : Value} (h : TbD w g1 g2 room lt lu c q rv lr W) (hc : c ≤ 100000) (x : It (Nm × Int)) (kb : ByteArray) (hk : x.key = kb.data.toList) (hs : kb.size ≤ 140737488351232) :
    Calls Try.prog 27 #[.pointer (some ⟨g1, 0, none⟩), .string kb, .agg #[.string ⟨x.v.1.toArray⟩, .int .i64 x.v.2], .int .i64 x.size] W fun e W' => ∃ gv, e = .returned gv ∧ TbD w g1 g2 room (putT room lt x) lu (c + 1) q rv lr W' ∧ KeepQ q W W' ∧ W.heap.size ≤ W'.heap.size := by
  obtain ⟨U1, U2, h⟩ := h
  refine (putPC h.t1 hc x kb hk hs).mono ?_
  rintro e W' ⟨gv, U', rfl, _, k1, k2, _, k4, _⟩
  obtain ⟨q1, q2⟩ := step1 h k1 (Nat.le_succ c) k2 k4
  exact ⟨_, rfl, q1, q2, k2.size⟩
theorem putD2 {w W : World} {g1 g2 c : Nat} {room : Int} {lt : LP} {lu : LY} {lr : IL} {q : List Nat} {rv : Value} (h : TbD w g1 g2 room lt lu c q rv lr W) (hc : c ≤ 100000) (key : Nm) (sz : Int) (kb : ByteArray) (hk : key = kb.data.toList) (hs : kb.size ≤ 140737488351232) :
    Calls Try.prog 28 #[.pointer (some ⟨g2, 0, none⟩), .string kb, .slice (some ⟨W.heap.size, 0, none⟩) kb.size (grownCap W kb.size 0 5), .int .i64 sz] (Lib.bytesWorld W 5 kb) fun e W' => ∃ gv lu', e = .returned gv ∧ TbD w g1 g2 room lt lu' (c + 1) q rv lr W' ∧ lu'.map sk = putT room (lu.map sk) ⟨key, (), sz⟩ ∧ KeepQ q W W' ∧ W.heap.size ≤ W'.heap.size := by
  have hbb := below_bytes W kb
  have hkb : kb = ⟨key.toArray⟩ := by rw [hk]
  obtain ⟨U1, U2, h0⟩ := h
  have hU1 := tb_ltP h0.t1
  have hU2 := tb_ltY h0.t2
  have hm : Sub (mask (fun k => U1 k ∨ U2 k ∨ k ∈ q) W) (mask (fun k => U1 k ∨ U2 k ∨ k ∈ q) (Lib.bytesWorld W 5 kb)) := off_mask (off_of hbb) (fun k e => .inl e)
  have h2 : TbD2 U1 U2 w g1 g2 room lt lu c q rv lr (Lib.bytesWorld W 5 kb) :=
    ⟨tb_belowP h0.t1 hbb, tb_belowY h0.t2 hbb, h0.since, h0.apart, fun k hk => ⟨(h0.out k hk).1, (h0.out k hk).2.1, (h0.out k hk).2.2.1, Nat.lt_of_lt_of_le (h0.out k hk).2.2.2 hbb.size⟩, h0.bel.trans (hbb.mono h0.bel.size), holdsI_sub h0.ref hm, fun y hy => holdsY_sub (h0.txt y hy) hm⟩
  refine (putYC h2.t2 hc ⟨key, (some ⟨W.heap.size, 0, none⟩, kb.size, grownCap W kb.size 0 5), sz⟩ kb hk hs).mono ?_
  rintro e W' ⟨gv, U', rfl, _, k1, k2, _, k4, _⟩
  obtain ⟨q1, q2⟩ := step2 h2 k1 (Nat.le_succ c) k2 k4 (fun y hy => by
    rcases put_mem hy with e | e
    · rw [e]
      exact holdsY_new W kb key _ hkb (fun e => by
        rcases e with e | e | e
        · have := hU1 _ e; omega
        · have := hU2 _ e; omega
        · have := (h0.out _ e).2.2.2; omega)
    · exact h2.txt y e)
  refine ⟨_, _, rfl, q1, ?_, fun b hb => (q2 b hb).trans (hbb.block b (h0.out b hb).2.2.2), Nat.le_trans hbb.size k2.size⟩
  exact (sk_put room lu ⟨key, (some ⟨W.heap.size, 0, none⟩, kb.size, grownCap W kb.size 0 5), sz⟩).symm
theorem dropD1 {w W : World} {g1 g2 c : Nat} {room : Int} {lt : LP} {lu : LY} {lr : IL} {q : List Nat} {rv : Value} (h : TbD w g1 g2 room lt lu c q rv lr W) (kb : ByteArray) (hs : kb.size ≤ 140737488351232) :
    Calls Try.prog 29 #[.pointer (some ⟨g1, 0, none⟩), .string kb] W fun e W' => ∃ b, e = .returned (.bool b) ∧ TbD w g1 g2 room (withT lt kb.data.toList) lu c q rv lr W' ∧ KeepQ q W W' ∧ W.heap.size ≤ W'.heap.size := by
  obtain ⟨U1, U2, h⟩ := h
  refine (dropPC h.t1 kb hs).mono ?_
  rintro e W' ⟨rfl, k1, k2⟩
  obtain ⟨q1, q2⟩ := step1 h k1 (Nat.le_refl c) k2 (fun k e => .inl e)
  exact ⟨_, rfl, q1, q2, k2.size⟩
theorem dropD2 {w W : World} {g1 g2 c : Nat} {room : Int} {lt : LP} {lu : LY} {lr : IL} {q : List Nat} {rv : Value} (h : TbD w g1 g2 room lt lu c q rv lr W) (kb : ByteArray) (hs : kb.size ≤ 140737488351232) :
    Calls Try.prog 30 #[.pointer (some ⟨g2, 0, none⟩), .string kb] W fun e W' => ∃ b, e = .returned (.bool b) ∧ TbD w g1 g2 room lt (withT lu kb.data.toList) c q rv lr W' ∧ KeepQ q W W' ∧ W.heap.size ≤ W'.heap.size := by
  obtain ⟨U1, U2, h⟩ := h
  refine (dropYC h.t2 kb hs).mono ?_
  rintro e W' ⟨rfl, k1, k2⟩
  obtain ⟨q1, q2⟩ := step2 h k1 (Nat.le_refl c) k2 (fun k e => .inl e) (fun y hy => h.txt y (with_mem.1 hy).1)
  exact ⟨_, rfl, q1, q2, k2.size⟩
theorem newD (w W W1 : World) (room : Int) {U1 : Nat → Prop} {g1 : Nat} (hb : Below w.heap.size w W) (h1 : TbP U1 g1 (min (max room 0) 1073741824) [] 0 W1) (h2 : Below W.heap.size W W1) (h3 : ∀ k, U1 k → W.heap.size ≤ k) :
    Calls Try.prog 26 #[.int .i64 room] W1 fun e W' => ∃ g2, e = .returned (.pointer (some ⟨g2, 0, none⟩)) ∧ TbD w g1 g2 (min (max room 0) 1073741824) [] [] 0 [] (.slice none 0 0) [] W' ∧ Below W1.heap.size W1 W' := by
  refine (newYC room W1).mono ?_
  rintro e W' ⟨U2, g2, rfl, k1, k2, k3⟩
  have hU1 := tb_ltP h1
  refine ⟨g2, rfl, ⟨U1, U2, tb_belowP h1 k2, k1, fun k e => ?_, fun k e e2 => by have := hU1 k e; have := k3 k e2; omega, fun k hk => (by cases hk), (hb.trans (h2.mono hb.size)).trans (k2.mono (Nat.le_trans hb.size h2.size)), ⟨none, 0, rfl, fun _ => rfl, Nat.le_refl _, fun h => absurd rfl h⟩, fun y hy => (by cases hy)⟩, k2⟩
  rcases e with e | e
  · exact Nat.le_trans hb.size (h3 k e)
  · exact Nat.le_trans (Nat.le_trans hb.size h2.size) (k3 k e)
theorem peekD1 {w W : World} {g1 g2 c : Nat} {room : Int} {lt : LP} {lu : LY} {lr : IL} {q : List Nat} {rv : Value} (h : TbD w g1 g2 room lt lu c q rv lr W) (kb : ByteArray) (hs : kb.size ≤ 140737488351232) :
    Calls Try.prog 31 #[.pointer (some ⟨g1, 0, none⟩), .string kb] W fun e W' => e = .returned (peekP lt kb.data.toList) ∧ Below W.heap.size W W' := by
  obtain ⟨U1, U2, h⟩ := h
  exact peekPC h.t1 kb hs
theorem peekD2 {w W : World} {g1 g2 c : Nat} {room : Int} {lt : LP} {lu : LY} {lr : IL} {q : List Nat} {rv : Value} (h : TbD w g1 g2 room lt lu c q rv lr W) (kb : ByteArray) (hs : kb.size ≤ 140737488351232) :
    Calls Try.prog 32 #[.pointer (some ⟨g2, 0, none⟩), .string kb] W fun e W' => e = .returned (peekY lu kb.data.toList) ∧ W' = W := by
  obtain ⟨U1, U2, h⟩ := h
  exact peekYC h.t2 kb hs
theorem keysD1 {w W : World} {g1 g2 c : Nat} {room : Int} {lt : LP} {lu : LY} {lr : IL} {q : List Nat} {rv : Value} (h : TbD w g1 g2 room lt lu c q rv lr W) (hc : c ≤ 1000000) :
    Calls Try.prog 33 #[.pointer (some ⟨g1, 0, none⟩)] W fun e W' => ∃ kv, e = .returned kv ∧ OwnS W kv (keysT lt) W' := by
  obtain ⟨U1, U2, h⟩ := h
  exact keysPC h.t1 hc
theorem keysD2 {w W : World} {g1 g2 c : Nat} {room : Int} {lt : LP} {lu : LY} {lr : IL} {q : List Nat} {rv : Value} (h : TbD w g1 g2 room lt lu c q rv lr W) (hc : c ≤ 1000000) :
    Calls Try.prog 34 #[.pointer (some ⟨g2, 0, none⟩)] W fun e W' => ∃ kv, e = .returned kv ∧ OwnS W kv (keysT lu) W' := by
  obtain ⟨U1, U2, h⟩ := h
  exact keysYC h.t2 hc
theorem usedD1 {w W : World} {g1 g2 c : Nat} {room : Int} {lt : LP} {lu : LY} {lr : IL} {q : List Nat} {rv : Value} (h : TbD w g1 g2 room lt lu c q rv lr W) :
    Calls Try.prog 35 #[.pointer (some ⟨g1, 0, none⟩)] W fun e W' => e = .returned (.int .i64 (usedT lt)) ∧ W' = W := by
  obtain ⟨U1, U2, h⟩ := h
  exact usedPC h.t1
theorem usedD2 {w W : World} {g1 g2 c : Nat} {room : Int} {lt : LP} {lu : LY} {lr : IL} {q : List Nat} {rv : Value} (h : TbD w g1 g2 room lt lu c q rv lr W) :
    Calls Try.prog 36 #[.pointer (some ⟨g2, 0, none⟩)] W fun e W' => e = .returned (.int .i64 (usedT lu)) ∧ W' = W := by
  obtain ⟨U1, U2, h⟩ := h
  exact usedYC h.t2
/-- the two tables hold what the document's does -/
structure Alike (lt : LP) (lu : LY) (lr : IL) : Prop where
  one : lt = lr.map fP
  two : lu.map sk = lr.map sk
theorem alike_put {lt : LP} {lu lu' : LY} {lr : IL} {room : Int} {p : ItI} (h : Alike lt lu lr) (hu : lu'.map sk = putT room (lu.map sk) ⟨p.key, (), p.size⟩) : Alike (putT room lt (fP p)) lu' (putT room lr p) :=
  ⟨by rw [h.one, put_map fP (fun _ => rfl) (fun _ => rfl)], by rw [hu, h.two]; exact sk_put room lr p⟩
theorem alike_with {lt : LP} {lu : LY} {lr : IL} (h : Alike lt lu lr) (k : Nm) : Alike (withT lt k) (withT lu k) (withT lr k) :=
  ⟨by rw [h.one, with_map fP (fun _ => rfl)], by rw [← sk_with, ← sk_with, h.two]⟩
theorem alike_none {lt : LP} {lu : LY} {lr : IL} (h : Alike lt lu lr) {k : Nm} (hf : findT lr k = none) : peekP lt k = .tuple #[.agg #[.string ⟨#[]⟩, .int .i64 0], .bool false] ∧ peekY lu k = .tuple #[.slice none 0 0, .bool false] := by
  have h1 : findT lt k = none := by rw [h.one, find_map fP (fun _ => rfl), hf]; rfl
  have h2 : findT lu k = none := by
    have e := sk_find lu k
    rw [h.two, sk_find, hf] at e
    cases e2 : findT lu k with
    | none => rfl
    | some y => rw [e2] at e; cases e
  unfold peekP peekY
  rw [h1, h2]
  exact ⟨rfl, rfl⟩
theorem alike_some {lt : LP} {lu : LY} {lr : IL} (h : Alike lt lu lr) {k : Nm} {x : ItI} (hf : findT lr k = some x) : peekP lt k = .tuple #[.agg #[.string ⟨k.toArray⟩, .int .i64 x.v], .bool true] ∧ ∃ y ∈ lu, y.key = k ∧ peekY lu k = .tuple #[.slice y.v.1 y.v.2.1 y.v.2.2, .bool true] := by
  have hx := find_some hf
  have h1 : findT lt k = some (fP x) := by rw [h.one, find_map fP (fun _ => rfl), hf]; rfl
  have e := sk_find lu k
  rw [h.two, sk_find, hf] at e
  cases e2 : findT lu k with
  | none => rw [e2] at e; cases e
  | some y =>
    have hy := find_some e2
    refine ⟨?_, y, hy.1, hy.2, ?_⟩
    · unfold peekP; rw [h1]; show Value.tuple #[.agg #[S x.key, .int .i64 x.v], .bool true] = _; rw [hx.2]; rfl
    · unfold peekY; rw [e2]; rfl
end Go.Proofs.Ytikkmnclcbanfaa
