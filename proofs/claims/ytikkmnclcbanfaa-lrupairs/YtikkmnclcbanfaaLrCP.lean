/- A table's Drop, Peek, Used, makeRoom. -/
import Derived.Test.YtikkmnclcbanfaaLrBP
import Derived.BigQuiet
namespace Go.Proofs.Ytikkmnclcbanfaa
open Go.RowKit Go.Maps Go.WideMaps
/-- a table at block g that owns the blocks of S -/
def TbP (S : Nat → Prop) (g : Nat) (room : Int) (l : List (It (Nm × Int))) (c : Nat) (W : World) : Prop :=
  ∃ m rb ns nl O N, LrP g m rb ns nl O N room W ∧ l = ns.map (fun x => x.2) ∧ nl.length ≤ c ∧ l.length ≤ c ∧ (∀ k, LrSP g m rb ns k → S k) ∧ (∀ k, S k → k < W.heap.size)
theorem tb_offP {S T : Nat → Prop} {g c : Nat} {room : Int} {l : List (It (Nm × Int))} {W W' : World} (h : TbP S g room l c W) (ho : Off T W W') (hn : ∀ k, S k → ¬ T k) : TbP S g room l c W' := by
  obtain ⟨m, rb, ns, nl, O, N, h1, h2, h3, h4, h5, h6⟩ := h
  exact ⟨m, rb, ns, nl, O, N, lr_offP h1 ho (fun k hk => hn k (h5 k hk)), h2, h3, h4, h5, fun k hk => Nat.lt_of_lt_of_le (h6 k hk) ho.size⟩
theorem tb_belowP {S : Nat → Prop} {g c : Nat} {room : Int} {l : List (It (Nm × Int))} {W W' : World} (h : TbP S g room l c W) (hb : Below W.heap.size W W') : TbP S g room l c W' :=
  tb_offP (T := fun _ => False) h (off_of hb) (fun _ _ e => e)
theorem tb_okP {S : Nat → Prop} {g c : Nat} {room : Int} {l : List (It (Nm × Int))} {W : World} (h : TbP S g room l c W) : TOk room l := by
  obtain ⟨m, rb, ns, nl, O, N, h1, h2, _⟩ := h
  rw [h2]; exact h1.ok
theorem tb_ltP {S : Nat → Prop} {g c : Nat} {room : Int} {l : List (It (Nm × Int))} {W : World} (h : TbP S g room l c W) : ∀ k, S k → k < W.heap.size := by
  obtain ⟨m, rb, ns, nl, O, N, _, _, _, _, _, h6⟩ := h
  exact h6
theorem zeroPP (w : World) : (zeroValue 74).run Try.prog w = .ok (.pointer none) w := by kernel_rfl
theorem look_someP {W : World} {m : Nat} {l : NL} (h : Tbn W m l) {s : ByteArray} (hs : s.size ≤ 140737488351232) {k : Nat} (ha : atN l s.data.toList = some k) :
    (Instr.lookup 77 (.map (some m)) (.string s) true).run Try.prog W = .ok (.tuple #[.pointer (some ⟨k, 0, none⟩), .bool true]) W := by
  obtain ⟨v, ps, h1, h2⟩ := World.ownsMap.look_ok h kStr Try.underlying77 (zeroPP W) pel_nil (key_str hs)
  rw [dOf_some ha] at h2
  rw [dOf_has, ha] at h1
  rw [h1, pel_lit h2]
  rfl
theorem look_noneP {W : World} {m : Nat} {l : NL} (h : Tbn W m l) {s : ByteArray} (hs : s.size ≤ 140737488351232) (ha : atN l s.data.toList = none) :
    (Instr.lookup 77 (.map (some m)) (.string s) true).run Try.prog W = .ok (.tuple #[.pointer none, .bool false]) W := by
  obtain ⟨v, ps, h1, h2⟩ := World.ownsMap.look_ok h kStr Try.underlying77 (zeroPP W) pel_nil (key_str hs)
  rw [dOf_none ha] at h2
  rw [dOf_has, ha] at h1
  rcases pel_inv h2 with ⟨e, _⟩ | ⟨c, _, e⟩
  · rw [h1, e]; rfl
  · simp at e
theorem find_nsP (ns : List (Nat × It (Nm × Int))) (k : Nm) : findT (ns.map (fun x => x.2)) k = (ns.find? (fun x => decide (x.2.key = k))).map (fun x => x.2) := by
  unfold findT; rw [List.find?_map]; rfl
/-- where a key's node stands -/
theorem find_splitP {g m rb : Nat} {ns : List (Nat × It (Nm × Int))} {nl : NL} {O N : Nat → Nat} {room : Int} {W : World} (h : LrP g m rb ns nl O N room W) (k : Nm) :
    (atN nl k = none ∧ findT (ns.map (fun x => x.2)) k = none ∧ withT (ns.map (fun x => x.2)) k = ns.map (fun x => x.2)) ∨
    ∃ l1 x l2, ns = l1 ++ x :: l2 ∧ x.2.key = k ∧ atN nl k = some x.1 ∧ findT (ns.map (fun x => x.2)) k = some x.2 ∧ withT (ns.map (fun x => x.2)) k = (l1 ++ l2).map (fun x => x.2) := by
  have ht := h.tab k
  have hf := find_nsP ns k
  cases e : ns.find? (fun x => decide (x.2.key = k)) with
  | none =>
    rw [e] at ht hf
    exact .inl ⟨ht, hf, with_id (find_none hf)⟩
  | some x =>
    rw [e] at ht hf
    right
    obtain ⟨l1, l2, e2⟩ := List.append_of_mem (List.mem_of_find?_eq_some e)
    have hk : x.2.key = k := by simpa using List.find?_some e
    refine ⟨l1, x, l2, e2, hk, ht, hf, ?_⟩
    subst e2
    have hd := nodup_splitP h.ok.once
    have f1 : ∀ l : List (Nat × It (Nm × Int)), (∀ y ∈ l, y.2.key ≠ x.2.key) → withT (l.map (fun x => x.2)) k = l.map (fun x => x.2) := fun l hl => with_id (fun hm => by
      obtain ⟨y, hy, e3⟩ := List.mem_map.1 hm
      obtain ⟨z, hz, e4⟩ := List.mem_map.1 hy
      exact hl z hz (by rw [e4, e3, hk]))
    have f2 : ∀ a b : List (It (Nm × Int)), withT (a ++ b) k = withT a k ++ withT b k := fun a b => List.filter_append _ _
    have f3 : withT (x.2 :: l2.map (fun x => x.2)) k = withT (l2.map (fun x => x.2)) k := by
      unfold withT; rw [List.filter_cons]; simp [hk]
    rw [List.map_append, List.map_cons, f2, f3, f1 l1 (fun y hy => hd y (by simp [hy])), f1 l2 (fun y hy => hd y (by simp [hy])), List.map_append]
theorem lr_cellsP {g m rb : Nat} {ns : List (Nat × It (Nm × Int))} {nl : NL} {O N : Nat → Nat} {room : Int} {W : World} (h : LrP g m rb ns nl O N room W) : W.cell? ⟨g, 0, none⟩ = some (.int .i64 room) ∧ W.cell? ⟨g, 1, none⟩ = some (.int .i64 (usedT (ns.map (fun x => x.2)))) ∧ W.cell? ⟨g, 2, none⟩ = some (.map (some m)) ∧ W.cell? ⟨g, 3, none⟩ = some (.pointer (some ⟨rb, 0, none⟩)) ∧ W.frozen? ⟨g, 1, none⟩ = false :=
  ⟨(h.blk.1 0 (by simp)).1, (h.blk.1 1 (by simp)).1, (h.blk.1 2 (by simp)).1, (h.blk.1 3 (by simp)).1, (h.blk.1 1 (by simp)).2⟩
theorem lr_subP {g m rb : Nat} {ns ns' : List (Nat × It (Nm × Int))} (hs : ∀ y ∈ ns', y ∈ ns) {k : Nat} (h : LrSP g m rb ns' k) : LrSP g m rb ns k := by
  rcases h with e | e | e
  · exact .inl e
  · exact .inr (.inl e)
  · refine .inr (.inr ?_)
    rcases List.mem_cons.1 e with e | e
    · rw [e]; exact List.mem_cons_self
    · obtain ⟨y, hy, e2⟩ := List.mem_map.1 e
      exact List.mem_cons_of_mem _ (List.mem_map.2 ⟨y, hs y hy, e2⟩)
set_option maxHeartbeats 1000000 in
theorem dropPC {S : Nat → Prop} {g c : Nat} {room : Int} {l : List (It (Nm × Int))} {W : World} (h : TbP S g room l c W) (kb : ByteArray) (hs : kb.size ≤ 140737488351232) :
    Calls Try.prog 29 #[.pointer (some ⟨g, 0, none⟩), .string kb] W fun e W' => e = .returned (.bool (findT l kb.data.toList).isSome) ∧ TbP S g room (withT l kb.data.toList) c W' ∧ Off S W W' := by
  obtain ⟨m, rb, ns, nl, O, N, h1, h2, h3, h4, h5, h6⟩ := h
  obtain ⟨c0, c1, c2, c3, f1⟩ := lr_cellsP h1
  subst h2
  rcases find_splitP h1 kb.data.toList with ⟨a1, a2, a3⟩ | ⟨l1, x, l2, e1, ek, a1, a2, a3⟩
  · have hlk := look_noneP h1.tbl hs a1
    rw [a2, a3]
    have H : Hid (TbP S g room (ns.map (fun x => x.2)) c W) := ⟨m, rb, ns, nl, O, N, h1, rfl, h3, h4, h5, h6⟩
    clear h1 h3 h4 h5 h6 a1 a2 a3 c0 c1 c3 f1
    go_enter Try.func29, Try.ntmps29
    go_wp2_with fail
    go_ret
    exact ⟨rfl, H.out, Off.refl _ _⟩
  · have hlk := look_someP h1.tbl hs a1
    rw [a2, a3]
    subst e1
    have CT := hide' (takeOutPC h1)
    have FIN : Hid (∀ W' nl' O' N', nl'.length ≤ nl.length → LrP g m rb (l1 ++ l2) nl' O' N' room W' → Off (LrSP g m rb (l1 ++ x :: l2)) W W' → TbP S g room ((l1 ++ l2).map (fun x => x.2)) c W' ∧ Off S W W') := fun W' nl' O' N' q1 q2 q3 =>
      ⟨⟨m, rb, l1 ++ l2, nl', O', N', q2, rfl, by omega, by simp at h4 ⊢; omega, fun k hk => h5 k (lr_subP (fun y hy => by rcases List.mem_append.1 hy with e | e <;> simp [e]) hk), fun k hk => Nat.lt_of_lt_of_le (h6 k hk) q3.size⟩, q3.mono h5⟩
    clear h1 h3 h4 h5 h6 a1 a2 a3 c0 c1 c3 f1
    go_enter Try.func29, Try.ntmps29
    go_wp2_with (go_at_call 46; refine CT.out.mono ?_; rintro e W' ⟨rfl, h9⟩; have H9 := hide' h9; clear h9)
    go_ret
    obtain ⟨nl', O', N', q1, q2, q3, q4⟩ := H9.out
    exact ⟨rfl, FIN.out _ _ _ _ q1 q2 q3⟩
set_option maxHeartbeats 1000000 in
theorem usedPC {S : Nat → Prop} {g c : Nat} {room : Int} {l : List (It (Nm × Int))} {W : World} (h : TbP S g room l c W) :
    Calls Try.prog 35 #[.pointer (some ⟨g, 0, none⟩)] W fun e W' => e = .returned (.int .i64 (usedT l)) ∧ W' = W := by
  obtain ⟨m, rb, ns, nl, O, N, h1, h2, h3, h4, h5, h6⟩ := h
  obtain ⟨c0, c1, c2, c3, f1⟩ := lr_cellsP h1
  subst h2
  clear h1 h3 h4 h5 h6 c0 c2 c3 f1
  go_enter Try.func35, Try.ntmps35
  go_wp2_with fail
  go_ret
  exact ⟨rfl, rfl⟩
end Go.Proofs.Ytikkmnclcbanfaa
