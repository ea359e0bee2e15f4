/- A table in memory; takeOut, Drop, Peek, Used. -/
import Derived.Test.YtikkmnclcbanfaaLrAY
import Derived.Deep.RegionWith
namespace Go.Proofs.Ytikkmnclcbanfaa
open Go.RowKit Go.Maps Go.WideMaps
structure LrY (g m rb : Nat) (ns : List (Nat × It (Option Addr × Nat × Nat))) (nl : NL) (O N : Nat → Nat) (room : Int) (W : World) : Prop where
  blk : Blk g W [.int .i64 room, .int .i64 (usedT (ns.map (fun x => x.2))), .map (some m), .pointer (some ⟨rb, 0, none⟩)]
  rg : RgY rb ns O N W
  tbl : Tbn W m nl
  tab : ∀ k, atN nl k = (ns.find? (fun x => decide (x.2.key = k))).map (fun x => x.1)
  srt : SortedN nl
  gm : g ≠ m
  gn : g ∉ rb :: ns.map (fun x => x.1)
  mn : m ∉ rb :: ns.map (fun x => x.1)
  ok : TOk room (ns.map (fun x => x.2))
def LrSY (g m rb : Nat) (ns : List (Nat × It (Option Addr × Nat × Nat))) (k : Nat) : Prop := k = g ∨ k = m ∨ RingSY rb ns k
theorem lr_offY {g m rb : Nat} {ns : List (Nat × It (Option Addr × Nat × Nat))} {nl : NL} {O N : Nat → Nat} {room : Int} {W W' : World} {S : Nat → Prop} (h : LrY g m rb ns nl O N room W) (ho : Off S W W') (hn : ∀ k, LrSY g m rb ns k → ¬ S k) : LrY g m rb ns nl O N room W' :=
  ⟨blk_off h.blk ho (hn g (.inl rfl)), rg_offY h.rg ho (fun k hk => hn k (.inr (.inr hk))), tbn_off h.tbl ho (hn m (.inr (.inl rfl))), h.tab, h.srt, h.gm, h.gn, h.mn, h.ok⟩
theorem lr_belowY {g m rb : Nat} {ns : List (Nat × It (Option Addr × Nat × Nat))} {nl : NL} {O N : Nat → Nat} {room : Int} {W W' : World} (h : LrY g m rb ns nl O N room W) (hb : Below W.heap.size W W') : LrY g m rb ns nl O N room W' :=
  lr_offY (S := fun _ => False) h (off_of hb) (fun _ _ e => e)
theorem nodup_splitY {l1 l2 : List (Nat × It (Option Addr × Nat × Nat))} {x : Nat × It (Option Addr × Nat × Nat)} (h : (keysT ((l1 ++ x :: l2).map (fun x => x.2))).Nodup) : (∀ y ∈ l1 ++ l2, y.2.key ≠ x.2.key) := by
  intro y hy e
  simp only [keysT, List.map_append, List.map_cons] at h
  have h2 := List.nodup_append.1 h
  rcases List.mem_append.1 hy with h1 | h1
  · exact h2.2.2 y.2.key (List.mem_map.2 ⟨y.2, List.mem_map.2 ⟨y, h1, rfl⟩, rfl⟩) x.2.key (by simp) e
  · exact (List.nodup_cons.1 h2.2.1).1 (by rw [← e]; exact List.mem_map.2 ⟨y.2, List.mem_map.2 ⟨y, h1, rfl⟩, rfl⟩)
/-- the table of names without one -/
theorem tab_delY {l1 l2 : List (Nat × It (Option Addr × Nat × Nat))} {x : Nat × It (Option Addr × Nat × Nat)} {nl : NL} (hs : SortedN nl) (h : ∀ k, atN nl k = ((l1 ++ x :: l2).find? (fun x => decide (x.2.key = k))).map (fun x => x.1)) (ho : ∀ y ∈ l1 ++ l2, y.2.key ≠ x.2.key) : ∀ k, atN (delN nl x.2.key) k = ((l1 ++ l2).find? (fun x => decide (x.2.key = k))).map (fun x => x.1) := by
  intro k
  have hd := sorted_del hs x.2.key
  by_cases e : k = x.2.key
  · have h1 : atN (delN nl x.2.key) k = none := by
      cases h2 : atN (delN nl x.2.key) k with
      | none => rfl
      | some b => exact absurd e (mem_del.1 (at_some h2)).2
    have h3 : (l1 ++ l2).find? (fun x => decide (x.2.key = k)) = none := List.find?_eq_none.2 (fun y hy => by rw [e]; simpa using ho y hy)
    rw [h1, h3]; rfl
  · have h1 : atN (delN nl x.2.key) k = atN nl k := by
      cases h2 : atN nl k with
      | none =>
        cases h3 : atN (delN nl x.2.key) k with
        | none => rfl
        | some b => exact absurd rfl (at_none h2 _ (mem_del.1 (at_some h3)).1)
      | some b => exact at_mem hd (mem_del.2 ⟨at_some h2, e⟩)
    rw [h1, h k, List.find?_append, List.find?_append, List.find?_cons]
    have : decide (x.2.key = k) = false := by simpa using fun h => e h.symm
    rw [this]
set_option maxRecDepth 20000 in
set_option maxHeartbeats 4000000 in
theorem takeOutYC {g m rb : Nat} {l1 l2 : List (Nat × It (Option Addr × Nat × Nat))} {x : Nat × It (Option Addr × Nat × Nat)} {nl : NL} {O N : Nat → Nat} {room : Int} {W : World} (h : LrY g m rb (l1 ++ x :: l2) nl O N room W) :
    Calls Try.prog 47 #[.pointer (some ⟨g, 0, none⟩), .pointer (some ⟨x.1, 0, none⟩)] W fun e W' => e = .returned (.tuple #[]) ∧ ∃ nl' O' N', nl'.length ≤ nl.length ∧ LrY g m rb (l1 ++ l2) nl' O' N' room W' ∧ Off (LrSY g m rb (l1 ++ x :: l2)) W W' ∧ W'.cell? ⟨x.1, 0, none⟩ = some (S x.2.key) := by
  have hxm : x ∈ (rb, nilY) :: (l1 ++ x :: l2) := by simp
  have hxr : x.1 ∈ rb :: (l1 ++ x :: l2).map (fun x => x.1) := List.mem_cons_of_mem _ (List.mem_map.2 ⟨x, by simp, rfl⟩)
  have hgm := h.gm
  have hgx : g ≠ x.1 := fun e => h.gn (by rw [e]; exact hxr)
  have hmx : m ≠ x.1 := fun e => h.mn (by rw [e]; exact hxr)
  have bx := h.rg.all x hxm
  obtain ⟨c0, c2, _, _, _, _⟩ := cel_cellsY bx
  have b1 := (h.blk.1 1 (by simp)).1
  have b2 := (h.blk.1 2 (by simp)).1
  have f1 := (h.blk.1 1 (by simp)).2
  simp only [List.getElem_cons_succ, List.getElem_cons_zero] at b1 b2
  have hin : x.2 ∈ (l1 ++ x :: l2).map (fun x => x.2) := List.mem_map.2 ⟨x, by simp, rfl⟩
  have hkl := h.ok.len x.2 hin
  have hsp := h.ok.pos x.2 hin
  have hsub : ((l1 ++ l2).map (fun x => x.2)).Sublist ((l1 ++ x :: l2).map (fun x => x.2)) := (List.Sublist.append (List.Sublist.refl _) (List.sublist_cons_self _ _)).map _
  have hus : usedT ((l1 ++ x :: l2).map (fun x => x.2)) = usedT ((l1 ++ l2).map (fun x => x.2)) + x.2.size := by
    simp only [List.map_append, List.map_cons, used_app, used_cons]; omega
  have hu0 := used_pos (tok_sub h.ok hsub).pos
  have hu1 := h.ok.fit
  have hu2 := h.ok.rm
  rw [hus] at b1 hu1
  have HK := hide' (key_l hkl)
  have HT := hide' h.tbl
  have KEEP : Hid (∀ w1 i, W.grownBy w1 (some m) → i ≠ m → i < W.heap.size → w1.heap[i]? = W.heap[i]?) := fun w1 i hg hi hl => hg.block i hl (fun e => hi (Option.some.inj e))
  have gl := h.blk.2
  have xl := bx.2
  have CL : Hid (∀ W2, Off (fun k => k = g ∨ k = m) W W2 → Calls Try.prog 50 #[.pointer (some ⟨x.1, 0, none⟩)] W2 fun e W' => e = .returned (.tuple #[]) ∧ Hid (∃ O' N', RgY rb (l1 ++ l2) O' N' W' ∧ Off (RingSY rb (l1 ++ x :: l2)) W2 W' ∧ W'.cell? ⟨x.1, 0, none⟩ = some (S x.2.key))) := fun W2 ho => by
    refine (leaveYC (rg_offY h.rg ho (fun k hk e => ?_))).mono ?_
    · rcases e with e | e
      · exact h.gn (by rw [← e]; exact hk)
      · exact h.mn (by rw [← e]; exact hk)
    · rintro e W' ⟨rfl, O', N', h1, h2, o, n, h3, _⟩
      exact ⟨rfl, O', N', h1, h2, (cel_cellsY h3).1⟩
  have FIN : Hid (∀ w1 W3 O' N', Tbn w1 m (delN nl x.2.key) → W.grownBy w1 (some m) → RgY rb (l1 ++ l2) O' N' W3 → Off (RingSY rb (l1 ++ x :: l2)) (w1.setCell ⟨g, 1, none⟩ (.int .i64 (usedT ((l1 ++ l2).map (fun x => x.2))))) W3 → LrY g m rb (l1 ++ l2) (delN nl x.2.key) O' N' room W3 ∧ Off (LrSY g m rb (l1 ++ x :: l2)) W W3) := fun w1 W3 O' N' ht hg hr ho => by
    have o1 : Off (fun k => k = m) W w1 := off_grown hg (fun k e => (Option.some.inj e).symm)
    have o2 : Off (fun k => k = g) w1 (w1.setCell ⟨g, 1, none⟩ (.int .i64 (usedT ((l1 ++ l2).map (fun x => x.2))))) := off_poke (S := fun k => k = g) ⟨g, 1, none⟩ rfl _
    have hsr : ∀ k ∈ rb :: (l1 ++ l2).map (fun x => x.1), k ∈ rb :: (l1 ++ x :: l2).map (fun x => x.1) := fun k hk => by
      rcases List.mem_cons.1 hk with e | e
      · rw [e]; simp
      · obtain ⟨y, hy, e2⟩ := List.mem_map.1 e
        refine List.mem_cons_of_mem _ (List.mem_map.2 ⟨y, ?_, e2⟩)
        rcases List.mem_append.1 hy with e | e <;> simp [e]
    refine ⟨⟨?_, hr, ?_, tab_delY h.srt h.tab (nodup_splitY h.ok.once), sorted_del h.srt _, h.gm, fun e => h.gn (hsr g e), fun e => h.mn (hsr m e), tok_sub h.ok hsub⟩, ?_⟩
    · have k1 := blk_off h.blk o1 h.gm
      have k2 := cells_set k1 (j := 1) (by simp) (.int .i64 (usedT ((l1 ++ l2).map (fun x => x.2))))
      exact blk_off (by simpa using k2) ho h.gn
    · exact tbn_off (tbn_off ht o2 (fun e => h.gm e.symm)) ho h.mn
    · refine Off.trans (Off.trans (o1.mono (fun i e => .inr (.inl e))) (o2.mono (T := LrSY g m rb (l1 ++ x :: l2)) (fun i e => .inl e)) (fun i e => .inl e)) (ho.mono (T := LrSY g m rb (l1 ++ x :: l2)) (fun i e => .inr (.inr e))) (fun i e => .inl e)
  have HOF : Hid (∀ w1, W.grownBy w1 (some m) → Off (fun k => k = g ∨ k = m) W (w1.setCell ⟨g, 1, none⟩ (.int .i64 (usedT ((l1 ++ l2).map (fun x => x.2))))).drew) := fun w1 hg => by
    have o1 : Off (fun k => k = m) W w1 := off_grown hg (fun k e => (Option.some.inj e).symm)
    exact off_drew (Off.trans (o1.mono (T := fun k => k = g ∨ k = m) (fun i e => .inr e)) (off_poke (S := fun k => k = g ∨ k = m) ⟨g, 1, none⟩ (.inl rfl) _) (fun i e => .inl e))
  have hdl := delN_len nl x.2.key
  generalize usedT ((l1 ++ l2).map (fun x => x.2)) = u at *
  generalize x.2.size = sz at *
  generalize hxb : x.1 = xb at *
  have c0' : W.cell? ⟨xb, 0, none⟩ = some (.string ⟨x.2.key.toArray⟩) := c0
  generalize (⟨x.2.key.toArray⟩ : ByteArray) = kb at HK c0'
  obtain ⟨w1, hrun, t1, t2⟩ := (tbn_block (W' := W.drew) HT.out rfl).drop kStr Try.underlying83 HK.out 0
  have H1 := hide' (tbn_del t1)
  have H2 : Hid (W.grownBy w1 (some m)) := grown_drew t2.grown
  have dX : w1.heap[xb]? = W.heap[xb]? := KEEP.out w1 xb H2.out (fun e => hmx e.symm) xl
  have dG : w1.heap[g]? = W.heap[g]? := KEEP.out w1 g H2.out hgm gl
  have d1 : w1.cell? ⟨g, 1, none⟩ = some (.int .i64 (u + sz)) := by rw [World.cell?_of_block (w := W) (a := ⟨g, 1, none⟩) dG]; exact b1
  have d2 : w1.frozen? ⟨g, 1, none⟩ = false := by rw [World.frozen?_of_block (w := W) (a := ⟨g, 1, none⟩) dG]; exact f1
  have d3 : w1.cell? ⟨xb, 2, none⟩ = some (.int .i64 sz) := by rw [World.cell?_of_block (w := W) (a := ⟨xb, 2, none⟩) dX]; exact c2
  have hsub2 : u + sz - sz = u := by omega
  clear h hxm hxr bx hin hkl hsub hus c0 t1 t2 dX dG b1 f1 c2
  go_enter Try.func47, Try.ntmps47
  go_wp2_with fail
  go_region
  all_goals
    go_wp2_with fail
    go_region
    all_goals
      go_wp2_with fail
      refine (CL.out _ (HOF.out _ H2.out)).mono ?_
      rintro e W3 ⟨rfl, HX⟩
      go_wp2_with fail
      go_end0
      obtain ⟨O', N', q1, q2, q3⟩ := HX.out
      have q4 := FIN.out w1 W3 O' N' H1.out H2.out q1 ⟨q2.os, q2.tape, q2.output, q2.size, q2.block⟩
      exact ⟨rfl, _, O', N', hdl, q4.1, q4.2, q3⟩
end Go.Proofs.Ytikkmnclcbanfaa
