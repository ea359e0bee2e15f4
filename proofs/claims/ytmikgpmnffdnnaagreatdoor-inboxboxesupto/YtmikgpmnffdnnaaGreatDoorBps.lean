/- A box of pairs, told by blocks: Feed, ask, Next. -/
import Derived.Test.YtmikgpmnffdnnaaGreatDoorBpr
namespace Go.Proofs.YtmikgpmnffdnnaaGreatDoor
open Go.RowKit
/-- block g is a box of pairs; cv is its row -/
def BoxX (g : Nat) (cv : Value) (held : List UInt8) (er : Int) (W : World) : Prop :=
  Blk g W [(.func (.func 26) #[] #[]), cv, .int .i64 er] ∧ W.ownsRow (g + 1) 5 1 cv held.length (held.map B)
theorem boxX_box {g : Nat} {cv : Value} {held : List UInt8} {er : Int} {W : World} (h : BoxX g cv held er W) : BoxP g (g + 1) (.func (.func 26) #[] #[]) held er W := ⟨cv, h.1, h.2, Nat.lt_succ_self _, h.1.2⟩
theorem boxX_below {g : Nat} {cv : Value} {held : List UInt8} {er : Int} {W W' : World} (h : BoxX g cv held er W) (hb : Below W.heap.size W W') : BoxX g cv held er W' := ⟨cells_below h.1 hb, row_below h.2 hb⟩
theorem boxX_slice {g : Nat} {cv : Value} {held : List UInt8} {er : Int} {W : World} (h : BoxX g cv held er W) : ∃ ca cc, cv = .slice ca held.length cc := by
  rcases h.2.2 with ⟨rfl, hn⟩ | ⟨x, cap, cur, rfl, _⟩
  · exact ⟨none, 0, by rw [hn]⟩
  · exact ⟨_, _, rfl⟩
theorem row_Far {W W' : World} {base k n : Nat} {t : TypeId} {v : Value} {cs : List Value} {S : Nat → Prop} (h : W.ownsRow base t k v n cs) (hf : Far S W W') (hn : ∀ k, v.ownBlock = some k → ¬ S k) : W'.ownsRow base t k v n cs := by
  have hlt := World.ownsRow.lt h
  obtain ⟨hl, h1 | ⟨g, cap, cur, rfl, hb, hg, hr⟩⟩ := h
  · exact ⟨hl, .inl h1⟩
  · exact ⟨hl, .inr ⟨g, cap, cur, rfl, hb, by rw [hf.2.2.2.2 g (hlt g rfl).2 (hn g rfl)]; exact hg, hr⟩⟩
/-- a whole list of bytes, not empty, appended to a row: it stays where it was, or is a new one -/
theorem appRowX {ops : Array Oper} {rest : List Oper} {o : Oper} {a : Act} {Q : Exit → Act → World → Prop} {wr : World} (hgd : o.guard = none) (s z : Operand)
    (ho : o.op = .call { callee := .builtin .append, args := #[s, z], argTypes := #[22, 22] }) (base : Nat) (v : Value) (ps : List UInt8) (hs : a.eval s = v) (hown : wr.ownsRow base 5 1 v ps.length (ps.map B)) (hsz : base ≤ wr.heap.size)
    (u : Value) (qs : List UInt8) (hq : qs ≠ []) (hz : a.eval z = u) (hu : HoldsB wr u qs) (hlen : ps.length + qs.length ≤ 140737488355328)
    (h : ∀ v' w', w'.ownsRow base 5 1 v' (ps ++ qs).length ((ps ++ qs).map B) → Far (fun k => v.ownBlock = some k) wr w' → (v'.ownBlock = v.ownBlock ∨ ∀ k, v'.ownBlock = some k → wr.heap.size ≤ k) → wpList Tryz.prog ops Q rest (a.put o.dst v') w') : wpList Tryz.prog ops Q (o :: rest) a wr := by
  obtain ⟨i0, hi, hz0, hz1, hz2⟩ := info_parts Tryz.info5
  obtain ⟨ao, cap, rfl, h0, hcp, hc⟩ := hu
  obtain ⟨b, off, rfl, hlt, hcell⟩ := hc hq
  have hnews : ∀ j x, (qs.map B)[j]? = some x → wr.cell? ((⟨b, off, none⟩ : Addr).add j) = some x := by
    intro j x hj
    have e : (⟨b, off, none⟩ : Addr).add j = ⟨b, off + j, none⟩ := Go.WideShapes.add_plain _ _ _
    rw [e]
    obtain ⟨hj1, hj2⟩ := List.getElem?_eq_some_iff.1 hj
    rw [List.length_map] at hj1
    rw [hcell j hj1, ← hj2]
    simp
  have hone : ∀ u ∈ qs.map B, u.oneCell' = true := by intro u hu; obtain ⟨x, _, rfl⟩ := List.mem_map.1 hu; rfl
  have hown' := hown
  obtain ⟨hl, ⟨rfl, hn⟩ | ⟨g, c2, cur, rfl, hg, hh, hr⟩⟩ := hown
  · have hp : ps = [] := List.eq_nil_of_length_eq_zero hn
    subst hp
    refine wpList_append_grows wr hgd s z 22 ho 5 i0 (.int .u8 0) 1 1 Tryz.underlying22 hi hz0 hz1 hz2 rfl (by decide) none 0 0 [] hs (fun _ => ⟨rfl, rfl⟩) rfl (fun b e => by cases e) ⟨b, off, none⟩ qs.length cap (qs.map B) hz (by simp) hnews hone ?_ (by unfold maxLen; omega) (by omega) ?_
    · have : 0 < qs.length := List.length_pos_iff.2 hq
      omega
    · intro v' w' r1 r2
      refine h v' w' (row_base (by simpa using r1) hsz) ⟨r2.os, r2.tape, r2.output, r2.size, fun k hk _ => r2.block k hk (by simp)⟩ (.inr fun k e => (World.ownsRow.lt r1 k e).1)
  · by_cases hroom : ps.length + qs.length ≤ c2
    · refine wpList_append_fits wr hgd s z 22 ho base 5 i0 1 Tryz.underlying22 hi hz1 g ps.length c2 (ps.map B) hs hown' ⟨b, off, none⟩ qs.length cap (qs.map B) hz (by simp) hnews hone hroom ?_
      intro w' r1 r2
      refine h _ w' (by rw [List.map_append, List.length_append]; exact r1) ⟨r2.os, r2.tape, r2.output, r2.size, fun k hk hn => r2.block k hk (fun e => hn e.symm)⟩ (.inl rfl)
    · refine wpList_append_grows wr hgd s z 22 ho 5 i0 (.int .u8 0) 1 1 Tryz.underlying22 hi hz0 hz1 hz2 rfl (by decide) (some ⟨g, 0, none⟩) ps.length c2 (ps.map B) hs (fun e => by cases e) (by simp) ?_ ⟨b, off, none⟩ qs.length cap (qs.map B) hz (by simp) hnews hone (by omega) (by unfold maxLen; omega) (by omega) ?_
      · intro b' e j u hj
        cases e
        exact World.ownsRow.cells hown' rfl j u hj
      · intro v' w' r1 r2
        refine h v' w' (row_base (by rw [List.map_append, List.length_append]; exact r1) hsz) ⟨r2.os, r2.tape, r2.output, r2.size, fun k hk _ => r2.block k hk (by simp)⟩ (.inr fun k e => (World.ownsRow.lt r1 k e).1)
set_option maxRecDepth 20000 in
set_option maxHeartbeats 2000000 in
theorem feedX (g : Nat) (cv : Value) (held ps : List UInt8) (hps : ps ≠ []) (v : Value) (W : World) (P : BoxX g cv held 0 W) (hv : HoldsB W v ps) (hl : held.length + ps.length ≤ 140737488355328) :
    Calls Tryz.prog 28 #[.pointer (some ⟨g, 0, none⟩), v] W fun e W' => e = .returned (.tuple #[]) ∧ ∃ cv', BoxX g cv' (held ++ ps) 0 W' ∧ Far (fun k => k = g ∨ cv.ownBlock = some k) W W' ∧ (cv'.ownBlock = cv.ownBlock ∨ ∀ k, cv'.ownBlock = some k → W.heap.size ≤ k) := by
  obtain ⟨ca, cc, hcv⟩ := boxX_slice P
  subst hcv
  have BK := hide' P.1
  have RO := hide' P.2
  have HV := hide' hv
  have hgs : g + 1 ≤ W.heap.size := P.1.2
  have hrg := hide' (fun k e => (World.ownsRow.lt P.2 k e).1)
  obtain ⟨⟨c0, c1, c2⟩, ⟨f0, f1, f2⟩⟩ := cells_three P.1
  obtain ⟨ao, cap, rfl, _⟩ := hv
  clear P
  go_enter Tryz.func28, Tryz.ntmps28
  go_wp2_with (at_builtin; refine appRowX rfl (.tmp 13) (.tmp 14) rfl (g + 1) _ held rfl RO.out hgs _ ps hps rfl HV.out hl ?_; intro v2 w2 row2 far2 same2; have FR := hide' far2; have SM := hide' same2; have hb2 := far2.2.2.2.2 g (by omega) (fun e => by have := hrg.out g e; omega); have BK2 : Hid (Blk g w2 [(.func (.func 26) #[] #[]), .slice ca held.length cc, .int .i64 0]) := ⟨fun j hj => ⟨by rw [World.cell?_of_block (w := W) (a := ⟨g, j, none⟩) hb2]; exact (BK.out.1 j hj).1, by rw [World.frozen?_of_block (w := W) (a := ⟨g, j, none⟩) hb2]; exact (BK.out.1 j hj).2⟩, by have := far2.2.2.2.1; omega⟩; obtain ⟨⟨d0, d1, d2⟩, ⟨e0, e1, e2⟩⟩ := cells_three BK2.out; obtain ⟨va, vc, hv2⟩ := row_slice row2; rw [List.length_append] at hv2; subst hv2; have RW := hide' row2; clear row2 far2 same2 hb2 c0 c1 c2 f0 f1 f2)
  go_end0
  have q := cells_set BK2.out (j := 1) (by simp) (.slice va (held.length + ps.length) vc)
  refine ⟨rfl, _, ⟨q, row_poke RW.out (Nat.lt_succ_self g)⟩, ⟨FR.out.1, FR.out.2.1, FR.out.2.2.1, by simpa using FR.out.2.2.2.1, fun k hk hn => ?_⟩, SM.out⟩
  rw [Below.heap_setCell _ _ _ _ (fun e => hn (.inl e)), FR.out.2.2.2.2 k hk (fun e => hn (.inr e))]
set_option maxRecDepth 100000 in
set_option maxHeartbeats 4000000 in
theorem askI (g base : Nat) (held : List UInt8) (er : Int) (W : World) (P : BoxP g base (.func (.func 26) #[] #[]) held er W) (hl : held.length ≤ 1000000000) :
    Calls Tryz.prog 48 #[.pointer (some ⟨g, 0, none⟩)] W fun e W' => e = .returned (prV (prOf held)) ∧ Below W.heap.size W W' := by
  obtain ⟨ca, cc, bk, ro⟩ := box_slice P
  have BK0 := hide' bk
  have hH := hide' (row_holds ro)
  obtain ⟨⟨c0, c1, c2⟩, _⟩ := cells_three bk
  have C1 := hide' (fun W2 (h : Below W.heap.size W W2) => (bcloneC _ held W2 (holdsB_mono hH.out h) (by omega)).mono (R' := fun e w' => ∃ ua uc, e = .returned (.slice ua held.length uc) ∧ Hid (HoldsB w' (.slice ua held.length uc) held ∧ Below W.heap.size W w') ∧ w'.cell? ⟨g, 0, none⟩ = some (.func (.func 26) #[] #[]) ∧ w'.cell? ⟨g, 1, none⟩ = some (.slice ca held.length cc)) (by
    rintro e w' ⟨u, rfl, ho⟩
    obtain ⟨⟨k0, k1, _⟩, _⟩ := cells_three (cells_below BK0.out (bt' h ho.2))
    obtain ⟨ua, uc, hu, _⟩ := holdsB_own ho
    subst hu
    exact ⟨ua, uc, rfl, ⟨holdsB_own ho, bt' h ho.2⟩, k0, k1⟩))
  have C2 := hide' (fun W2 (u : Value) (h : HoldsB W2 u held ∧ Below W.heap.size W W2) => (pairC u held W2 h.1 hl).mono (R' := fun e w' => e = .returned (prV (prOf held)) ∧ Hid (Below W.heap.size W w') ∧ w'.cell? ⟨g, 0, none⟩ = some (.func (.func 26) #[] #[]) ∧ w'.cell? ⟨g, 1, none⟩ = some (.slice ca held.length cc)) (by
    rintro e w' ⟨rfl, b⟩
    obtain ⟨⟨k0, k1, _⟩, _⟩ := cells_three (cells_below BK0.out (bt' h.2 b))
    exact ⟨rfl, bt' h.2 b, k0, k1⟩))
  generalize prOf held = X at C2 ⊢
  obtain ⟨x1, x2, x3⟩ := X
  unfold prV at C2 ⊢
  simp only at C2 ⊢
  clear bk ro hH P
  go_enter_defers Tryz.func48, Tryz.ntmps48
  go_wp2_with fail
  go_region_held3 (fun w' => w'.cell? ⟨g, 0, none⟩ = some (.func (.func 26) #[] #[]) ∧ w'.cell? ⟨g, 1, none⟩ = some (.slice ca held.length cc)) (go_keep)
    (first
      | (go_at_call 47; refine (C1.out _ ?_).mono ?_; (first | exact (Below.refl _ _).drew | exact Below.refl _ _); rintro e w2 ⟨ua, uc, rfl, O2, k0, k1⟩)
      | (go_at_call 26; refine (C2.out _ _ O2.out).mono ?_; rintro e w3 ⟨rfl, B3, j0, j1⟩))
  go_wp2_with fail
  refine leaves_cons (f := 76) (args := #[]) (by simp) (by simp [go_sem]) ?_
  refine (idleI _).mono ?_
  rintro e u' w'' ⟨rfl, rfl, rfl⟩
  exact ⟨.tuple #[.int .i64 x1, .int .i64 (x2 : Int), .int .i64 x3], by simp [results, Tryz.results48, go_sem], rfl, B3.out⟩
set_option maxRecDepth 100000 in
set_option maxHeartbeats 4000000 in
theorem nextBadI (g : Nat) (cv : Value) (held : List UInt8) (er : Int) (he : er ≠ 0) (W : World) (P : BoxX g cv held er W) :
    Calls Tryz.prog 29 #[.pointer (some ⟨g, 0, none⟩)] W fun e W' => e = .returned (.tuple #[.int .i64 0, .bool false, .int .i64 er]) ∧ Below W.heap.size W W' := by
  obtain ⟨ca, cc, hcv⟩ := boxX_slice P
  subst hcv
  obtain ⟨⟨c0, c1, c2⟩, _⟩ := cells_three P.1
  have he' : (er == 0) = false := by simpa using he
  have he'' : (er != 0) = true := by simpa using he
  clear P
  go_enter Tryz.func29, Tryz.ntmps29
  go_wp2_with fail
  go_quiet (fail)
  go_wp2_with fail
  exact bodyPost_ret (v := .tuple #[.int .i64 0, .bool false, .int .i64 er]) (by simp [results, Tryz.results29, go_sem]) rfl ⟨rfl, below_drewN _ _⟩
set_option maxRecDepth 100000 in
set_option maxHeartbeats 4000000 in
theorem nextI (g : Nat) (cv : Value) (held : List UInt8) (W : World) (P : BoxX g cv held 0 W) (hl : held.length ≤ 1000000000) :
    Calls Tryz.prog 29 #[.pointer (some ⟨g, 0, none⟩)] W fun e W' => e = .returned (.tuple #[.int .i64 (prOf held).1, .bool (decide (0 < (prOf held).2.1)), .int .i64 (prOf held).2.2]) ∧ Far (fun k => k = g) W W' ∧ ∃ cv', BoxX g cv' (held.drop (prOf held).2.1) (prOf held).2.2 W' ∧ (cv' = cv ∨ ∀ k, cv'.ownBlock = some k → W.heap.size ≤ k) := by
  obtain ⟨ca, cc, hcv⟩ := boxX_slice P
  subst hcv
  have PB := hide' P
  have CA := hide' (askI g (g + 1) held 0 W (boxX_box P) hl)
  have CT := hide' (fun W' (h : BoxX g (.slice ca held.length cc) held 0 W') (hn : 2 ≤ held.length) => takeI g (g + 1) 26 held 0 2 W' (boxX_box h) hn (by omega))
  obtain ⟨f1, f2, f3, f4, _, _⟩ := pr_facts held
  obtain ⟨⟨c0, c1, c2⟩, _⟩ := cells_three P.1
  have hgl := P.1.2
  generalize prOf held = X at CA f1 f2 f3 f4 ⊢
  obtain ⟨x1, x2, x3⟩ := X
  unfold prV at CA
  simp only at CA f1 f2 f3 f4 ⊢
  clear P
  go_enter Tryz.func29, Tryz.ntmps29
  go_wp2_with fail
  refine CA.out.mono ?_
  rintro e w1 ⟨rfl, b1⟩
  have B1 := hide' b1
  have P1 := hide' (boxX_below PB.out b1)
  obtain ⟨⟨d0, d1, d2⟩, ⟨e0, e1, e2⟩⟩ := cells_three P1.out.1
  clear b1 c0 c1 c2 CA
  rcases f2 with h3 | h3
  · subst h3
    rcases f3 with h2 | h2
    · subst h2
      obtain rfl := f4 rfl
      go_wp2_with fail
      exact bodyPost_ret (v := .tuple #[.int .i64 0, .bool false, .int .i64 0]) (by simp [results, Tryz.results29, go_sem]) rfl ⟨by simp, ⟨B1.out.os, B1.out.tape, B1.out.output, B1.out.size, fun k hk _ => B1.out.block k hk⟩, _, by rw [List.drop_zero]; exact P1.out, .inl rfl⟩
    · subst h2
      have CT2 := hide' (CT.out w1 P1.out f1)
      go_wp2_with fail
      refine CT2.out.mono ?_
      rintro e w2 ⟨rfl, ⟨cv', k1, k2, k3, k4⟩, bb⟩
      have K1 := hide' k1
      have K2 := hide' k2
      have BBH := hide' bb
      clear k1 k2 k3 k4 bb d0 d1 d2 CT2
      go_wp2_with fail
      exact bodyPost_ret (v := .tuple #[.int .i64 x1, .bool true, .int .i64 0]) (by simp [results, Tryz.results29, go_sem]) rfl ⟨by simp, ⟨BBH.out.os.trans B1.out.os, BBH.out.tape.trans B1.out.tape, BBH.out.output.trans B1.out.output, Nat.le_trans B1.out.size BBH.out.size, fun k hk hn => by rw [BBH.out.block k (Nat.lt_of_lt_of_le hk B1.out.size) hn, B1.out.block k hk]⟩, cv', ⟨K1.out, row_base K2.out (by have := B1.out.size; omega)⟩, .inr fun k e => Nat.le_trans B1.out.size (World.ownsRow.lt K2.out k e).1⟩
  · simp only [Prod.mk.injEq] at h3
    obtain ⟨rfl, rfl, rfl⟩ := h3
    have q := hide' (cells_set P1.out.1 (j := 2) (by simp) (.int .i64 80))
    go_wp2_with fail
    exact bodyPost_ret (v := .tuple #[.int .i64 0, .bool false, .int .i64 80]) (by simp [results, Tryz.results29, go_sem]) rfl ⟨by simp, ⟨B1.out.os, B1.out.tape, B1.out.output, by simpa using B1.out.size, fun k hk hn => by rw [Below.heap_setCell _ _ _ _ hn, B1.out.block k hk]⟩, _, ⟨q.out, by rw [List.drop_zero]; exact row_poke P1.out.2 (Nat.lt_succ_self g)⟩, .inl rfl⟩
end Go.Proofs.YtmikgpmnffdnnaaGreatDoor
