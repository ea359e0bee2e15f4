/- The contract of the document's Open. -/
import Derived.Test.YtijnjgnckipghaaGreatSwDc
import Derived.Test.YtijnjgnckipghaaGreatBw15
import Derived.Test.YtijnjgnckipghaaGreatBdG
import Derived.Lib.Strings
namespace Go.Proofs.YtijnjgnckipghaaGreat
open Go.RowKit Go.Shelf
theorem list_once {s : Dk} (h : Wf s) {i j : Nat} (hij : i < j) (hj : j < s.list.length) (hi : s.list[i]'(by omega) = nwN) : s.list[j] ≠ nwN := by
  intro e
  have key : ∀ (l : List Nm), l.Pairwise (fun a b => lessN a b = true) → ∀ (i j : Nat) (hij : i < j) (hj : j < l.length), l[i]'(by omega) = nwN → l[j] = nwN → False := by
    intro l hp i j hij hj e1 e2
    have := List.pairwise_iff_getElem.1 hp i j (by omega) hj hij
    rw [e1, e2] at this
    exact absurd this (by decide)
  have hp : s.list.Pairwise (fun a b => lessN a b = true) := by
    unfold Dk.list
    split
    · exact List.Pairwise.nil
    · exact List.Pairwise.map _ (fun a b h => h) h.now.1
  exact key s.list hp i j hij hj hi e
/-- the names up to j were looked at -/
def RemI (t s : Dk) (j : Nat) : Prop := (s = t ∧ ∀ i, i < j → ∀ h : i < t.list.length, t.list[i] ≠ nwN) ∨ (s = (t.step ⟨6, nwN, [], []⟩).1 ∧ (t.step ⟨6, nwN, [], []⟩).2 = 0 ∧ ∃ i, i < j ∧ ∃ h : i < t.list.length, t.list[i] = nwN)
theorem remI_end {t s : Dk} {j : Nat} (h : RemI t s j) (hj : j = t.list.length) : remU (t, 0) = ((s, 0), 0) := by
  unfold remU
  rcases h with ⟨rfl, h⟩ | ⟨rfl, h2, i, _, hi, e⟩
  · rw [if_neg (fun hm => by
      obtain ⟨i, hi, e⟩ := List.mem_iff_getElem.1 hm
      have hi' : i < s.list.length := hi
      exact h i (by omega) hi' e)]
  · rw [if_pos (by rw [← e]; exact List.getElem_mem hi)]
    unfold opT
    dsimp only
    rw [h2]
theorem remI_bad {t s : Dk} {j : Nat} (h : RemI t s j) (hw : Wf t) (hj : j < t.list.length) (e : t.list[j] = nwN) : s = t ∧ remU (t, 0) = (((t.step ⟨6, nwN, [], []⟩).1, 0), (t.step ⟨6, nwN, [], []⟩).2) := by
  rcases h with ⟨rfl, h⟩ | ⟨rfl, h2, i, h3, hi, e2⟩
  · refine ⟨rfl, ?_⟩
    unfold remU
    rw [if_pos (by rw [← e]; exact List.getElem_mem hj)]
    rfl
  · exact absurd e (list_once hw h3 hj e2)
theorem remI_ok {t : Dk} {j : Nat} (hj : j < t.list.length) (e : t.list[j] = nwN) (h0 : (t.step ⟨6, nwN, [], []⟩).2 = 0) : RemI t (t.step ⟨6, nwN, [], []⟩).1 (j + 1) := .inr ⟨rfl, h0, j, by omega, hj, e⟩
theorem remI_no {t s : Dk} {j : Nat} (h : RemI t s j) (hj : j < t.list.length) (e : t.list[j] ≠ nwN) : RemI t s (j + 1) := by
  rcases h with ⟨h1, h2⟩ | ⟨h1, h2, i, h3, h4⟩
  · refine .inl ⟨h1, fun i hi hl => ?_⟩
    by_cases he : i = j
    · subst he; exact e
    · exact h2 i (by omega) hl
  · exact .inr ⟨h1, h2, i, by omega, h4⟩
theorem remI_fails {t s : Dk} {j : Nat} (h : RemI t s j) : s.fails = t.fails := by
  rcases h with ⟨rfl, _⟩ | ⟨rfl, _⟩
  · rfl
  · exact step_fails _ _
/-- the document's Open of a disk -/
noncomputable def refOpen (t : Dk) : LSt × RL × Int := if (remU (t, 0)).2 = 0 then refRd (remU (t, 0)).1.1 else (((remU (t, 0)).1.1, 0), [], (remU (t, 0)).2)
theorem refOpen_bad {t s : Dk} {er : Int} (h : remU (t, 0) = ((s, 0), er)) (he : er ≠ 0) : refOpen t = ((s, 0), [], er) := by
  unfold refOpen
  rw [h, if_neg he]
theorem refOpen_ok {t s : Dk} (h : remU (t, 0) = ((s, 0), 0)) : refOpen t = refRd s := by
  unfold refOpen
  rw [h, if_pos rfl]
theorem ownS_baseX {w w1 w2 : World} {v : Value} {ss : List (List UInt8)} (h : OwnS w1 v ss w2) (hb : Below w.heap.size w w1) : OwnS w v ss w2 := ⟨row_base h.1 hb.size, hb.trans (h.2.mono hb.size)⟩
set_option maxRecDepth 20000 in
set_option maxHeartbeats 4000000 in
theorem listRO {w : World} {v : Value} {s : Dk} (h : RefS w v s) (hl : s.now.length ≤ 1000000000) :
    Calls Tryz.prog 28 #[v] w fun e w' => ∃ u, e = .returned u ∧ OwnS w u s.list w' := by
  obtain ⟨⟨a0, n0, c0⟩, ⟨a1, n1, c1⟩, ⟨a2, n2, c2⟩, ⟨a3, n3, c3⟩, ⟨a4, n4, c4⟩, ⟨a6, n6, c6⟩, rfl, h⟩ := h
  obtain ⟨hn, _, _, hc⟩ := nm_open h.now
  replace hn : n0 = s.now.length := hn
  unfold stV
  dsimp only
  have HR := hide' h
  have HC := hide' hc
  have HN := hide' hn
  have hl0 : n0 ≤ 1000000000 := by omega
  have BX := hide' (box9 w (.slice a0 n0 c0) (.slice a1 n1 c1) (.slice a2 n2 c2) (.slice a3 n3 c3) (.slice a4 n4 c4) (.int .i64 s.room) (.slice a6 n6 c6) (.int .i64 s.power) (.int .i64 (s.n : Int)) 38)
  have ZW : Hid ((w.alloc (.cells #[.slice a0 n0 c0, .slice a1 n1 c1, .slice a2 n2 c2, .slice a3 n3 c3, .slice a4 n4 c4, .int .i64 s.room, .slice a6 n6 c6, .int .i64 s.power, .int .i64 (s.n : Int)] 38)).heap.size = w.heap.size + 1) := by unfold Hid; simp
  rename_i y1 y2
  clear y1 y2 h hc hn hl
  go_enter Tryz.func28, Tryz.ntmps28
  go_wp2_with fail
  generalize w.alloc (.cells #[.slice a0 n0 c0, .slice a1 n1 c1, .slice a2 n2 c2, .slice a3 n3 c3, .slice a4 n4 c4, .int .i64 s.room, .slice a6 n6 c6, .int .i64 s.power, .int .i64 (s.n : Int)] 38) = W at BX ZW ⊢
  have RS : Hid (∀ Wx, Below w.heap.size w Wx → RefS Wx (.agg #[.slice a0 n0 c0, .slice a1 n1 c1, .slice a2 n2 c2, .slice a3 n3 c3, .slice a4 n4 c4, .int .i64 s.room, .slice a6 n6 c6, .int .i64 s.power, .int .i64 (s.n : Int)]) s) := fun Wx hb => ⟨⟨a0, n0, c0⟩, ⟨a1, n1, c1⟩, ⟨a2, n2, c2⟩, ⟨a3, n3, c3⟩, ⟨a4, n4, c4⟩, ⟨a6, n6, c6⟩, rfl, refV_mono HR.out hb⟩
  go_loopw [3, 4] (fun u i wr => ∃ k : Nat, k ≤ n0 ∧ i = .int .i64 k ∧ Hid (0 < k → s.down = false) ∧ Hid (OwnS W u ((s.now.take k).map (fun p => p.1)) wr)) (fun _ i _ => n0 - (intOf i).toNat)
  case atStart => exact ⟨0, by omega, rfl, fun h => absurd h (Nat.lt_irrefl _), by have h := ownS_empty W; rw [ZW.out] at h; exact h⟩
  case round =>
    obtain ⟨k, hk, rfl, hdk, HO⟩ := hrel
    have KB := hide' (cells_below BX.out.1 HO.out.2)
    have BW := hide' (BX.out.2.trans (HO.out.2.mono BX.out.2.size))
    obtain ⟨k0, k1, k2, k3, k4, k5, k6, k7, k8⟩ := cells_9 KB.out
    by_cases hlt : k < n0
    · have hk' : k < s.now.length := by rw [← HN.out]; exact hlt
      have CD := hide' (downRC (RS.out wr BW.out))
      have qlt : decide ((k : Int) < (n0 : Int)) = true := by simp; omega
      cases hdn : s.down with
      | true =>
        have E : Hid (s.list = (s.now.take k).map (fun p => p.1)) := by
          have e0 : k = 0 := by
            rcases Nat.eq_zero_or_pos k with h0 | h0
            · exact h0
            · rw [hdk.out h0] at hdn; cases hdn
          unfold Hid Dk.list
          rw [if_pos hdn, e0]
          rfl
        rw [hdn] at CD
        clear hdn hdk
        go_wp2_with fail
        refine CD.out.mono ?_
        rintro e w1 ⟨rfl, hb1⟩
        have HO1 := hide' (ownS_mono HO.out hb1)
        clear CD hb1
        go_wp2_with fail
        go_ret
        rw [E.out]
        exact ⟨_, rfl, ownS_baseX HO1.out BX.out.2⟩
      | false =>
        have DN := hide' hdn
        rw [hdn] at CD
        clear hdn
        obtain ⟨b, off, rfl, hb, hcell⟩ := HC.out (by omega)
        have y1 := (hcell k hk').1
        unfold S at y1
        have Y1 : Hid (∀ Wx, Below wr.heap.size wr Wx → Wx.cell? ⟨b, off + k * 2, none⟩ = some (.string ⟨((s.now[k]'hk').1).toArray⟩)) := fun Wx hbx => by
          have hbw := BW.out.trans (hbx.mono BW.out.size)
          rw [hbw.cell (p := ⟨b, off + k * 2, none⟩) hb]
          exact y1
        have E2 : Hid ((s.now.take (k + 1)).map (fun p => p.1) = (s.now.take k).map (fun p => p.1) ++ [(s.now[k]'hk').1]) := by unfold Hid; rw [List.take_succ_eq_append_getElem hk', List.map_append]; rfl
        have hln : Hid (((s.now.take k).map (fun p => p.1)).length = k) := by unfold Hid; simp; omega
        clear hcell y1
        go_wp2_with fail
        refine CD.out.mono ?_
        rintro e w1 ⟨rfl, hb1⟩
        have HO1 := hide' (ownS_mono HO.out hb1)
        have z1 := Y1.out w1 hb1
        obtain ⟨m0, m1, m2, m3, m4, m5, m6, m7, m8⟩ := cells_9 (cells_below KB.out hb1)
        clear CD hb1 k0 k1 k2 k3 k4 k5 k6 k7 k8
        go_wp2_with (at_builtin; refine appS rfl (.tmp 18) (.tmp 25) rfl W _ _ rfl HO1.out (s.now[k]'hk').1 rfl rfl (by rw [hln.out]; omega) ?_; intro v2 w2 hown2; rw [← E2.out] at hown2; have O2 := hide' hown2; clear hown2)
        go_roundw
        case rel => exact ⟨k + 1, by omega, by go_num, fun _ => (by first | exact DN.out | trivial), O2⟩
        case measure => simp [intOf]; omega
    · have E : Hid (s.list = (s.now.take k).map (fun p => p.1)) := by
        have et : s.now.take k = s.now := List.take_of_length_le (by rw [← HN.out]; omega)
        unfold Hid Dk.list
        rw [et]
        cases hdn : s.down with
        | false => rfl
        | true =>
          have e0 : k = 0 := by
            rcases Nat.eq_zero_or_pos k with h0 | h0
            · exact h0
            · rw [hdk.out h0] at hdn; cases hdn
          have : s.now = [] := List.eq_nil_of_length_eq_zero (by have := HN.out; omega)
          rw [this]
          rfl
      have qlt : decide ((k : Int) < (n0 : Int)) = false := by simp; omega
      clear hdk
      go_wp2_with fail
      go_ret
      rw [E.out]
      exact ⟨_, rfl, ownS_baseX HO.out BX.out.2⟩
theorem eqSx {s t : ByteArray} (h : ¬ s.data.toList = t.data.toList) : (s.toList == t.toList) = false := by
  rw [Lib.toList_data, Lib.toList_data]; simpa using h
theorem lt_of_block {W W' : World} {b : Nat} (h : W'.heap[b]? = W.heap[b]?) (hb : b < W.heap.size) : b < W'.heap.size := by
  rcases Nat.lt_or_ge b W'.heap.size with h1 | h1
  · exact h1
  · rw [Array.getElem?_eq_none h1, Array.getElem?_eq_getElem hb] at h; cases h
/-- what is needed at the end of Open -/
structure FrE (S : Nat → Prop) (W0 : World) (zs : List Value) (Q : Nat → Prop) (v : Value) (s : Dk) (W : World) : Prop where
  b1 : Blk (W0.heap.size + 1) W zs
  bel : Below W0.heap.size W0 W
  ref : RefS (mask (fun k => (S k ∨ k = W0.heap.size ∨ k = W0.heap.size + 1) ∨ Q k) W) v s
theorem fre_below {S Q : Nat → Prop} {W0 W W' : World} {zs : List Value} {v : Value} {s : Dk} (h : FrE S W0 zs Q v s W) (hb : Below W.heap.size W W') : FrE S W0 zs Q v s W' :=
  ⟨cells_below h.b1 hb, h.bel.trans (hb.mono h.bel.size), refS_sub h.ref (off_mask (off_of hb) (fun _ e => .inl e))⟩
theorem fre_put {S Q : Nat → Prop} {W0 W : World} {zs : List Value} {v : Value} {s : Dk} (h : FrE S W0 zs Q v s W) {b : Nat} (hQ : Q b) (hb : W0.heap.size + 2 ≤ b) (us : List Value) : FrE S W0 zs Q v s (putFrom b 0 W us) :=
  ⟨blk_putX (by omega) us 0 _ h.b1, below_put (by omega) us 0 W h.bel, refS_sub h.ref (off_mask (S := fun k => (S k ∨ k = W0.heap.size ∨ k = W0.heap.size + 1) ∨ Q k) (S' := fun k => (S k ∨ k = W0.heap.size ∨ k = W0.heap.size + 1) ∨ Q k) (off_put (.inr hQ) us 0 W) (fun _ e => .inl e))⟩
theorem fre_end {S Q : Nat → Prop} {W0 W : World} {zs us : List Value} {v : Value} {s : Dk} (h : FrE S W0 zs Q v s W) (hu : us.length = zs.length) : Blk (W0.heap.size + 1) (putFrom (W0.heap.size + 1) 0 W us) us ∧ Below W0.heap.size W0 (putFrom (W0.heap.size + 1) 0 W us) ∧ RefS (mask S (putFrom (W0.heap.size + 1) 0 W us)) v s := by
  have FB := cells_putFrom us 0 _ _ h.b1 (by omega)
  rw [List.drop_eq_nil_of_le (by omega)] at FB
  refine ⟨by simpa using FB, below_put (m := W0.heap.size) (b := W0.heap.size + 1) (Nat.le_succ _) us 0 _ h.bel, ?_⟩
  exact refS_sub h.ref (Sub.trans (off_mask (S := fun k => (S k ∨ k = W0.heap.size ∨ k = W0.heap.size + 1) ∨ Q k) (S' := fun k => (S k ∨ k = W0.heap.size ∨ k = W0.heap.size + 1) ∨ Q k) (off_put (.inl (.inr (.inr rfl))) us 0 _) (fun _ e => .inl e)) (mask_mono (S := S) (fun _ e => .inl (.inl e))))
theorem holdsR_put {W : World} {lv : Value} {rs : RL} (h : HoldsR W lv rs) {b : Nat} (hb : ∀ ad n c, lv = .slice (some ad) n c → ad.block ≠ b) (us : List Value) : HoldsR (putFrom b 0 W us) lv rs := by
  obtain ⟨ao, cap, rfl, h0, hcp, hc⟩ := h
  refine ⟨ao, cap, rfl, h0, hcp, fun hne => ?_⟩
  obtain ⟨g, off, rfl, hlt, hcell⟩ := hc hne
  have hof := off_put (S := fun k => k = b) rfl us 0 W
  have hg : g ≠ b := hb _ _ _ rfl
  have key : ∀ o, (putFrom b 0 W us).cell? ⟨g, o, none⟩ = W.cell? ⟨g, o, none⟩ := fun o => World.cell?_of_block (w := W) (a := ⟨g, o, none⟩) (hof.block g hlt hg)
  refine ⟨g, off, rfl, Nat.lt_of_lt_of_le hlt hof.size, fun j hj => ?_⟩
  obtain ⟨r0, r1, r2, r3⟩ := hcell j hj
  exact ⟨by rw [key]; exact r0, by rw [key]; exact r1, by rw [key]; exact r2, by rw [key]; exact r3⟩
def OpenR (S : Nat → Prop) (W0 : World) (Q : LSt × RL × Int) (e : Ending) (w' : World) : Prop := ∃ (y0 y1 y2 y3 y4 y6 : Sl) (s' : Dk) (lv : Value), s' = Q.1.1 ∧ e = .returned (.tuple #[.agg #[.slice y0.a y0.n y0.c, .slice y1.a y1.n y1.c, .slice y2.a y2.n y2.c, .slice y3.a y3.n y3.c, .slice y4.a y4.n y4.c, .int .i64 s'.room, .slice y6.a y6.n y6.c, .int .i64 s'.power, .int .i64 (s'.n : Int), .int .i64 Q.1.2], lv, .int .i64 Q.2.2]) ∧ HoldsR w' lv Q.2.1 ∧ RefS (mask S w') (.agg #[.slice y0.a y0.n y0.c, .slice y1.a y1.n y1.c, .slice y2.a y2.n y2.c, .slice y3.a y3.n y3.c, .slice y4.a y4.n y4.c, .int .i64 s'.room, .slice y6.a y6.n y6.c, .int .i64 s'.power, .int .i64 (s'.n : Int)]) s' ∧ Below W0.heap.size W0 w'
set_option maxRecDepth 20000 in
set_option maxHeartbeats 16000000 in
theorem openRC {S : Nat → Prop} {W0 : World} (hS : ∀ k, S k → k < W0.heap.size) {a0 a1 a2 a3 a4 a6 : Option Addr} {n0 c0 n1 c1 n2 c2 n3 c3 n4 c4 n6 c6 : Nat} {t : Dk} (h : RefS (mask S W0) (.agg #[.slice a0 n0 c0, .slice a1 n1 c1, .slice a2 n2 c2, .slice a3 n3 c3, .slice a4 n4 c4, .int .i64 t.room, .slice a6 n6 c6, .int .i64 t.power, .int .i64 (t.n : Int)]) t) (hw : Wf t) (m : Nat) (hB : Bd m t) (hfl : t.fails.length ≤ 1000000000) (hm : m ≤ 3000000) :
    Calls Tryz.prog 8 #[.agg #[.slice a0 n0 c0, .slice a1 n1 c1, .slice a2 n2 c2, .slice a3 n3 c3, .slice a4 n4 c4, .int .i64 t.room, .slice a6 n6 c6, .int .i64 t.power, .int .i64 (t.n : Int)]] W0 fun e w' => OpenR S W0 (refOpen t) e w' := by
  have I0 : Hid (StI S W0 [.slice none 0 0, .slice none 0 0, .slice none 0 0, .slice none 0 0, .slice none 0 0, .int .i64 0, .slice none 0 0, .int .i64 0, .int .i64 0, .int .i64 0] [.slice a0 n0 c0, .slice a1 n1 c1, .slice a2 n2 c2, .slice a3 n3 c3, .slice a4 n4 c4, .int .i64 t.room, .slice a6 n6 c6, .int .i64 t.power, .int .i64 (t.n : Int)] (.agg #[.slice a0 n0 c0, .slice a1 n1 c1, .slice a2 n2 c2, .slice a3 n3 c3, .slice a4 n4 c4, .int .i64 t.room, .slice a6 n6 c6, .int .i64 t.power, .int .i64 (t.n : Int)]) t m ((W0.alloc (.cells #[.slice a0 n0 c0, .slice a1 n1 c1, .slice a2 n2 c2, .slice a3 n3 c3, .slice a4 n4 c4, .int .i64 t.room, .slice a6 n6 c6, .int .i64 t.power, .int .i64 (t.n : Int)] 38)).alloc (.cells #[.slice none 0 0, .slice none 0 0, .slice none 0 0, .slice none 0 0, .slice none 0 0, .int .i64 0, .slice none 0 0, .int .i64 0, .int .i64 0, .int .i64 0] 46))) := sti_begin #[.slice a0 n0 c0, .slice a1 n1 c1, .slice a2 n2 c2, .slice a3 n3 c3, .slice a4 n4 c4, .int .i64 t.room, .slice a6 n6 c6, .int .i64 t.power, .int .i64 (t.n : Int)] #[.slice none 0 0, .slice none 0 0, .slice none 0 0, .slice none 0 0, .slice none 0 0, .int .i64 0, .slice none 0 0, .int .i64 0, .int .i64 0, .int .i64 0] h hw hB _ _
  have HS := hide' hS
  have FL := hide' hfl
  have WF := hide' hw
  have CL := hide' (listRO (refS_sub I0.out.ref (mask_sub _ _)) (by have := hB.2.2.1; omega))
  have BM := hide' hB
  have LL : Hid (t.list.length ≤ 3000000) := by unfold Hid; have := list_lenB hB; omega
  obtain ⟨k0, k1, k2, k3, k4, k5, k6, k7, k8⟩ := cells_9 I0.out.b0
  clear h hw hB hfl hS
  go_enter Tryz.func8, Tryz.ntmps8
  go_wp2_with fail
  refine CL.out.mono ?_
  rintro e w3 ⟨u, rfl, hu⟩
  have I3 := hide' (sti_below I0.out hu.2)
  have z2 : (((W0.alloc (.cells #[.slice a0 n0 c0, .slice a1 n1 c1, .slice a2 n2 c2, .slice a3 n3 c3, .slice a4 n4 c4, .int .i64 t.room, .slice a6 n6 c6, .int .i64 t.power, .int .i64 (t.n : Int)] 38)).alloc (.cells #[.slice none 0 0, .slice none 0 0, .slice none 0 0, .slice none 0 0, .slice none 0 0, .int .i64 0, .slice none 0 0, .int .i64 0, .int .i64 0, .int .i64 0] 46))).heap.size = W0.heap.size + 2 := by simp
  obtain ⟨ao, cap, hul, hucell⟩ := holds_own hu
  have HU : Hid (t.list ≠ [] → ∃ b off, ao = some ⟨b, off, none⟩ ∧ W0.heap.size + 2 ≤ b ∧ b < w3.heap.size ∧ ∀ j (h : j < t.list.length), w3.cell? ⟨b, off + j, none⟩ = some (Go.Proofs.YtijnjgnckipghaaGreat.S t.list[j])) := fun hne => by
    obtain ⟨b, off, e1, e2, e3⟩ := hucell hne
    refine ⟨b, off, e1, ?_, e2, e3⟩
    have := (hu.1.lt b (by rw [hul, e1]; rfl)).1
    rw [z2] at this
    exact this
  obtain ⟨n, hn⟩ : ∃ n, n = t.list.length := ⟨_, rfl⟩
  have N := hide' hn
  have ln : n ≤ 3000000 := by have := LL.out; omega
  rw [← hn] at hul
  subst hul
  have R0 : Hid (RemI t t 0) := .inl ⟨rfl, fun i hi => absurd hi (Nat.not_lt_zero _)⟩
  clear CL I0 hu hucell hn k0 k1 k2 k3 k4 k5 k6 k7 k8 LL z2
  go_wp2_with fail
  go_loopw [6] (fun i wr => ∃ j : Nat, j ≤ n ∧ i = .int .i64 j ∧ ∃ (x0 x1 x2 x3 x4 x6 : Sl) (s : Dk), Hid (StI S W0 [.slice none 0 0, .slice none 0 0, .slice none 0 0, .slice none 0 0, .slice none 0 0, .int .i64 0, .slice none 0 0, .int .i64 0, .int .i64 0, .int .i64 0] [.slice x0.a x0.n x0.c, .slice x1.a x1.n x1.c, .slice x2.a x2.n x2.c, .slice x3.a x3.n x3.c, .slice x4.a x4.n x4.c, .int .i64 s.room, .slice x6.a x6.n x6.c, .int .i64 s.power, .int .i64 (s.n : Int)] (.agg #[.slice x0.a x0.n x0.c, .slice x1.a x1.n x1.c, .slice x2.a x2.n x2.c, .slice x3.a x3.n x3.c, .slice x4.a x4.n x4.c, .int .i64 s.room, .slice x6.a x6.n x6.c, .int .i64 s.power, .int .i64 (s.n : Int)]) s (m + 2) wr) ∧ Hid (RemI t s j) ∧ Hid (∀ b, W0.heap.size + 2 ≤ b → b < w3.heap.size → wr.heap[b]? = w3.heap[b]?)) (fun i _ => n - (intOf i).toNat)
  case atStart => exact ⟨0, by omega, rfl, ⟨a0, n0, c0⟩, ⟨a1, n1, c1⟩, ⟨a2, n2, c2⟩, ⟨a3, n3, c3⟩, ⟨a4, n4, c4⟩, ⟨a6, n6, c6⟩, t, hide' ⟨I3.out.b0, I3.out.b1, I3.out.bel, I3.out.ref, I3.out.wf, bd_mono I3.out.bd (by omega)⟩, R0, fun _ _ _ => rfl⟩
  case round =>
    obtain ⟨j, hj, rfl, ⟨a0, n0, c0⟩, ⟨a1, n1, c1⟩, ⟨a2, n2, c2⟩, ⟨a3, n3, c3⟩, ⟨a4, n4, c4⟩, ⟨a6, n6, c6⟩, s, HI, HR, HB⟩ := hrel
    dsimp only at HI
    clear I3 R0
    have FLs : Hid (s.fails.length ≤ 1000000000) := by unfold Hid; rw [remI_fails HR.out]; exact FL.out
    by_cases hlt : j < n
    · have hj' : j < t.list.length := by rw [← N.out]; exact hlt
      obtain ⟨b, off, hao, hblo, hblt, hcell⟩ := HU.out (fun e => by rw [e] at hj'; exact absurd hj' (Nat.not_lt_zero _))
      subst hao
      have hc := (World.cell?_of_block (w := w3) (a := ⟨b, off + j, none⟩) (HB.out b hblo hblt)).trans (hcell j hj')
      replace hc : wr.cell? ⟨b, off + j, none⟩ = some (.string ⟨(t.list[j]'hj').toArray⟩) := hc
      by_cases he : t.list[j]'hj' = nwN
      · obtain ⟨hst, hrm⟩ := remI_bad HR.out WF.out hj' he
        have RO := hide' (fun h0 => remI_ok hj' he h0)
        rw [he] at hc
        replace hc : wr.cell? ⟨b, off + j, none⟩ = some (.string ⟨#[108, 111, 103, 46, 110, 101, 119]⟩) := hc
        have RM := hide' hrm
        clear hcell hrm he HR
        subst hst
        have CT := hide' (stepRC (S := fun k => S k ∨ k = W0.heap.size ∨ k = W0.heap.size + 1) (sti_lt HI.out HS.out) HI.out.ref HI.out.wf (bd_mono HI.out.bd (by omega)) 6 (by decide) ⟨#[108, 111, 103, 46, 110, 101, 119]⟩ ⟨#[]⟩ none 0 0 [] (holdsB_none _) (by decide) (by decide) (by decide) FLs.out)
        have e6 : (⟨6, (⟨#[108, 111, 103, 46, 110, 101, 119]⟩ : ByteArray).data.toList, (⟨#[]⟩ : ByteArray).data.toList, []⟩ : DOp) = ⟨6, nwN, [], []⟩ := rfl
        rw [e6] at CT
        have WF2 := hide' (wf_step HI.out.wf ⟨6, nwN, [], []⟩)
        have BD2 := hide' (bd_step BM.out ⟨6, nwN, [], []⟩)
        clear e6
        obtain ⟨k0, k1, k2, k3, k4, k5, k6, k7, k8⟩ := cells_9 HI.out.b0
        go_wp2_with fail
        refine CT.out.mono ?_
        rintro e w8 ⟨v', rfl, hr, hb⟩
        generalize s.step ⟨6, nwN, [], []⟩ = Q at hr RM RO WF2 BD2 ⊢
        obtain ⟨s', er⟩ := Q
        dsimp only at hr RM RO WF2 BD2 ⊢
        obtain ⟨⟨ra0, rn0, rc0⟩, ⟨ra1, rn1, rc1⟩, ⟨ra2, rn2, rc2⟩, ⟨ra3, rn3, rc3⟩, ⟨ra4, rn4, rc4⟩, ⟨ra6, rn6, rc6⟩, ev, -⟩ := id hr
        unfold stV at ev
        dsimp only at ev
        subst ev
        have I8 := hide' (sti_below (sti_ref HI.out hb hr WF2.out (bd_mono BD2.out (show m + 2 + 0 ≤ m + 2 by omega))) (below_alloc' w8 (.cells #[.slice ra0 rn0 rc0, .slice ra1 rn1 rc1, .slice ra2 rn2 rc2, .slice ra3 rn3 rc3, .slice ra4 rn4 rc4, .int .i64 s'.room, .slice ra6 rn6 rc6, .int .i64 s'.power, .int .i64 (s'.n : Int)] 38)))
        have P8 := sti_put I8.out (us := [.slice ra0 rn0 rc0, .slice ra1 rn1 rc1, .slice ra2 rn2 rc2, .slice ra3 rn3 rc3, .slice ra4 rn4 rc4, .int .i64 s'.room, .slice ra6 rn6 rc6, .int .i64 s'.power, .int .i64 (s'.n : Int)]) rfl
        have KB : ∀ b, W0.heap.size + 2 ≤ b → b < w3.heap.size → (putFrom W0.heap.size 0 (w8.alloc (.cells #[.slice ra0 rn0 rc0, .slice ra1 rn1 rc1, .slice ra2 rn2 rc2, .slice ra3 rn3 rc3, .slice ra4 rn4 rc4, .int .i64 s'.room, .slice ra6 rn6 rc6, .int .i64 s'.power, .int .i64 (s'.n : Int)] 38)) [.slice ra0 rn0 rc0, .slice ra1 rn1 rc1, .slice ra2 rn2 rc2, .slice ra3 rn3 rc3, .slice ra4 rn4 rc4, .int .i64 s'.room, .slice ra6 rn6 rc6, .int .i64 s'.power, .int .i64 (s'.n : Int)]).heap[b]? = w3.heap[b]? := fun b h1 h2 => by
          have hwr : b < wr.heap.size := lt_of_block (HB.out b h1 h2) h2
          have h8 : b < w8.heap.size := Nat.lt_of_lt_of_le hwr hb.size
          rw [(off_put (S := fun k => k = W0.heap.size) rfl [.slice ra0 rn0 rc0, .slice ra1 rn1 rc1, .slice ra2 rn2 rc2, .slice ra3 rn3 rc3, .slice ra4 rn4 rc4, .int .i64 s'.room, .slice ra6 rn6 rc6, .int .i64 s'.power, .int .i64 (s'.n : Int)] 0 (w8.alloc (.cells #[.slice ra0 rn0 rc0, .slice ra1 rn1 rc1, .slice ra2 rn2 rc2, .slice ra3 rn3 rc3, .slice ra4 rn4 rc4, .int .i64 s'.room, .slice ra6 rn6 rc6, .int .i64 s'.power, .int .i64 (s'.n : Int)] 38))).block b (by simp; omega) (by omega), (below_alloc' w8 (.cells #[.slice ra0 rn0 rc0, .slice ra1 rn1 rc1, .slice ra2 rn2 rc2, .slice ra3 rn3 rc3, .slice ra4 rn4 rc4, .int .i64 s'.room, .slice ra6 rn6 rc6, .int .i64 s'.power, .int .i64 (s'.n : Int)] 38)).block b h8, hb.block b hwr]
          exact HB.out b h1 h2
        simp only [putFrom] at P8 KB
        have P8H := hide' P8
        have KBH := hide' KB
        obtain ⟨⟨p0, p1, p2, p3, p4, p5, p6, p7, p8⟩, r0, r1, r2, r3, r4, r5, r6, r7, r8⟩ := cells_9a I8.out.b0
        clear hr hb CT P8 KB I8 HI HB WF2 BD2 k0 k1 k2 k3 k4 k5 k6 k7 k8 hc hblo hblt
        go_upto_region 8 with fail
        generalize ((((((((((w8.alloc (.cells #[.slice ra0 rn0 rc0, .slice ra1 rn1 rc1, .slice ra2 rn2 rc2, .slice ra3 rn3 rc3, .slice ra4 rn4 rc4, .int .i64 s'.room, .slice ra6 rn6 rc6, .int .i64 s'.power, .int .i64 (s'.n : Int)] 38)).setCell ⟨W0.heap.size, 0, none⟩ (.slice ra0 rn0 rc0)).setCell ⟨W0.heap.size, 1, none⟩ (.slice ra1 rn1 rc1)).setCell ⟨W0.heap.size, 2, none⟩ (.slice ra2 rn2 rc2)).setCell ⟨W0.heap.size, 3, none⟩ (.slice ra3 rn3 rc3)).setCell ⟨W0.heap.size, 4, none⟩ (.slice ra4 rn4 rc4)).setCell ⟨W0.heap.size, 5, none⟩ (.int .i64 s'.room)).setCell ⟨W0.heap.size, 6, none⟩ (.slice ra6 rn6 rc6)).setCell ⟨W0.heap.size, 7, none⟩ (.int .i64 s'.power)).setCell ⟨W0.heap.size, 8, none⟩ (.int .i64 (s'.n : Int))) = wA at P8H KBH ⊢
        clear p0 p1 p2 p3 p4 p5 p6 p7 p8 r0 r1 r2 r3 r4 r5 r6 r7 r8
        by_cases hz : er = 0
        · have RX := hide' (RO.out hz)
          subst hz
          clear RO RM
          go_wp2_with fail
          go_roundw
          case rel => exact ⟨j + 1, by omega, by go_num, ⟨ra0, rn0, rc0⟩, ⟨ra1, rn1, rc1⟩, ⟨ra2, rn2, rc2⟩, ⟨ra3, rn3, rc3⟩, ⟨ra4, rn4, rc4⟩, ⟨ra6, rn6, rc6⟩, s', P8H, RX, KBH⟩
          case measure => simp [intOf]; omega
        · have dz : (er != 0) = true := by simpa using hz
          have RX := hide' (refOpen_bad RM.out hz)
          obtain ⟨k0, k1, k2, k3, k4, k5, k6, k7, k8⟩ := cells_9 P8H.out.b0
          have J3 : W0.heap.size ≠ W0.heap.size + 1 := by omega
          have J4 : W0.heap.size + 1 ≠ W0.heap.size := by omega
          clear RO RM hz KBH
          obtain ⟨⟨g0, g1, g2, g3, g4, g5, g6, g7, g8, g9⟩, ⟨f0, f1, f2, f3, f4, f5, f6, f7, f8, f9⟩⟩ := cells_ten P8H.out.b1
          have EN := sti_end P8H.out (us := [.slice ra0 rn0 rc0, .slice ra1 rn1 rc1, .slice ra2 rn2 rc2, .slice ra3 rn3 rc3, .slice ra4 rn4 rc4, .int .i64 s'.room, .slice ra6 rn6 rc6, .int .i64 s'.power, .int .i64 (s'.n : Int), .int .i64 0]) rfl
          simp only [putFrom] at EN
          have ENH := hide' EN
          clear EN P8H
          go_wp2_with fail
          obtain ⟨⟨z0, z1, z2, z3, z4, z5, z6, z7, z8, z9⟩, -⟩ := cells_ten ENH.out.1
          exact bodyPost_ret (v := .tuple #[.agg #[.slice ra0 rn0 rc0, .slice ra1 rn1 rc1, .slice ra2 rn2 rc2, .slice ra3 rn3 rc3, .slice ra4 rn4 rc4, .int .i64 s'.room, .slice ra6 rn6 rc6, .int .i64 s'.power, .int .i64 (s'.n : Int), .int .i64 0], .slice none 0 0, .int .i64 er]) (by simp [results, Tryz.results8, go_sem, z0, z1, z2, z3, z4, z5, z6, z7, z8, z9]) rfl (by rw [RX.out]; exact ⟨⟨ra0, rn0, rc0⟩, ⟨ra1, rn1, rc1⟩, ⟨ra2, rn2, rc2⟩, ⟨ra3, rn3, rc3⟩, ⟨ra4, rn4, rc4⟩, ⟨ra6, rn6, rc6⟩, s', .slice none 0 0, rfl, rfl, holdsR_nil _, ENH.out.2.2, ENH.out.2.1⟩)
      · have RX := hide' (remI_no HR.out hj' he)
        have dl : ¬ (⟨(t.list[j]'hj').toArray⟩ : ByteArray).data.toList = [108, 111, 103, 46, 110, 101, 119] := fun e => he (by
          have e3 : t.list[j]'hj' = [108, 111, 103, 46, 110, 101, 119] := by simpa using e
          exact e3)
        generalize (⟨(t.list[j]'hj').toArray⟩ : ByteArray) = x at hc dl
        have dx : (x.toList == (⟨#[108, 111, 103, 46, 110, 101, 119]⟩ : ByteArray).toList) = false := eqSx dl
        have dy : (x.toList == [108, 111, 103, 46, 110, 101, 119]) = false := by rw [Lib.toList_data]; simpa using dl
        have dn : ¬ x = (⟨#[108, 111, 103, 46, 110, 101, 119]⟩ : ByteArray) := fun e => dl (by rw [e])
        have dv : decide (x = (⟨#[108, 111, 103, 46, 110, 101, 119]⟩ : ByteArray)) = false := by simpa using dn
        clear HR he hcell
        go_wp2_with fail
        go_roundw
        case rel => exact ⟨j + 1, by omega, by go_num, ⟨a0, n0, c0⟩, ⟨a1, n1, c1⟩, ⟨a2, n2, c2⟩, ⟨a3, n3, c3⟩, ⟨a4, n4, c4⟩, ⟨a6, n6, c6⟩, s, HI, RX, HB⟩
        case measure => simp [intOf]; omega
    · have RE := hide' (refOpen_ok (remI_end HR.out (by rw [← N.out]; omega)))
      clear HR HB HU
      have J3 : W0.heap.size ≠ W0.heap.size + 1 := by omega
      have J4 : W0.heap.size + 1 ≠ W0.heap.size := by omega
      have CR := hide' (readRC (refS_sub HI.out.ref (mask_sub _ _)) HI.out.wf ⟨#[108, 111, 103]⟩ (by decide) (by have := HI.out.bd.2.2.1; omega) (fun i => by have := HI.out.bd.2.2.2.2.2 i; omega))
      have ern : (⟨#[108, 111, 103]⟩ : ByteArray).data.toList = lgN := rfl
      rw [ern] at CR
      have RL := hide' (read_len HI.out.bd lgN)
      obtain ⟨k0, k1, k2, k3, k4, k5, k6, k7, k8⟩ := cells_9 HI.out.b0
      clear ern
      unfold refRd at RE
      generalize s.read lgN = rd at CR RE RL
      obtain ⟨bs, ry⟩ := rd
      dsimp only at CR RE RL
      go_wp2_with fail
      refine CR.out.mono ?_
      rintro e w4 ⟨u4, rfl, hu4, hb4⟩
      have I4 := hide' (sti_below HI.out hb4)
      have HU4 := hide' hu4
      obtain ⟨ua, un, uc, hue⟩ := sl_of hu4
      have ULN : Hid (bs.length = un) := by
        obtain ⟨_, _, e1, _⟩ := hu4
        rw [hue] at e1
        simp only [Value.slice.injEq] at e1
        exact e1.2.1.symm
      subst hue
      clear CR HI hu4 hb4 k0 k1 k2 k3 k4 k5 k6 k7 k8
      obtain ⟨k0, k1, k2, k3, k4, k5, k6, k7, k8⟩ := cells_9 I4.out.b0
      by_cases h90 : ry = 90
      · subst h90
        rw [if_pos rfl] at RE
        have I5 := hide' (sti_below I4.out (below_alloc' w4 (.cells #[.int .i64 1, .string ⟨#[108, 111, 103]⟩, .string ⟨#[]⟩, .slice none 0 0, .int .i64 3, .string ⟨#[108, 111, 103]⟩, .string ⟨#[]⟩, .slice none 0 0, .int .i64 4, .string ⟨#[]⟩, .string ⟨#[]⟩, .slice none 0 0] 83)))
        have HOP := ho_lit w4 [((1, lgN, [], []), .slice none 0 0), ((3, lgN, [], []), .slice none 0 0), ((4, [], [], []), .slice none 0 0)] 83 (fun p hp => by
          simp only [List.mem_cons, List.not_mem_nil, or_false] at hp
          rcases hp with rfl | rfl | rfl
          · exact holdsB_none _
          · exact holdsB_none _
          · exact holdsB_none _)
        have hbk : m + 2 + bulkO [(1, lgN, [], []), (3, lgN, [], []), (4, [], [], [])] ≤ 80000000 := by simp only [bulkO, lgN, List.length_cons, List.length_nil]; omega
        have KEEP := hide' (stps_keeps [(1, lgN, [], []), (3, lgN, [], []), (4, [], [], [])] I4.out.wf I4.out.bd)
        have CS := hide' (stepsRC (S := fun k => S k ∨ k = W0.heap.size ∨ k = W0.heap.size + 1) (sti_lt I5.out HS.out) I5.out.ref I5.out.wf (m + 2) I5.out.bd FLs.out _ _ HOP (fun o h => by
          simp only [List.map_cons, List.map_nil, List.mem_cons, List.not_mem_nil, or_false] at h
          rcases h with rfl | rfl | rfl
          · exact ⟨(by decide : (1 : Int) ≤ 1), (by decide : (1 : Int) ≤ 6)⟩
          · exact ⟨(by decide : (1 : Int) ≤ 3), (by decide : (3 : Int) ≤ 6)⟩
          · exact ⟨(by decide : (1 : Int) ≤ 4), (by decide : (4 : Int) ≤ 6)⟩) hbk)
        clear HOP hbk HU4 ULN RL
        go_wp2_with fail
        refine CS.out.mono ?_
        rintro e w5 ⟨v', rfl, hr, hb⟩
        have hop : opsD [(1, lgN, [], []), (3, lgN, [], []), (4, [], [], [])] = begOps := rfl
        simp only [List.map_cons, List.map_nil] at hr ⊢
        rw [hop] at hr KEEP ⊢
        generalize stpsT begOps s = Q at hr KEEP RE ⊢
        obtain ⟨s', nn, er⟩ := Q
        dsimp only at hr KEEP RE ⊢
        obtain ⟨⟨ra0, rn0, rc0⟩, ⟨ra1, rn1, rc1⟩, ⟨ra2, rn2, rc2⟩, ⟨ra3, rn3, rc3⟩, ⟨ra4, rn4, rc4⟩, ⟨ra6, rn6, rc6⟩, ev, -⟩ := id hr
        unfold stV at ev
        dsimp only at ev
        subst ev
        have I6 := hide' (sti_below (sti_ref I5.out hb hr KEEP.out.1 KEEP.out.2.1) (below_alloc' w5 (.cells #[.slice ra0 rn0 rc0, .slice ra1 rn1 rc1, .slice ra2 rn2 rc2, .slice ra3 rn3 rc3, .slice ra4 rn4 rc4, .int .i64 s'.room, .slice ra6 rn6 rc6, .int .i64 s'.power, .int .i64 (s'.n : Int)] 38)))
        clear hr hb CS KEEP I5 I4 hop k0 k1 k2 k3 k4 k5 k6 k7 k8
        obtain ⟨⟨g0, g1, g2, g3, g4, g5, g6, g7, g8, g9⟩, ⟨f0, f1, f2, f3, f4, f5, f6, f7, f8, f9⟩⟩ := cells_ten I6.out.b1
        have EN := sti_end I6.out (us := [.slice ra0 rn0 rc0, .slice ra1 rn1 rc1, .slice ra2 rn2 rc2, .slice ra3 rn3 rc3, .slice ra4 rn4 rc4, .int .i64 s'.room, .slice ra6 rn6 rc6, .int .i64 s'.power, .int .i64 (s'.n : Int), .int .i64 0]) rfl
        simp only [putFrom] at EN
        have ENH := hide' EN
        clear EN I6
        go_wp2_with fail
        obtain ⟨⟨z0, z1, z2, z3, z4, z5, z6, z7, z8, z9⟩, -⟩ := cells_ten ENH.out.1
        exact bodyPost_ret (v := .tuple #[.agg #[.slice ra0 rn0 rc0, .slice ra1 rn1 rc1, .slice ra2 rn2 rc2, .slice ra3 rn3 rc3, .slice ra4 rn4 rc4, .int .i64 s'.room, .slice ra6 rn6 rc6, .int .i64 s'.power, .int .i64 (s'.n : Int), .int .i64 0], .slice none 0 0, .int .i64 er]) (by simp [results, Tryz.results8, go_sem, z0, z1, z2, z3, z4, z5, z6, z7, z8, z9]) rfl (by rw [RE.out]; exact ⟨⟨ra0, rn0, rc0⟩, ⟨ra1, rn1, rc1⟩, ⟨ra2, rn2, rc2⟩, ⟨ra3, rn3, rc3⟩, ⟨ra4, rn4, rc4⟩, ⟨ra6, rn6, rc6⟩, s', .slice none 0 0, rfl, rfl, holdsR_nil _, ENH.out.2.2, ENH.out.2.1⟩)
      have d90 : (ry == 90) = false := by simpa using h90
      rw [if_neg h90] at RE
      by_cases hz : ry = 0
      · subst hz
        rw [if_neg (fun h => h rfl)] at RE
        have CP := hide' (replayRC (.slice ua un uc) bs w4 HU4.out (by have := RL.out; omega))
        go_wp2_with fail
        refine CP.out.mono ?_
        rintro e w5 ⟨K, u5, rfl, hK, ho5⟩
        have eK : sndK bs = K := stops_one (sndK_stops bs) hK
        rw [eK] at RE
        have hal := atR_le bs K
        have hbk := bulk_rep K hK.1
        have lK : K ≤ 3000002 := by have := stops_le hK; have := RL.out; omega
        have I5 := hide' (sti_below I4.out ho5.2)
        have H5 := hide' (holdsR_own ho5)
        have N5 : Hid (∀ ad n c, u5 = .slice (some ad) n c → W0.heap.size + 2 ≤ ad.block ∧ ad.block < w5.heap.size) := fun ad n c e => by
          have h1 := ho5.1.lt ad.block (by rw [e]; rfl)
          have h2 := I4.out.b1.2
          exact ⟨by omega, h1.2⟩
        obtain ⟨la, lc, _, _, hle, _⟩ := holdsR_parts H5.out
        rw [repR_len] at hle
        subst hle
        have hLn := RL.out
        clear eK hK ho5 CP HU4 I4 k0 k1 k2 k3 k4 k5 k6 k7 k8
        generalize repR bs K = rs at RE H5 hbk
        generalize atR bs K = at' at RE hal hbk
        rw [ULN.out] at RE hal hLn
        clear ULN RL
        obtain ⟨k0, k1, k2, k3, k4, k5, k6, k7, k8⟩ := cells_9 I5.out.b0
        have B16 := below_alloc' w5 (.cells #[.slice a0 n0 c0, .slice a1 n1 c1, .slice a2 n2 c2, .slice a3 n3 c3, .slice a4 n4 c4, .int .i64 s.room, .slice a6 n6 c6, .int .i64 s.power, .int .i64 (s.n : Int), .int .i64 (K : Int)] 46)
        have P16 : Hid (Blk w5.heap.size (w5.alloc (.cells #[.slice a0 n0 c0, .slice a1 n1 c1, .slice a2 n2 c2, .slice a3 n3 c3, .slice a4 n4 c4, .int .i64 s.room, .slice a6 n6 c6, .int .i64 s.power, .int .i64 (s.n : Int), .int .i64 (K : Int)] 46)) [.slice a0 n0 c0, .slice a1 n1 c1, .slice a2 n2 c2, .slice a3 n3 c3, .slice a4 n4 c4, .int .i64 s.room, .slice a6 n6 c6, .int .i64 s.power, .int .i64 (s.n : Int), .int .i64 (K : Int)]) := cells_lit w5 #[.slice a0 n0 c0, .slice a1 n1 c1, .slice a2 n2 c2, .slice a3 n3 c3, .slice a4 n4 c4, .int .i64 s.room, .slice a6 n6 c6, .int .i64 s.power, .int .i64 (s.n : Int), .int .i64 (K : Int)] 46
        have z6 : (w5.alloc (.cells #[.slice a0 n0 c0, .slice a1 n1 c1, .slice a2 n2 c2, .slice a3 n3 c3, .slice a4 n4 c4, .int .i64 s.room, .slice a6 n6 c6, .int .i64 s.power, .int .i64 (s.n : Int), .int .i64 (K : Int)] 46)).heap.size = w5.heap.size + 1 := by simp
        have W5L : W0.heap.size + 2 ≤ w5.heap.size := by have := I5.out.b1.2; omega
        by_cases hlt2 : at' < un
        · have dlt : decide ((at' : Int) < (un : Int)) = true := by simp; omega
          rw [if_pos hlt2] at RE
          have I6 := sti_below I5.out B16
          have R6 : RefS (mask (fun k => (S k ∨ k = W0.heap.size ∨ k = W0.heap.size + 1) ∨ k = w5.heap.size) (w5.alloc (.cells #[.slice a0 n0 c0, .slice a1 n1 c1, .slice a2 n2 c2, .slice a3 n3 c3, .slice a4 n4 c4, .int .i64 s.room, .slice a6 n6 c6, .int .i64 s.power, .int .i64 (s.n : Int), .int .i64 (K : Int)] 46))) (.agg #[.slice a0 n0 c0, .slice a1 n1 c1, .slice a2 n2 c2, .slice a3 n3 c3, .slice a4 n4 c4, .int .i64 s.room, .slice a6 n6 c6, .int .i64 s.power, .int .i64 (s.n : Int)]) s := refS_sub I5.out.ref (off_mask (S := fun k => S k ∨ k = W0.heap.size ∨ k = W0.heap.size + 1) (off_of B16) (fun k e => e.elim .inl (fun e => .inr (by omega))))
          have CW := hide' (rewRC (S := fun k => (S k ∨ k = W0.heap.size ∨ k = W0.heap.size + 1) ∨ k = w5.heap.size) (fun k e => e.elim (sti_lt I6 HS.out k) (fun e => by rw [e, z6]; omega)) R6 I6.wf (m + 2) I6.bd FLs.out (K : Int) (.slice la K lc) rs (holdsR_mono H5.out B16) (by omega))
          have F6 := hide' (And.intro I6.b1 I6.bel)
          have H6 := hide' (holdsR_mono H5.out B16)
          clear R6 I6 I5 H5 hal hbk hLn
          generalize rewT rs (s, (K : Int)) = RW at CW RE
          obtain ⟨⟨s1, cw⟩, er⟩ := RW
          dsimp only at CW RE
          go_wp2_with fail
          clear k0 k1 k2 k3 k4 k5 k6 k7 k8
          generalize (w5.alloc (.cells #[.slice a0 n0 c0, .slice a1 n1 c1, .slice a2 n2 c2, .slice a3 n3 c3, .slice a4 n4 c4, .int .i64 s.room, .slice a6 n6 c6, .int .i64 s.power, .int .i64 (s.n : Int), .int .i64 (K : Int)] 46)) = w6 at CW F6 H6 P16 z6 B16 ⊢
          refine CW.out.mono ?_
          rintro e w7 ⟨⟨ra0, rn0, rc0⟩, ⟨ra1, rn1, rc1⟩, ⟨ra2, rn2, rc2⟩, ⟨ra3, rn3, rc3⟩, ⟨ra4, rn4, rc4⟩, ⟨ra6, rn6, rc6⟩, s', hs', rfl, hr, hb⟩
          subst hs'
          dsimp only at hr ⊢
          have E7 : FrE S W0 [.slice none 0 0, .slice none 0 0, .slice none 0 0, .slice none 0 0, .slice none 0 0, .int .i64 0, .slice none 0 0, .int .i64 0, .int .i64 0, .int .i64 0] (fun k => k = w5.heap.size) (.agg #[.slice ra0 rn0 rc0, .slice ra1 rn1 rc1, .slice ra2 rn2 rc2, .slice ra3 rn3 rc3, .slice ra4 rn4 rc4, .int .i64 s'.room, .slice ra6 rn6 rc6, .int .i64 s'.power, .int .i64 (s'.n : Int)]) s' w7 := ⟨cells_below F6.out.1 hb, F6.out.2.trans (hb.mono F6.out.2.size), hr⟩
          have E7H := hide' E7
          have P7 := hide' (cells_below P16.out hb)
          have H7 := hide' (holdsR_mono H6.out hb)
          have Q8 : w5.heap.size < w7.heap.size := by have := hb.size; omega
          clear E7 hr hb CW F6 H6 P16 B16
          by_cases hz : er = 0
          · subst hz
            rw [if_pos rfl] at RE
            have E9 := fre_below (fre_put E7H.out (b := w5.heap.size) rfl W5L [.slice ra0 rn0 rc0, .slice ra1 rn1 rc1, .slice ra2 rn2 rc2, .slice ra3 rn3 rc3, .slice ra4 rn4 rc4, .int .i64 s'.room, .slice ra6 rn6 rc6, .int .i64 s'.power, .int .i64 (s'.n : Int), .int .i64 cw]) (below_alloc' (putFrom w5.heap.size 0 w7 [.slice ra0 rn0 rc0, .slice ra1 rn1 rc1, .slice ra2 rn2 rc2, .slice ra3 rn3 rc3, .slice ra4 rn4 rc4, .int .i64 s'.room, .slice ra6 rn6 rc6, .int .i64 s'.power, .int .i64 (s'.n : Int), .int .i64 cw]) (.cells #[.slice ra0 rn0 rc0, .slice ra1 rn1 rc1, .slice ra2 rn2 rc2, .slice ra3 rn3 rc3, .slice ra4 rn4 rc4, .int .i64 s'.room, .slice ra6 rn6 rc6, .int .i64 s'.power, .int .i64 (s'.n : Int), .int .i64 cw] 46))
            have H9 := holdsR_mono (holdsR_put H7.out (b := w5.heap.size) (fun ad n c e => by have := (N5.out ad n c e).2; omega) [.slice ra0 rn0 rc0, .slice ra1 rn1 rc1, .slice ra2 rn2 rc2, .slice ra3 rn3 rc3, .slice ra4 rn4 rc4, .int .i64 s'.room, .slice ra6 rn6 rc6, .int .i64 s'.power, .int .i64 (s'.n : Int), .int .i64 cw]) (below_alloc' (putFrom w5.heap.size 0 w7 [.slice ra0 rn0 rc0, .slice ra1 rn1 rc1, .slice ra2 rn2 rc2, .slice ra3 rn3 rc3, .slice ra4 rn4 rc4, .int .i64 s'.room, .slice ra6 rn6 rc6, .int .i64 s'.power, .int .i64 (s'.n : Int), .int .i64 cw]) (.cells #[.slice ra0 rn0 rc0, .slice ra1 rn1 rc1, .slice ra2 rn2 rc2, .slice ra3 rn3 rc3, .slice ra4 rn4 rc4, .int .i64 s'.room, .slice ra6 rn6 rc6, .int .i64 s'.power, .int .i64 (s'.n : Int), .int .i64 cw] 46))
            have P9 := cells_below (cells_putFrom [.slice ra0 rn0 rc0, .slice ra1 rn1 rc1, .slice ra2 rn2 rc2, .slice ra3 rn3 rc3, .slice ra4 rn4 rc4, .int .i64 s'.room, .slice ra6 rn6 rc6, .int .i64 s'.power, .int .i64 (s'.n : Int), .int .i64 cw] 0 _ _ P7.out (by simp)) (below_alloc' (putFrom w5.heap.size 0 w7 [.slice ra0 rn0 rc0, .slice ra1 rn1 rc1, .slice ra2 rn2 rc2, .slice ra3 rn3 rc3, .slice ra4 rn4 rc4, .int .i64 s'.room, .slice ra6 rn6 rc6, .int .i64 s'.power, .int .i64 (s'.n : Int), .int .i64 cw]) (.cells #[.slice ra0 rn0 rc0, .slice ra1 rn1 rc1, .slice ra2 rn2 rc2, .slice ra3 rn3 rc3, .slice ra4 rn4 rc4, .int .i64 s'.room, .slice ra6 rn6 rc6, .int .i64 s'.power, .int .i64 (s'.n : Int), .int .i64 cw] 46))
            simp only [putFrom] at E9 H9 P9
            have E9H := hide' E9
            have H9H := hide' H9
            have P9H := hide' P9
            obtain ⟨⟨p0, p1, p2, p3, p4, p5, p6, p7, p8, p9⟩, ⟨r0, r1, r2, r3, r4, r5, r6, r7, r8, r9⟩⟩ := cells_ten P7.out
            clear E9 H9 P9 P7 E7H H7
            go_upto_region 23 with fail
            generalize (((((((((((w7.setCell ⟨w5.heap.size, 0, none⟩ (.slice ra0 rn0 rc0)).setCell ⟨w5.heap.size, 1, none⟩ (.slice ra1 rn1 rc1)).setCell ⟨w5.heap.size, 2, none⟩ (.slice ra2 rn2 rc2)).setCell ⟨w5.heap.size, 3, none⟩ (.slice ra3 rn3 rc3)).setCell ⟨w5.heap.size, 4, none⟩ (.slice ra4 rn4 rc4)).setCell ⟨w5.heap.size, 5, none⟩ (.int .i64 s'.room)).setCell ⟨w5.heap.size, 6, none⟩ (.slice ra6 rn6 rc6)).setCell ⟨w5.heap.size, 7, none⟩ (.int .i64 s'.power)).setCell ⟨w5.heap.size, 8, none⟩ (.int .i64 (s'.n : Int))).setCell ⟨w5.heap.size, 9, none⟩ (.int .i64 cw)).alloc (.cells #[.slice ra0 rn0 rc0, .slice ra1 rn1 rc1, .slice ra2 rn2 rc2, .slice ra3 rn3 rc3, .slice ra4 rn4 rc4, .int .i64 s'.room, .slice ra6 rn6 rc6, .int .i64 s'.power, .int .i64 (s'.n : Int), .int .i64 cw] 46)) = wA at E9H H9H P9H ⊢
            clear p0 p1 p2 p3 p4 p5 p6 p7 p8 p9 r0 r1 r2 r3 r4 r5 r6 r7 r8 r9
            obtain ⟨⟨k0, k1, k2, k3, k4, k5, k6, k7, k8, k9⟩, -⟩ := cells_ten (show Blk w5.heap.size wA [.slice ra0 rn0 rc0, .slice ra1 rn1 rc1, .slice ra2 rn2 rc2, .slice ra3 rn3 rc3, .slice ra4 rn4 rc4, .int .i64 s'.room, .slice ra6 rn6 rc6, .int .i64 s'.power, .int .i64 (s'.n : Int), .int .i64 cw] from by simpa using P9H.out)
            obtain ⟨⟨g0, g1, g2, g3, g4, g5, g6, g7, g8, g9⟩, ⟨f0, f1, f2, f3, f4, f5, f6, f7, f8, f9⟩⟩ := cells_ten E9H.out.b1
            have J5 : w5.heap.size ≠ W0.heap.size + 1 := by omega
            have J6 : W0.heap.size + 1 ≠ w5.heap.size := by omega
            have EN := fre_end E9H.out (us := [.slice ra0 rn0 rc0, .slice ra1 rn1 rc1, .slice ra2 rn2 rc2, .slice ra3 rn3 rc3, .slice ra4 rn4 rc4, .int .i64 s'.room, .slice ra6 rn6 rc6, .int .i64 s'.power, .int .i64 (s'.n : Int), .int .i64 cw]) rfl
            have HN := holdsR_put H9H.out (b := W0.heap.size + 1) (fun ad n c e => by have := (N5.out ad n c e).1; omega) [.slice ra0 rn0 rc0, .slice ra1 rn1 rc1, .slice ra2 rn2 rc2, .slice ra3 rn3 rc3, .slice ra4 rn4 rc4, .int .i64 s'.room, .slice ra6 rn6 rc6, .int .i64 s'.power, .int .i64 (s'.n : Int), .int .i64 cw]
            simp only [putFrom] at EN HN
            have ENH := hide' (And.intro EN HN)
            clear EN HN E9H H9H P9H
            go_wp2_with fail
            obtain ⟨⟨z0, z1, z2, z3, z4, z5, z6, z7, z8, z9⟩, -⟩ := cells_ten ENH.out.1.1
            exact bodyPost_ret (v := .tuple #[.agg #[.slice ra0 rn0 rc0, .slice ra1 rn1 rc1, .slice ra2 rn2 rc2, .slice ra3 rn3 rc3, .slice ra4 rn4 rc4, .int .i64 s'.room, .slice ra6 rn6 rc6, .int .i64 s'.power, .int .i64 (s'.n : Int), .int .i64 cw], .slice la K lc, .int .i64 0]) (by simp [results, Tryz.results8, go_sem, z0, z1, z2, z3, z4, z5, z6, z7, z8, z9]) rfl (by rw [RE.out]; exact ⟨⟨ra0, rn0, rc0⟩, ⟨ra1, rn1, rc1⟩, ⟨ra2, rn2, rc2⟩, ⟨ra3, rn3, rc3⟩, ⟨ra4, rn4, rc4⟩, ⟨ra6, rn6, rc6⟩, s', .slice la K lc, rfl, rfl, ENH.out.2, ENH.out.1.2.2, ENH.out.1.2.1⟩)
          · have dz : (er != 0) = true := by simpa using hz
            rw [if_neg hz] at RE
            have E8 := hide' (fre_below E7H.out (below_alloc' w7 (.cells #[.slice ra0 rn0 rc0, .slice ra1 rn1 rc1, .slice ra2 rn2 rc2, .slice ra3 rn3 rc3, .slice ra4 rn4 rc4, .int .i64 s'.room, .slice ra6 rn6 rc6, .int .i64 s'.power, .int .i64 (s'.n : Int), .int .i64 cw] 46)))
            obtain ⟨⟨g0, g1, g2, g3, g4, g5, g6, g7, g8, g9⟩, ⟨f0, f1, f2, f3, f4, f5, f6, f7, f8, f9⟩⟩ := cells_ten E8.out.b1
            have EN := fre_end E8.out (us := [.slice ra0 rn0 rc0, .slice ra1 rn1 rc1, .slice ra2 rn2 rc2, .slice ra3 rn3 rc3, .slice ra4 rn4 rc4, .int .i64 s'.room, .slice ra6 rn6 rc6, .int .i64 s'.power, .int .i64 (s'.n : Int), .int .i64 cw]) rfl
            simp only [putFrom] at EN
            have ENH := hide' EN
            clear EN E8 E7H P7 H7 hz
            go_wp2_with fail
            obtain ⟨⟨z0, z1, z2, z3, z4, z5, z6, z7, z8, z9⟩, -⟩ := cells_ten ENH.out.1
            exact bodyPost_ret (v := .tuple #[.agg #[.slice ra0 rn0 rc0, .slice ra1 rn1 rc1, .slice ra2 rn2 rc2, .slice ra3 rn3 rc3, .slice ra4 rn4 rc4, .int .i64 s'.room, .slice ra6 rn6 rc6, .int .i64 s'.power, .int .i64 (s'.n : Int), .int .i64 cw], .slice none 0 0, .int .i64 er]) (by simp [results, Tryz.results8, go_sem, z0, z1, z2, z3, z4, z5, z6, z7, z8, z9]) rfl (by rw [RE.out]; exact ⟨⟨ra0, rn0, rc0⟩, ⟨ra1, rn1, rc1⟩, ⟨ra2, rn2, rc2⟩, ⟨ra3, rn3, rc3⟩, ⟨ra4, rn4, rc4⟩, ⟨ra6, rn6, rc6⟩, s', .slice none 0 0, rfl, rfl, holdsR_nil _, ENH.out.2.2, ENH.out.2.1⟩)
        · have dlt : decide ((at' : Int) < (un : Int)) = false := by simp; omega
          rw [if_neg hlt2] at RE
          have I6 := hide' (sti_below I5.out B16)
          obtain ⟨⟨g0, g1, g2, g3, g4, g5, g6, g7, g8, g9⟩, ⟨f0, f1, f2, f3, f4, f5, f6, f7, f8, f9⟩⟩ := cells_ten I6.out.b1
          have EN := sti_end I6.out (us := [.slice a0 n0 c0, .slice a1 n1 c1, .slice a2 n2 c2, .slice a3 n3 c3, .slice a4 n4 c4, .int .i64 s.room, .slice a6 n6 c6, .int .i64 s.power, .int .i64 (s.n : Int), .int .i64 (K : Int)]) rfl
          have HN := holdsR_put (holdsR_mono H5.out B16) (b := W0.heap.size + 1) (fun ad n c e => by have := (N5.out ad n c e).1; omega) [.slice a0 n0 c0, .slice a1 n1 c1, .slice a2 n2 c2, .slice a3 n3 c3, .slice a4 n4 c4, .int .i64 s.room, .slice a6 n6 c6, .int .i64 s.power, .int .i64 (s.n : Int), .int .i64 (K : Int)]
          simp only [putFrom] at EN HN
          have ENH := hide' (And.intro EN HN)
          clear EN HN I6 I5 H5 P16 hal hbk hLn B16
          go_wp2_with fail
          obtain ⟨⟨z0, z1, z2, z3, z4, z5, z6, z7, z8, z9⟩, -⟩ := cells_ten ENH.out.1.1
          exact bodyPost_ret (v := .tuple #[.agg #[.slice a0 n0 c0, .slice a1 n1 c1, .slice a2 n2 c2, .slice a3 n3 c3, .slice a4 n4 c4, .int .i64 s.room, .slice a6 n6 c6, .int .i64 s.power, .int .i64 (s.n : Int), .int .i64 (K : Int)], .slice la K lc, .int .i64 0]) (by simp [results, Tryz.results8, go_sem, z0, z1, z2, z3, z4, z5, z6, z7, z8, z9]) rfl (by rw [RE.out]; exact ⟨⟨a0, n0, c0⟩, ⟨a1, n1, c1⟩, ⟨a2, n2, c2⟩, ⟨a3, n3, c3⟩, ⟨a4, n4, c4⟩, ⟨a6, n6, c6⟩, s, .slice la K lc, rfl, rfl, ENH.out.2, ENH.out.1.2.2, ENH.out.1.2.1⟩)
      · have dz : (ry != 0) = true := by simpa using hz
        rw [if_pos hz] at RE
        clear HU4 ULN RL h90 hz
        obtain ⟨⟨g0, g1, g2, g3, g4, g5, g6, g7, g8, g9⟩, ⟨f0, f1, f2, f3, f4, f5, f6, f7, f8, f9⟩⟩ := cells_ten I4.out.b1
        have EN := sti_end I4.out (us := [.slice a0 n0 c0, .slice a1 n1 c1, .slice a2 n2 c2, .slice a3 n3 c3, .slice a4 n4 c4, .int .i64 s.room, .slice a6 n6 c6, .int .i64 s.power, .int .i64 (s.n : Int), .int .i64 0]) rfl
        simp only [putFrom] at EN
        have ENH := hide' EN
        clear EN I4
        go_wp2_with fail
        obtain ⟨⟨z0, z1, z2, z3, z4, z5, z6, z7, z8, z9⟩, -⟩ := cells_ten ENH.out.1
        exact bodyPost_ret (v := .tuple #[.agg #[.slice a0 n0 c0, .slice a1 n1 c1, .slice a2 n2 c2, .slice a3 n3 c3, .slice a4 n4 c4, .int .i64 s.room, .slice a6 n6 c6, .int .i64 s.power, .int .i64 (s.n : Int), .int .i64 0], .slice none 0 0, .int .i64 ry]) (by simp [results, Tryz.results8, go_sem, z0, z1, z2, z3, z4, z5, z6, z7, z8, z9]) rfl (by rw [RE.out]; exact ⟨⟨a0, n0, c0⟩, ⟨a1, n1, c1⟩, ⟨a2, n2, c2⟩, ⟨a3, n3, c3⟩, ⟨a4, n4, c4⟩, ⟨a6, n6, c6⟩, s, .slice none 0 0, rfl, rfl, holdsR_nil _, ENH.out.2.2, ENH.out.2.1⟩)
end Go.Proofs.YtijnjgnckipghaaGreat
