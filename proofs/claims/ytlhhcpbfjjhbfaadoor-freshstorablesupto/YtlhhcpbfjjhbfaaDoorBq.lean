/- The contract of the document's Unquote: it returns what unqS says. The contract of the document's directives. The contracts of the document's find and number. -/
import Derived.Test.YtlhhcpbfjjhbfaaDoorBn
import Derived.Laws.DeepStrings4
import Derived.Test.YtlhhcpbfjjhbfaaDoorKnG
import Derived.Deep.RegionHeld3
import Derived.Deep.DeepCutAuto
namespace Go.Proofs.YtlhhcpbfjjhbfaaDoor
open Go.RowKit
set_option maxRecDepth 20000 in
set_option maxHeartbeats 1000000 in
theorem unquoteRef_not (s : ByteArray) (w : World) (hs : s.size ≤ 4194304) (hf : framed s = false) :
    Calls Tryd.prog 68 #[.string s] w fun e w' => e = .returned (.tuple #[.string ⟨(unqS s).1.toArray⟩, .int .i64 (unqS s).2]) ∧ Below w.heap.size w w' := by
  have F : Hid (unqS s = ([], 11)) := unqS_not hf
  by_cases h2 : s.size < 2
  · clear hf
    go_enter Tryd.func68, Tryd.ntmps68
    go_wp2
    go_ret2
    rw [F.out]
    exact ⟨rfl, Below.refl _ _⟩
  · have h3 : 2 ≤ s.size := by omega
    rw [framed_long h3] at hf
    clear h2
    by_cases c0 : (s[0].toNat : Int) = 34
    · have c1 : ¬ (s[s.size - 1].toNat : Int) = 34 := fun h => by simp [c0, h] at hf
      have b0 : ((s[0].toNat : Int) != 34) = false := by simp [c0]
      have b1 : ((s[s.size - 1].toNat : Int) != 34) = true := by simp [c1]
      clear c0 c1 hf
      go_enter Tryd.func68, Tryd.ntmps68
      go_wp2
      go_ret2
      rw [F.out]
      exact ⟨rfl, Below.refl _ _⟩
    · have b0 : ((s[0].toNat : Int) != 34) = true := by simp [c0]
      clear c0 hf
      go_enter Tryd.func68, Tryd.ntmps68
      go_wp2
      go_ret2
      rw [F.out]
      exact ⟨rfl, Below.refl _ _⟩
theorem cut_inner (s : ByteArray) (h3 : 2 ≤ s.size) (w : World) : ∃ t : ByteArray,
    Sem.run Tryd.prog (Instr.slice 9 (.string s) (some (.int .i64 1)) (some (.int .i64 ((s.size : Int) - 1))) none) w = .ok (.string t) w ∧ t.data.toList = inner s := by
  refine ⟨s.extract 1 (s.size - 1), ?_, ?_⟩
  · rw [run_slice_string (h := Tryd.underlying9)]
    · congr 2; congr 1; omega
    · omega
    · omega
    · omega
  · rw [extract_list]; unfold inner; rw [show s.size - 1 - 1 = s.size - 2 by omega]
section
variable {L : List UInt8} {t : ByteArray} {k : Nat} {o : List UInt8}
theorem list_at (ht : t.data.toList = L) (hk : k < t.size) : ∃ h : k < L.length, L[k] = t[k] := by
  subst ht
  exact ⟨by simpa using hk, by simp; rfl⟩
theorem len_of (ht : t.data.toList = L) : L.length = t.size := by subst ht; simp
end
set_option maxRecDepth 20000 in
set_option maxHeartbeats 1000000 in
theorem unquoteRef_yes (s : ByteArray) (w : World) (hs : s.size ≤ 4194304) (h3 : 2 ≤ s.size) (hf : framed s = true) :
    Calls Tryd.prog 68 #[.string s] w fun e w' => e = .returned (.tuple #[.string ⟨(unqS s).1.toArray⟩, .int .i64 (unqS s).2]) ∧ Below w.heap.size w w' := by
  have U : Hid (unqS s = unqR (inner s)) := unqS_is hf
  rw [framed_long h3] at hf
  have c0 : (s[0].toNat : Int) = 34 := (of_decide_eq_true hf).1
  have c1 : (s[s.size - 1].toNat : Int) = 34 := (of_decide_eq_true hf).2
  have b0 : ((s[0].toNat : Int) != 34) = false := by simp [c0]
  have b1 : ((s[s.size - 1].toNat : Int) != 34) = false := by simp [c1]
  clear c0 c1 hf
  obtain ⟨t, hcut, htl⟩ := cut_inner s h3 w
  have hts : t.size = s.size - 2 := by rw [← len_of htl, inner_len s h3]
  have T : Hid (t.data.toList = inner s) := htl
  have ts : t.size ≤ 4194304 := by omega
  clear htl hts
  go_enter Tryd.func68, Tryd.ntmps68
  go_wp2
  clear b0 b1 hcut
  go_loopw [5, 6] (fun v i wr => ∃ (k : Nat) (o : List UInt8), i = .int .i64 k ∧ Hid (RelU (inner s) k o) ∧ Own w v o wr) (fun _ i _ => t.size + 1 - (intOf i).toNat)
  case atStart => exact ⟨0, [], rfl, relU_start _, own_empty w⟩
  case round =>
    obtain ⟨k, o, rfl, hR, hown⟩ := hrel
    have hlen := len_of T.out
    have k2 : k ≤ t.size := by have := hR.out.1; omega
    have ol : o.length ≤ k := hR.out.2.1
    by_cases hlt : k < t.size
    · have hb := byte_lt t[k]
      obtain ⟨hk, he⟩ := list_at T.out hlt
      by_cases c92 : (t[k].toNat : Int) = 92
      · have b92 : ((t[k].toNat : Int) == 92) = true := by simp [c92]
        by_cases hl2 : k + 1 < t.size
        · have hb2 := byte_lt t[k + 1]
          obtain ⟨hk2, he2⟩ := list_at T.out hl2
          cases ht : txtI (t[k + 1].toNat : Int) with
          | false =>
            have F : Hid (unqR (inner s) = ([], 11)) := unqR_none (relU_escbad hR.out hk2 (by rw [he]; exact c92) (by rw [he2]; exact ht))
            clear c92 hlen he he2 hk hk2
            go_wp2_with (go_at_call 80; refine (textRefT _ (by omega) (by omega) _).mono ?_; rintro e w' ⟨rfl, rfl⟩)
            go_ret2
            rw [U.out, F.out]
            exact ⟨rfl, hown.2⟩
          | true =>
            have F : Hid (RelU (inner s) (k + 2) (o ++ [t[k + 1]])) := by
              have := relU_esc hR.out hk2 (by rw [he]; exact c92) (by rw [he2]; exact ht)
              rw [he2] at this; exact this
            clear c92 hlen he he2 hk hk2
            go_wp2_with (first
              | (go_at_call 80; refine (textRefT _ (by omega) (by omega) _).mono ?_; rintro e w' ⟨rfl, rfl⟩)
              | (at_builtin; refine app1 rfl (.tmp 55) (.tmp 57) rfl w _ _ rfl hown t[k + 1] rfl rfl (by omega) ?_; intro v2 w2 hown2))
            go_roundw
            case rel => exact ⟨k + 2, _, by go_num, F, hown2⟩
            case measure => simp [intOf]; omega
        · have F : Hid (unqR (inner s) = ([], 11)) := unqR_none (relU_end hR.out (by omega) (by rw [he]; exact c92))
          have hl3 : t.size ≤ k + 1 := by omega
          clear c92 hlen he hk
          go_wp2
          go_ret2
          rw [U.out, F.out]
          exact ⟨rfl, hown.2⟩
      · have b92 : ((t[k].toNat : Int) == 92) = false := by simp [c92]
        by_cases c34 : (t[k].toNat : Int) = 34
        · have F : Hid (unqR (inner s) = ([], 11)) := unqR_none (relU_quote hR.out hk (by rw [he]; exact c34))
          have b34 : ((t[k].toNat : Int) == 34) = true := by simp [c34]
          clear c34 c92 hlen he hk
          go_wp2
          go_ret2
          rw [U.out, F.out]
          exact ⟨rfl, hown.2⟩
        · have b34 : ((t[k].toNat : Int) == 34) = false := by simp [c34]
          cases ht : txtI (t[k].toNat : Int) with
          | false =>
            have F : Hid (unqR (inner s) = ([], 11)) := unqR_none (relU_bad hR.out hk (by rw [he]; exact c92) (by rw [he]; exact c34) (by rw [he]; exact ht))
            clear c92 c34 hlen he hk
            go_wp2_with (go_at_call 80; refine (textRefT _ (by omega) (by omega) _).mono ?_; rintro e w' ⟨rfl, rfl⟩)
            go_ret2
            rw [U.out, F.out]
            exact ⟨rfl, hown.2⟩
          | true =>
            have F : Hid (RelU (inner s) (k + 1) (o ++ [t[k]])) := by
              have := relU_plain hR.out hk (by rw [he]; exact c92) (by rw [he]; exact c34) (by rw [he]; exact ht)
              rw [he] at this; exact this
            clear c92 c34 hlen he hk
            go_wp2_with (first
              | (go_at_call 80; refine (textRefT _ (by omega) (by omega) _).mono ?_; rintro e w' ⟨rfl, rfl⟩)
              | (at_builtin; refine app1 rfl (.tmp 55) (.tmp 57) rfl w _ _ rfl hown t[k] rfl rfl (by omega) ?_; intro v2 w2 hown2))
            go_roundw
            case rel => exact ⟨k + 1, _, by go_num, F, hown2⟩
            case measure => simp [intOf]; omega
    · have F : Hid (unqR (inner s) = (o, 0)) := unqR_some (relU_done hR.out (by omega))
      have hcv := own_conv hown
      clear hlen
      go_wp2
      go_ret2
      rw [U.out, F.out]
      exact ⟨rfl, hown.2⟩
theorem unquoteRef (s : ByteArray) (w : World) (hs : s.size ≤ 4194304) :
    Calls Tryd.prog 68 #[.string s] w fun e w' => e = .returned (.tuple #[.string ⟨(unqS s).1.toArray⟩, .int .i64 (unqS s).2]) ∧ Below w.heap.size w w' := by
  cases hf : framed s with
  | false => exact unquoteRef_not s w hs hf
  | true =>
    have h3 : 2 ≤ s.size := by
      by_cases h : 2 ≤ s.size
      · exact h
      · rw [framed_short (by omega)] at hf; simp at hf
    exact unquoteRef_yes s w hs h3 hf
end Go.Proofs.YtlhhcpbfjjhbfaaDoor
namespace Go.Proofs.YtlhhcpbfjjhbfaaDoor
open Go.RowKit
theorem ownDR_poke {w0 W : World} {v : Value} {ds : List DV} {g o : Nat} (h : OwnDR w0 v ds W) (hne : v.ownBlock ≠ some g) (hg : w0.heap.size ≤ g) (x : Value) : OwnDR w0 v ds (W.setCell ⟨g, o, none⟩ x) := by
  refine ⟨?_, h.2.setCell hg x⟩
  obtain ⟨hl, h1 | ⟨g', cap, cur, rfl, hg', hh, hr⟩⟩ := h.1
  · exact ⟨hl, .inl h1⟩
  · have hn : g' ≠ g := fun e => hne (by rw [e]; rfl)
    exact ⟨hl, .inr ⟨g', cap, cur, rfl, hg', by rw [heap_setCell_other W ⟨g, o, none⟩ g' x hn]; exact hh, hr⟩⟩
theorem els_poke {el : List (List UInt8)} {b o g i : Nat} {v : Value} {W : World} (h : Els el b o v W) (hne : 0 < el.length → b ≠ g) (x : Value) : Els el b o v (W.setCell ⟨g, i, none⟩ x) := by
  intro hp
  obtain ⟨h1, h2, h3⟩ := h hp
  refine ⟨h1, by simpa using h2, fun j hj => ?_⟩
  have e : (W.setCell ⟨g, i, none⟩ x).cell? ⟨b, o + j, none⟩ = W.cell? ⟨b, o + j, none⟩ := by simp [World.cell?, heap_setCell_other W ⟨g, i, none⟩ b x (hne hp)]
  rw [e]
  exact h3 j hj
/-- a round's state: the row so far, the two lists, the directive's own block -/
def RD (w : World) (vi : Value) (acc : List DV) (el vs : List (List UInt8)) (b3 o3 b o g : Nat) (ar : List Value) (W : World) : Prop :=
  OwnDR w vi acc W ∧ Els el b3 o3 vi W ∧ Els vs b o vi W ∧ Blk g W ar ∧ vi.ownBlock ≠ some g ∧ (0 < el.length → b3 ≠ g) ∧ (0 < vs.length → b ≠ g) ∧ w.heap.size ≤ g
theorem rd_start {w w4 W : World} {vi : Value} {acc : List DV} {el vs : List (List UInt8)} {b3 o3 b o g : Nat} {ar : List Value} (h1 : OwnDR w vi acc w4) (h2 : Els el b3 o3 vi w4) (h3 : Els vs b o vi w4) (hb : Below w4.heap.size w4 W) (hk : Blk g W ar) (hg : w4.heap.size ≤ g) : RD w vi acc el vs b3 o3 b o g ar W := by
  refine ⟨ownDR_mono h1 hb, els_below h2 hb, els_below h3 hb, hk, ?_, ?_, ?_, Nat.le_trans h1.2.size hg⟩
  · intro e; have := (h1.1.lt g e).2; omega
  · intro hp e; have := (h2 hp).2.1; omega
  · intro hp e; have := (h3 hp).2.1; omega
theorem rd_below {w W W' : World} {vi : Value} {acc : List DV} {el vs : List (List UInt8)} {b3 o3 b o g : Nat} {ar : List Value} (h : RD w vi acc el vs b3 o3 b o g ar W) (hb : Below W.heap.size W W') : RD w vi acc el vs b3 o3 b o g ar W' := by
  obtain ⟨h1, h2, h3, h4, h5⟩ := h
  exact ⟨ownDR_mono h1 hb, els_below h2 hb, els_below h3 hb, cells_below h4 hb, h5⟩
theorem rd_set {w W : World} {vi : Value} {acc : List DV} {el vs : List (List UInt8)} {b3 o3 b o g : Nat} {u0 u1 u2 : Value} (h : RD w vi acc el vs b3 o3 b o g [u0, u1, u2] W) (x : Value) : RD w vi acc el vs b3 o3 b o g [u0, x, u2] (W.setCell ⟨g, 1, none⟩ x) := by
  obtain ⟨h1, h2, h3, h4, h5, h6, h7, h8⟩ := h
  exact ⟨ownDR_poke h1 h5 h8 x, els_poke h2 h6 x, els_poke h3 h7 x, cells_set h4 (j := 1) (by simp) x, h5, h6, h7, h8⟩
def KeepsK (W W' : World) : Prop := (∀ g, g < W.heap.size → g < W'.heap.size) ∧ (∀ g o, g < W.heap.size → W'.cell? ⟨g, o, none⟩ = W.cell? ⟨g, o, none⟩) ∧ (∀ g o, g < W.heap.size → W'.frozen? ⟨g, o, none⟩ = W.frozen? ⟨g, o, none⟩)
theorem keepsK_of {W W' : World} (h : Below W.heap.size W W') : KeepsK W W' := ⟨fun _ hg => Nat.lt_of_lt_of_le hg h.size, fun g o hg => h.cell (p := ⟨g, o, none⟩) hg, fun g o hg => h.frozen (p := ⟨g, o, none⟩) hg⟩
theorem below_daK (W : World) (o : Obj) : Below W.heap.size W (W.drew.alloc o) := (Below.refl _ W).drew.alloc (by simp) o
theorem below_adK (W : World) (o : Obj) : Below W.heap.size W (W.alloc o).drew := (below_alloc' W o).drew
theorem arg_yes (Y : ByteArray) (h0 : 0 < Y.size) (h : (Y[0].toNat : Int) = 34) : argOf Y.data.toList = (unqS Y).1 := by
  have e : Y.data.toList.head? = some 34 := by
    cases hd : Y.data.toList with
    | nil => have : Y.data.toList.length = Y.size := by simp
             rw [hd] at this; simp at this; omega
    | cons x r =>
      have e1 : Y[0] = x := by
        have : Y.data.toList[0]'(by simpa using h0) = x := by simp [hd]
        exact this
      rw [e1] at h
      have e2 : x = 34 := by
        have h3 : x.toNat = 34 := by omega
        exact UInt8.toNat_inj.1 (by rw [h3]; rfl)
      rw [e2]; rfl
  unfold argOf
  rw [if_pos e, ba_eta]
theorem arg_no (Y : ByteArray) (h : ∀ h0 : 0 < Y.size, ¬ (Y[0].toNat : Int) = 34) : argOf Y.data.toList = Y.data.toList := by
  unfold argOf
  rw [if_neg]
  intro e
  cases hd : Y.data.toList with
  | nil => rw [hd] at e; simp at e
  | cons x r =>
    rw [hd] at e
    simp at e
    have h0 : 0 < Y.size := by have : Y.data.toList.length = Y.size := by simp
                               rw [hd] at this; simp at this; omega
    have e1 : Y[0] = x := by
      have : Y.data.toList[0]'(by simpa using h0) = x := by simp [hd]
      exact this
    exact h h0 (by rw [e1, e]; decide)
theorem blk_put {w4 W w6 : World} {v0 v1 v2 u0 u1 u2 : Value} {t : TypeId} (hW : Below (w4.alloc (.cells #[u0, u1, u2] t)).heap.size (w4.alloc (.cells #[u0, u1, u2] t)) W) (h : Below W.heap.size W w6) :
    Blk w4.heap.size (((w6.setCell ⟨w4.heap.size, 0, none⟩ v0).setCell ⟨w4.heap.size, 1, none⟩ v1).setCell ⟨w4.heap.size, 2, none⟩ v2) [v0, v1, v2] ∧ Below w4.heap.size w4 (((w6.setCell ⟨w4.heap.size, 0, none⟩ v0).setCell ⟨w4.heap.size, 1, none⟩ v1).setCell ⟨w4.heap.size, 2, none⟩ v2) := by
  have h1 := cells_below (cells_below (cells_lit w4 #[u0, u1, u2] t) hW) h
  have h2 : Below w4.heap.size w4 w6 := bt' (bt' (below_alloc' w4 _) hW) h
  have h3 := cells_put h1 [v0, v1, v2] rfl
  have h4 := put_below (Nat.le_refl _) [v0, v1, v2] 0 w6 h2
  exact ⟨h3, h4⟩
theorem unq_smallK (Y : ByteArray) : (unqS Y).1.length ≤ Y.size := by
  have h := unq_small Y.data.toList
  rw [ba_eta] at h
  simpa using h
theorem ne_cellK {W : World} {g o : Nat} {v : Value} (h : W.cell? ⟨g, o, none⟩ = some v) : W.heap.size ≠ g := fun e => by
  have := World.block_lt_of_cell? _ _ h
  simp at this
  omega
set_option maxRecDepth 20000 in
set_option maxHeartbeats 8000000 in
theorem refDirs (v : Value) (fs : FL) (w : World) (hv : HoldsF w v fs) (hfit : Fit fs) (hl : fs.length * 16 ≤ 140737488355328) (hb : bulkT (valsOf fs ccl) ≤ 4194000) :
    Calls Tryd.prog 52 #[v] w fun e w' => ∃ u, e = .returned u ∧ OwnDR w u (dirsOf (valsOf fs ccl)) w' := by
  have cV := hide' (fun W (hb : Below w.heap.size w W) => valuesRef v fs ccl W (holdsF_mono hv hb) hfit (by decide) hl)
  obtain ⟨ao0, ca0, _, _, hve, -⟩ := holdsF_parts hv
  rw [hve] at cV ⊢
  clear hv hfit hl hve
  generalize valsOf fs ccl = vs at cV hb ⊢
  have hlv := bulkT_len vs
  have MM : Hid _ := bulkT_mem vs
  have TL : Hid (∀ k, (dirsOf (vs.take k)).length ≤ 4194000) := fun k => Nat.le_trans (dirs_take vs k) hb
  go_enter Tryd.func52, Tryd.ntmps52
  go_wp2_with fail
  refine (cV.out _ (below_alloc' w (.cells #[] 82))).mono ?_
  rintro e w1 ⟨u, rfl, ho⟩
  have O1 := hide' (ownDR_mono (ownDR_empty w) ho.2)
  obtain ⟨ao, ca, b, o, hu, hc, HE0⟩ := els_startR (ownDR_empty w) ho
  have C := hide' hc
  have HE1 := hide' HE0
  rw [hu]
  clear ho cV hu hc HE0
  obtain ⟨n, en⟩ : ∃ n, n = vs.length := ⟨_, rfl⟩
  have N : Hid (vs.length = n) := en.symm
  rw [N.out] at hlv ⊢
  clear en
  go_wp2_with fail
  go_loopw [3, 5] (fun v i wr => ∃ (vo : Value) (k : Nat), vo = v ∧ k ≤ n ∧ i = .int .i64 k ∧ OwnDR w vo (dirsOf (vs.take k)) wr ∧ Hid (Els vs b o vo wr)) (fun _ i _ => n - (intOf i).toNat)
  case atStart => exact ⟨_, 0, rfl, Nat.zero_le _, rfl, O1.out, HE1⟩
  case round =>
    clear O1 HE1
    obtain ⟨vo, k, rfl, hk, rfl, ho, HC⟩ := hrel
    obtain ⟨w2, ew⟩ : ∃ w2, w2 = wr := ⟨_, rfl⟩
    subst ew
    have tl := TL.out k
    by_cases hlt : k < n
    · have G : Hid (k < vs.length) := by unfold Hid; rw [N.out]; exact hlt
      have hao := C.out (by have := G.out; omega)
      subst hao
      have ck := (HC.out (by have := G.out; omega)).2.2 k G.out
      unfold S at ck
      have hx := MM.out _ (List.getElem_mem G.out)
      have cL := hide' (fun W => listRef ⟨(vs[k]'G.out).toArray⟩ W (by rw [size_l]; omega))
      have tl2 := TL.out (k + 1)
      have R := hide' (dirs_next vs k G.out)
      have LM := hide' (fun p hp => listOf_mem (vs[k]'G.out) p hp)
      simp only at cL
      rw [R.out, List.length_append, List.length_map] at tl2
      generalize vs[k]'G.out = q at ck hx cL tl2 R LM
      generalize dirsOf (vs.take k) = acc at ho tl tl2 R
      generalize listOf q = el at cL tl2 R LM
      go_wp2_with fail
      refine (cL.out _).mono ?_
      rintro e w3 ⟨u3, rfl, ho3⟩
      obtain ⟨a3, c3, b3, o3, hu3, ha3, HE⟩ := els_startR ho ho3
      have E3 := hide' HE
      have A3 := hide' ha3
      have O3 := hide' (ownDR_mono ho ho3.2)
      have C3 := hide' (els_below HC.out ho3.2)
      rw [hu3]
      clear ho3 ho hu3 ha3 HE cL ck HC
      obtain ⟨m, em⟩ : ∃ m, m = el.length := ⟨_, rfl⟩
      have M : Hid (el.length = m) := em.symm
      rw [M.out] at tl2 ⊢
      clear em
      go_wp2_with fail
      go_loopw [3, 7] (fun v i wr => ∃ (vi : Value) (j : Nat), vi = v ∧ j ≤ m ∧ i = .int .i64 j ∧ OwnDR w vi (acc ++ (el.take j).map dirOf) wr ∧ Hid (Els el b3 o3 vi wr) ∧ Hid (Els vs b o vi wr)) (fun _ i _ => m - (intOf i).toNat)
      case atStart => exact ⟨_, 0, rfl, Nat.zero_le _, rfl, by simpa using O3.out, E3, C3⟩
      case round =>
        clear E3 O3 C3
        obtain ⟨vi, j, rfl, hj, rfl, ho, E3, C3⟩ := hrel
        obtain ⟨w4, ew⟩ : ∃ w4, w4 = wr := ⟨_, rfl⟩
        subst ew
        by_cases hjt : j < m
        · have G2 : Hid (j < el.length) := by unfold Hid; rw [M.out]; exact hjt
          have ha := A3.out (by have := G2.out; omega)
          subst ha
          have cj := (E3.out (by have := G2.out; omega)).2.2 j G2.out
          unfold S at cj
          have hy := LM.out _ (List.getElem_mem G2.out)
          have R2 : Hid (acc ++ (el.take (j + 1)).map dirOf = (acc ++ (el.take j).map dirOf) ++ [dirOf (el[j]'G2.out)]) := by
            unfold Hid; rw [List.take_succ_eq_append_getElem G2.out, List.map_append, List.append_assoc]; rfl
          have al : (acc ++ (el.take j).map dirOf).length ≤ 4194000 := by
            rw [List.length_append, List.length_map, List.length_take]; have := M.out; omega
          have hps : (el[j]'G2.out).length ≤ 4194000 := by omega
          obtain ⟨p, hp⟩ : ∃ p, p = el[j]'G2.out := ⟨_, rfl⟩
          rw [← hp] at cj hps R2
          have PP : Hid (el[j]'G2.out = p) := hp.symm
          clear hp
          generalize acc ++ (el.take j).map dirOf = acc2 at ho al R2
          have O4 := hide' ho
          clear ho hy
          obtain ⟨P, hP⟩ : ∃ P : ByteArray, P = ⟨p.toArray⟩ := ⟨_, rfl⟩
          have PL : Hid (P.data.toList = p) := by unfold Hid; rw [hP]
          have PJ : Hid (S (el[j]'G2.out) = .string P) := by unfold Hid; rw [PP.out, hP]; rfl
          have hPs : P.size ≤ 4194000 := by rw [hP, size_l]; exact hps
          have LP : P.data.toList.length = P.size := by simp
          replace LP := hide' LP
          rw [← hP] at cj
          have CJ := hide' cj
          have ne4 := ne_cellK cj
          have ne4' := ne4.symm
          clear hP hps
          go_wp2_with fail
          go_loop [8] (fun kv => ∃ m' : Nat, m' ≤ P.size ∧ kv = .int .i64 m' ∧ Hid (∀ i (hi : i < P.size), i < m' → ¬ (P[i].toNat : Int) = 61)) (fun kv => P.size - (intOf kv).toNat)
          case atStart => exact ⟨0, Nat.zero_le _, rfl, fun i hi h => absurd h (by omega)⟩
          case round =>
            obtain ⟨m', hm', rfl, A⟩ := hrel
            by_cases hmt : m' < P.size
            · have hbt := byte_lt P[m']
              by_cases h61 : (P[m'].toNat : Int) = 61
              · have EQ : Hid (eqPos p = m') := by
                  unfold Hid
                  rw [← PL.out]
                  refine eqPos_is _ m' (by simpa using hm') (fun i hi hlt' => A.out i (by simpa using hi) hlt') (fun _ => h61)
                have DQ : Hid (dirOf p = (lows (p.take m'), argOf (p.drop (m' + 1)), true)) := by
                  have h0 : eqPos p < p.length := by rw [EQ.out, ← PL.out]; simpa using hmt
                  unfold Hid dirOf
                  rw [if_pos h0, decide_eq_true h0, EQ.out]
                have kL := hide' (fun W (h : Below w4.heap.size w4 W) => (lowerRef (P.extract 0 m') W (by rw [← ext_to, size_l, List.length_take, LP.out]; omega)).mono (R' := fun e w' => e = .returned (.string ⟨(lows (p.take m')).toArray⟩) ∧ Hid (Below w4.heap.size w4 w') ∧ Hid (Below W.heap.size W w') ∧ KeepsK W w' ∧ w'.cell? ⟨b3, o3 + j, none⟩ = some (.string P)) (by
                  rintro e w' ⟨rfl, hb'⟩
                  refine ⟨by rw [← ext_to, ← PL.out], bt' h hb', hb', keepsK_of hb', ?_⟩
                  have cj1 := (E3.out (by have := G2.out; omega)).2.1
                  rw [(bt' h hb').cell (p := ⟨b3, o3 + j, none⟩) cj1]
                  exact CJ.out))
                clear A
                generalize lows (p.take m') = lo at kL DQ
                go_wp2_with fail
                go_region_held3 (fun w' => w'.cell? ⟨b3, o3 + j, none⟩ = some (.string P)) (go_keep)
                  (first | (go_at_call 67; refine (kL.out _ ?_).mono ?_; (first | exact (Below.refl _ _).drew | exact Below.refl _ _ | exact below_daK _ _ | exact below_adK _ _ | exact below_alloc' _ _); rintro e w6 ⟨rfl, O6, P6, ⟨z6, c6, f6⟩, k6⟩; have ne6 := ne_cellK k6; have ne6' := ne6.symm))
                · have RS := hide' (rd_start O4.out E3.out C3.out (bt' O6.out (below_alloc' w6 (.cells #[.string ⟨lo.toArray⟩, .string ⟨#[]⟩, .bool true] 82))) (cells_lit w6 #[.string ⟨lo.toArray⟩, .string ⟨#[]⟩, .bool true] 82) O6.out.size)
                  clear z6 c6 f6 k6 ne6 ne6' O6 P6 ne4 ne4' kL cj
                  generalize (w6.alloc (.cells #[.string ⟨lo.toArray⟩, .string ⟨#[]⟩, .bool true] 82)) = W9 at RS ⊢
                  generalize w6.heap.size = g at RS ⊢
                  have YL : Hid ((P.extract (m' + 1) P.size).data.toList = p.drop (m' + 1)) := by unfold Hid; rw [← ext_from, PL.out]
                  have YS : (P.extract (m' + 1) P.size).size ≤ 4194000 := by rw [← ext_from, size_l, List.length_drop, LP.out]; omega
                  have cj := (RS.out.2.1 (by have := G2.out; omega)).2.2 j G2.out
                  rw [PJ.out] at cj
                  obtain ⟨⟨i0, i1, i2⟩, j0, j1, j2⟩ := cells3K RS.out.2.2.2.1
                  have hne : b3 ≠ g := RS.out.2.2.2.2.2.1 (by have := G2.out; omega)
                  have hne' := hne.symm
                  go_upto_region 16 with fail
                  have RT := hide' (rd_set RS.out (.string (P.extract (m' + 1) P.size)))
                  clear i0 i1 i2 j0 j1 j2 cj hne hne' RS
                  generalize P.extract (m' + 1) P.size = Y at YL YS RT ⊢
                  generalize W9.setCell ⟨g, 1, none⟩ (.string Y) = W8 at RT ⊢
                  rw [← YL.out] at DQ
                  clear YL
                  obtain ⟨⟨i0, i1, i2⟩, j0, j1, j2⟩ := cells3K RT.out.2.2.2.1
                  by_cases hy0 : 0 < Y.size
                  · have hyE := kn_full Y hy0
                    have hyb := byte_lt Y[0]
                    by_cases hq : (Y[0].toNat : Int) = 34
                    · rw [arg_yes Y hy0 hq] at DQ
                      have cU := hide' (fun W => unquoteRef Y W (by omega))
                      have hus : (unqS Y).1.length ≤ 4194000 := by
                        have := unq_smallK Y
                        omega
                      generalize (unqS Y).1 = a1 at DQ cU hus
                      generalize (unqS Y).2 = a2 at cU
                      go_wp2_with fail
                      refine (cU.out _).mono ?_
                      rintro e w8 ⟨rfl, b8⟩
                      have RU := hide' (rd_below RT.out b8)
                      clear b8 RT i0 i1 i2 j0 j1 j2
                      obtain ⟨⟨i0, i1, i2⟩, j0, j1, j2⟩ := cells3K RU.out.2.2.2.1
                      have RV := hide' (rd_set RU.out (.string ⟨a1.toArray⟩))
                      go_upto_region 18 with fail
                      clear i0 i1 i2 j0 j1 j2 RU
                      generalize w8.setCell ⟨g, 1, none⟩ (.string ⟨a1.toArray⟩) = W7 at RV ⊢
                      obtain ⟨⟨i0, i1, i2⟩, -⟩ := cells3K RV.out.2.2.2.1
                      go_wp2_with (at_builtin; refine appDR rfl (.tmp 89) (.tmp 91) rfl w _ _ rfl RV.out.1 (lo, a1, true) rfl rfl rfl rfl (by omega) ?_; intro v6 w7 ho6 hx6)
                      have E6 := hide' (els_app RV.out.2.1 hx6)
                      have C6 := hide' (els_app RV.out.2.2.1 hx6)
                      clear hx6
                      go_roundw
                      case rel => exact ⟨_, j + 1, rfl, by omega, by go_num, by rw [R2.out, DQ.out]; exact ho6, E6, C6⟩
                      case measure => simp [intOf]; omega
                    · rw [arg_no Y (fun _ => hq)] at DQ
                      go_wp2_with (at_builtin; refine appDR rfl (.tmp 89) (.tmp 91) rfl w _ _ rfl RT.out.1 (lo, Y.data.toList, true) rfl (ba_eta Y).symm rfl rfl (by omega) ?_; intro v6 w7 ho6 hx6)
                      have E6 := hide' (els_app RT.out.2.1 hx6)
                      have C6 := hide' (els_app RT.out.2.2.1 hx6)
                      clear hx6
                      go_roundw
                      case rel => exact ⟨_, j + 1, rfl, by omega, by go_num, by rw [R2.out, DQ.out]; exact ho6, E6, C6⟩
                      case measure => simp [intOf]; omega
                  · obtain rfl := kn_none Y hy0
                    have DQ2 : Hid (dirOf p = (lo, [], true)) := by unfold Hid; rw [DQ.out]; rfl
                    replace DQ := DQ2
                    clear DQ2
                    go_wp2_with (at_builtin; refine appDR rfl (.tmp 89) (.tmp 91) rfl w _ _ rfl RT.out.1 (lo, [], true) rfl rfl rfl rfl (by omega) ?_; intro v6 w7 ho6 hx6)
                    have E6 := hide' (els_app RT.out.2.1 hx6)
                    have C6 := hide' (els_app RT.out.2.2.1 hx6)
                    clear hx6
                    go_roundw
                    case rel => exact ⟨_, j + 1, rfl, by omega, by go_num, by rw [R2.out, DQ.out]; exact ho6, E6, C6⟩
                    case measure => simp [intOf]; omega
                · have BP := blk_put (u0 := .string ⟨#[]⟩) (u1 := .string ⟨#[]⟩) (u2 := .bool false) (t := 82) (v0 := .string ⟨lo.toArray⟩) (v1 := .string ⟨#[]⟩) (v2 := .bool true) (by first | exact Below.refl _ _ | exact (Below.refl _ _).drew) P6.out
                  have RS := hide' (rd_start O4.out E3.out C3.out BP.2 BP.1 (Nat.le_refl _))
                  clear z6 c6 f6 k6 ne6 ne6' O6 P6 ne4 ne4' kL cj BP
                  generalize (((w6.setCell ⟨w4.heap.size, 0, none⟩ (.string ⟨lo.toArray⟩)).setCell ⟨w4.heap.size, 1, none⟩ (.string ⟨#[]⟩)).setCell ⟨w4.heap.size, 2, none⟩ (.bool true)) = W9 at RS ⊢
                  generalize w4.heap.size = g at RS ⊢
                  have YL : Hid ((P.extract (m' + 1) P.size).data.toList = p.drop (m' + 1)) := by unfold Hid; rw [← ext_from, PL.out]
                  have YS : (P.extract (m' + 1) P.size).size ≤ 4194000 := by rw [← ext_from, size_l, List.length_drop, LP.out]; omega
                  have cj := (RS.out.2.1 (by have := G2.out; omega)).2.2 j G2.out
                  rw [PJ.out] at cj
                  obtain ⟨⟨i0, i1, i2⟩, j0, j1, j2⟩ := cells3K RS.out.2.2.2.1
                  have hne : b3 ≠ g := RS.out.2.2.2.2.2.1 (by have := G2.out; omega)
                  have hne' := hne.symm
                  go_upto_region 16 with fail
                  have RT := hide' (rd_set RS.out (.string (P.extract (m' + 1) P.size)))
                  clear i0 i1 i2 j0 j1 j2 cj hne hne' RS
                  generalize P.extract (m' + 1) P.size = Y at YL YS RT ⊢
                  generalize W9.setCell ⟨g, 1, none⟩ (.string Y) = W8 at RT ⊢
                  rw [← YL.out] at DQ
                  clear YL
                  obtain ⟨⟨i0, i1, i2⟩, j0, j1, j2⟩ := cells3K RT.out.2.2.2.1
                  by_cases hy0 : 0 < Y.size
                  · have hyE := kn_full Y hy0
                    have hyb := byte_lt Y[0]
                    by_cases hq : (Y[0].toNat : Int) = 34
                    · rw [arg_yes Y hy0 hq] at DQ
                      have cU := hide' (fun W => unquoteRef Y W (by omega))
                      have hus : (unqS Y).1.length ≤ 4194000 := by
                        have := unq_smallK Y
                        omega
                      generalize (unqS Y).1 = a1 at DQ cU hus
                      generalize (unqS Y).2 = a2 at cU
                      go_wp2_with fail
                      refine (cU.out _).mono ?_
                      rintro e w8 ⟨rfl, b8⟩
                      have RU := hide' (rd_below RT.out b8)
                      clear b8 RT i0 i1 i2 j0 j1 j2
                      obtain ⟨⟨i0, i1, i2⟩, j0, j1, j2⟩ := cells3K RU.out.2.2.2.1
                      have RV := hide' (rd_set RU.out (.string ⟨a1.toArray⟩))
                      go_upto_region 18 with fail
                      clear i0 i1 i2 j0 j1 j2 RU
                      generalize w8.setCell ⟨g, 1, none⟩ (.string ⟨a1.toArray⟩) = W7 at RV ⊢
                      obtain ⟨⟨i0, i1, i2⟩, -⟩ := cells3K RV.out.2.2.2.1
                      go_wp2_with (at_builtin; refine appDR rfl (.tmp 89) (.tmp 91) rfl w _ _ rfl RV.out.1 (lo, a1, true) rfl rfl rfl rfl (by omega) ?_; intro v6 w7 ho6 hx6)
                      have E6 := hide' (els_app RV.out.2.1 hx6)
                      have C6 := hide' (els_app RV.out.2.2.1 hx6)
                      clear hx6
                      go_roundw
                      case rel => exact ⟨_, j + 1, rfl, by omega, by go_num, by rw [R2.out, DQ.out]; exact ho6, E6, C6⟩
                      case measure => simp [intOf]; omega
                    · rw [arg_no Y (fun _ => hq)] at DQ
                      go_wp2_with (at_builtin; refine appDR rfl (.tmp 89) (.tmp 91) rfl w _ _ rfl RT.out.1 (lo, Y.data.toList, true) rfl (ba_eta Y).symm rfl rfl (by omega) ?_; intro v6 w7 ho6 hx6)
                      have E6 := hide' (els_app RT.out.2.1 hx6)
                      have C6 := hide' (els_app RT.out.2.2.1 hx6)
                      clear hx6
                      go_roundw
                      case rel => exact ⟨_, j + 1, rfl, by omega, by go_num, by rw [R2.out, DQ.out]; exact ho6, E6, C6⟩
                      case measure => simp [intOf]; omega
                  · obtain rfl := kn_none Y hy0
                    have DQ2 : Hid (dirOf p = (lo, [], true)) := by unfold Hid; rw [DQ.out]; rfl
                    replace DQ := DQ2
                    clear DQ2
                    go_wp2_with (at_builtin; refine appDR rfl (.tmp 89) (.tmp 91) rfl w _ _ rfl RT.out.1 (lo, [], true) rfl rfl rfl rfl (by omega) ?_; intro v6 w7 ho6 hx6)
                    have E6 := hide' (els_app RT.out.2.1 hx6)
                    have C6 := hide' (els_app RT.out.2.2.1 hx6)
                    clear hx6
                    go_roundw
                    case rel => exact ⟨_, j + 1, rfl, by omega, by go_num, by rw [R2.out, DQ.out]; exact ho6, E6, C6⟩
                    case measure => simp [intOf]; omega
              · have A2 : Hid (∀ i (hi : i < P.size), i < m' + 1 → ¬ (P[i].toNat : Int) = 61) := by
                  intro i hi h
                  by_cases hik : i = m'
                  · subst hik; exact h61
                  · exact A.out i hi (by omega)
                clear A
                go_wp2_with fail
                go_round
                case rel => exact ⟨m' + 1, by omega, by go_num, A2⟩
                case measure => simp [intOf]; omega
            · have EQ : Hid (eqPos p = m') := by
                unfold Hid
                rw [← PL.out]
                refine eqPos_is _ m' (by simpa using hm') (fun i hi hlt' => A.out i (by simpa using hi) hlt') (fun h => absurd (by simpa using h) hmt)
              have DQ : Hid (dirOf p = (lows (p.take m'), [], false)) := by
                have h0 : ¬ eqPos p < p.length := by rw [EQ.out, ← PL.out]; simpa using hmt
                unfold Hid dirOf
                rw [if_neg h0, decide_eq_false h0, EQ.out]
              have kL := hide' (fun W (h : Below w4.heap.size w4 W) => (lowerRef (P.extract 0 m') W (by rw [← ext_to, size_l, List.length_take, LP.out]; omega)).mono (R' := fun e w' => e = .returned (.string ⟨(lows (p.take m')).toArray⟩) ∧ Hid (Below w4.heap.size w4 w') ∧ Hid (Below W.heap.size W w') ∧ KeepsK W w' ∧ w'.cell? ⟨b3, o3 + j, none⟩ = some (.string P)) (by
                rintro e w' ⟨rfl, hb'⟩
                refine ⟨by rw [← ext_to, ← PL.out], bt' h hb', hb', keepsK_of hb', ?_⟩
                have cj1 := (E3.out (by have := G2.out; omega)).2.1
                rw [(bt' h hb').cell (p := ⟨b3, o3 + j, none⟩) cj1]
                exact CJ.out))
              clear A
              generalize lows (p.take m') = lo at kL DQ
              go_wp2_with fail
              go_region_held3 (fun w' => w'.cell? ⟨b3, o3 + j, none⟩ = some (.string P)) (go_keep)
                (first | (go_at_call 67; refine (kL.out _ ?_).mono ?_; (first | exact (Below.refl _ _).drew | exact Below.refl _ _ | exact below_daK _ _ | exact below_adK _ _ | exact below_alloc' _ _); rintro e w6 ⟨rfl, O6, P6, ⟨z6, c6, f6⟩, k6⟩; have ne6 := ne_cellK k6; have ne6' := ne6.symm))
              · have RS := hide' (rd_start O4.out E3.out C3.out (bt' O6.out (below_alloc' w6 (.cells #[.string ⟨lo.toArray⟩, .string ⟨#[]⟩, .bool false] 82))) (cells_lit w6 #[.string ⟨lo.toArray⟩, .string ⟨#[]⟩, .bool false] 82) O6.out.size)
                clear z6 c6 f6 k6 ne6 ne6' O6 P6 ne4 ne4' kL cj
                generalize (w6.alloc (.cells #[.string ⟨lo.toArray⟩, .string ⟨#[]⟩, .bool false] 82)) = W9 at RS ⊢
                generalize w6.heap.size = g at RS ⊢
                obtain ⟨⟨i0, i1, i2⟩, -⟩ := cells3K RS.out.2.2.2.1
                go_wp2_with (at_builtin; refine appDR rfl (.tmp 89) (.tmp 91) rfl w _ _ rfl RS.out.1 (lo, [], false) rfl rfl rfl rfl (by omega) ?_; intro v6 w7 ho6 hx6)
                have E6 := hide' (els_app RS.out.2.1 hx6)
                have C6 := hide' (els_app RS.out.2.2.1 hx6)
                clear hx6
                go_roundw
                case rel => exact ⟨_, j + 1, rfl, by omega, by go_num, by rw [R2.out, DQ.out]; exact ho6, E6, C6⟩
                case measure => simp [intOf]; omega
              · have BP := blk_put (u0 := .string ⟨#[]⟩) (u1 := .string ⟨#[]⟩) (u2 := .bool false) (t := 82) (v0 := .string ⟨lo.toArray⟩) (v1 := .string ⟨#[]⟩) (v2 := .bool false) (by first | exact Below.refl _ _ | exact (Below.refl _ _).drew) P6.out
                have RS := hide' (rd_start O4.out E3.out C3.out BP.2 BP.1 (Nat.le_refl _))
                clear z6 c6 f6 k6 ne6 ne6' O6 P6 ne4 ne4' kL cj BP
                generalize (((w6.setCell ⟨w4.heap.size, 0, none⟩ (.string ⟨lo.toArray⟩)).setCell ⟨w4.heap.size, 1, none⟩ (.string ⟨#[]⟩)).setCell ⟨w4.heap.size, 2, none⟩ (.bool false)) = W9 at RS ⊢
                generalize w4.heap.size = g at RS ⊢
                obtain ⟨⟨i0, i1, i2⟩, -⟩ := cells3K RS.out.2.2.2.1
                go_wp2_with (at_builtin; refine appDR rfl (.tmp 89) (.tmp 91) rfl w _ _ rfl RS.out.1 (lo, [], false) rfl rfl rfl rfl (by omega) ?_; intro v6 w7 ho6 hx6)
                have E6 := hide' (els_app RS.out.2.1 hx6)
                have C6 := hide' (els_app RS.out.2.2.1 hx6)
                clear hx6
                go_roundw
                case rel => exact ⟨_, j + 1, rfl, by omega, by go_num, by rw [R2.out, DQ.out]; exact ho6, E6, C6⟩
                case measure => simp [intOf]; omega
        · have E : Hid (el.take j = el) := List.take_of_length_le (by rw [M.out]; omega)
          rw [E.out] at ho
          go_wp2_with fail
          go_roundw
          case rel => exact ⟨_, k + 1, rfl, by omega, by go_num, by rw [R.out]; exact ho, C3⟩
          case measure => simp [intOf]; omega
    · have E2 : Hid (vs.take k = vs) := List.take_of_length_le (by rw [N.out]; omega)
      rw [E2.out] at ho
      go_wp2_with fail
      go_ret
      exact ⟨_, rfl, ho⟩
end Go.Proofs.YtlhhcpbfjjhbfaaDoor
namespace Go.Proofs.YtlhhcpbfjjhbfaaDoor
open Go.RowKit
/-- where the first directive of a name stands: k is the number's length where there is none -/
theorem fnd_split (ds : List DV) (nm : List UInt8) : (∃ (k : Nat) (h : k < ds.length), fndD ds nm = some ds[k] ∧ ∀ j (hj : j < ds.length), j < k → ¬ ds[j].1 = nm) ∨ (fndD ds nm = none ∧ ∀ j (hj : j < ds.length), ¬ ds[j].1 = nm) := by
  cases h : fndD ds nm with
  | none =>
    right
    refine ⟨rfl, fun j hj e => ?_⟩
    unfold fndD at h
    rw [List.find?_eq_none] at h
    have := h _ (List.getElem_mem hj)
    simp at this
    exact this e
  | some d =>
    left
    unfold fndD at h
    rw [List.find?_eq_some_iff_getElem] at h
    obtain ⟨_, k, hk, hd, hlt⟩ := h
    refine ⟨k, hk, by rw [hd], fun j hj hjk => ?_⟩
    have := hlt j hjk
    simpa using this
/-- where find ends: at k, or nowhere -/
def AtD (ds : List DV) (nm : List UInt8) (k : Int) : Prop := (∃ (j : Nat) (h : j < ds.length), k = (j : Int) ∧ fndD ds nm = some ds[j]) ∨ (k = -1 ∧ fndD ds nm = none)
set_option maxHeartbeats 1000000 in
theorem findR (v : Value) (ds : List DV) (nm : List UInt8) (w : World) (hv : HoldsD w v ds) (hl : ds.length ≤ 1000000000000) :
    Calls Tryd.prog 54 #[v, .string ⟨nm.toArray⟩] w fun e w' => ∃ k : Int, e = .returned (.int .i64 k) ∧ Hid (AtD ds nm k) ∧ w' = w := by
  obtain ⟨ao, ca, b, rfl, hc⟩ := hv
  have C := hide' hc
  clear hc
  obtain ⟨n, en⟩ : ∃ n, n = ds.length := ⟨_, rfl⟩
  have N : Hid (ds.length = n) := en.symm
  rw [N.out] at hl ⊢
  clear en
  go_enter Tryd.func54, Tryd.ntmps54
  go_wp2_with fail
  go_loop [5] (fun i => ∃ k : Nat, k ≤ n ∧ i = .int .i64 k ∧ Hid (∀ j (hj : j < ds.length), j < k → ¬ ds[j].1 = nm)) (fun i => n - (intOf i).toNat)
  case atStart => exact ⟨0, Nat.zero_le _, rfl, fun j h hj => absurd hj (by omega)⟩
  case round =>
    obtain ⟨k, hk, rfl, A⟩ := hrel
    by_cases hlt : k < n
    · have G : Hid (k < ds.length) := by unfold Hid; rw [N.out]; exact hlt
      obtain ⟨hao, hblt, hcell⟩ := C.out (by have := G.out; omega)
      subst hao
      have c1 := (hcell k G.out).1
      unfold S at c1
      clear hcell
      by_cases he : (ds[k]'G.out).1 = nm
      · have F : Hid (AtD ds nm (k : Int)) := .inl ⟨k, G.out, rfl, fnd_hit ds nm k G.out A.out he⟩
        rw [he] at c1
        clear he
        go_wp2_with fail
        go_ret
        exact ⟨(k : Int), rfl, F, rfl⟩
      · have A2 : Hid (∀ j (hj : j < ds.length), j < k + 1 → ¬ ds[j].1 = nm) := by
          intro j h hj
          by_cases hjk : j = k
          · subst hjk; exact he
          · exact A.out j h (by omega)
        have hne := ba_eql' _ _ he
        have hne2 : ((ds[k]'G.out).1 == nm) = false := by simpa using he
        clear he
        generalize (ds[k]'G.out).1 = p1 at c1 hne hne2
        go_wp2_with fail
        go_round
        case rel => exact ⟨k + 1, by omega, by go_num, A2⟩
        case measure => simp [intOf]; omega
    · have F : Hid (AtD ds nm (-1)) := .inr ⟨rfl, fnd_none ds nm (fun j hj => A.out j hj (by have := N.out; omega))⟩
      go_wp2_with fail
      go_ret
      exact ⟨-1, rfl, F, rfl⟩
set_option maxHeartbeats 1000000 in
theorem numberR (v : Value) (ds : List DV) (nm : List UInt8) (w : World) (hv : HoldsD w v ds) (hl : ds.length ≤ 1000000000000) (hm : ∀ d ∈ ds, d.2.1.length ≤ 4194304) :
    Calls Tryd.prog 53 #[v, .string ⟨nm.toArray⟩] w fun e w' => e = .returned (.int .i64 (numD ds nm)) ∧ w' = w := by
  have c := hide' (findR v ds nm w hv hl)
  obtain ⟨ao, ca, b, rfl, hc⟩ := hv
  have C := hide' hc
  have HM := hide' hm
  obtain ⟨n, en⟩ : ∃ n, n = ds.length := ⟨_, rfl⟩
  have N : Hid (ds.length = n) := en.symm
  rw [N.out] at hl c ⊢
  clear en hc hm
  go_enter Tryd.func53, Tryd.ntmps53
  go_wp2_with fail
  refine c.out.mono ?_
  rintro e w9 ⟨k, rfl, F, ew⟩
  rw [ew]
  clear ew w9 c
  rcases F.out with ⟨j, hj, rfl, hf⟩ | ⟨rfl, hf⟩
  · obtain ⟨hao, hblt, hcell⟩ := C.out (by omega)
    subst hao
    have c2 := (hcell j hj).2.1
    unfold S at c2
    have hjn : j < n := by rw [← N.out]; exact hj
    have hs := HM.out _ (List.getElem_mem hj)
    have hin := secs_in (ds[j]'hj).2.1
    have E : Hid (numD ds nm = max (secs (ds[j]'hj).2.1) 0) := by unfold Hid numD; rw [hf]; rfl
    have cS := hide' (fun W => secondsRef ⟨(ds[j]'hj).2.1.toArray⟩ W (by rw [size_l]; omega))
    simp only at cS
    generalize (ds[j]'hj).2.1 = p2 at c2 cS E hin hs
    generalize secs p2 = x at cS E hin
    clear hcell hf hj F C
    by_cases hx : x < 0
    · have E2 : Hid (numD ds nm = 0) := by unfold Hid; rw [E.out]; omega
      clear E
      go_wp2_with fail
      refine (cS.out _).mono ?_
      rintro e w9 ⟨rfl, ew⟩
      rw [ew]
      clear ew w9
      go_wp2_with fail
      go_ret
      exact ⟨by rw [E2.out]; rfl, rfl⟩
    · have E2 : Hid (numD ds nm = x) := by unfold Hid; rw [E.out]; omega
      clear E
      go_wp2_with fail
      refine (cS.out _).mono ?_
      rintro e w9 ⟨rfl, ew⟩
      rw [ew]
      clear ew w9
      go_wp2_with fail
      go_ret
      exact ⟨by rw [E2.out]; rfl, rfl⟩
  · have E : Hid (numD ds nm = -1) := by unfold Hid numD; rw [hf]; rfl
    clear hf F C
    go_wp2_with fail
    go_ret
    exact ⟨by rw [E.out]; rfl, rfl⟩
end Go.Proofs.YtlhhcpbfjjhbfaaDoor
