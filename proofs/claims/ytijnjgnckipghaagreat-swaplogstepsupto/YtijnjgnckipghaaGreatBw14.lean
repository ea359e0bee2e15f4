/- The log's functions that go through steps: begin, replace, Add, Rewrite. The log's functions that go through steps: replace, encoded. The contracts of encoded, Add, Rewrite. -/
import Derived.Test.YtijnjgnckipghaaGreatBw13
import Derived.Test.YtijnjgnckipghaaGreatBw8
import Derived.Test.YtijnjgnckipghaaGreatRcO
import Derived.Test.YtijnjgnckipghaaGreatBw4
namespace Go.Proofs.YtijnjgnckipghaaGreat
open Go.RowKit Go.Shelf
/-- between two steps: i of them have been made since W -/
def InL (o : Ow) (g lb : Nat) (W : World) (m K i : Nat) (st : LSt) (w : World) : Prop := ∃ o', LogS o' g lb st.1 st.2 w ∧ GrowL lb o W o' w ∧ Bd (m + i * K) st.1
theorem stepV_of {o : Ow} {g lb m K i k : Nat} {W : World} {fi ca : Array Value} {f : LSt → LSt × Int} (eg : ∀ args w, (callFunc k args).run Tryz.prog w = .ok (.enter k args) w)
    (h : ∀ o' st w, LogS o' g lb st.1 st.2 w → GrowL lb o W o' w → Bd (m + i * K) st.1 → Calls Tryz.prog k (fi ++ ca) w fun e w' => LPost o' g lb (f st) w e w')
    (hb : ∀ st, Bd (m + i * K) st.1 → Bd (m + (i + 1) * K) (f st).1.1) : StepV (InL o g lb W m K) i (.func (.func k) fi ca) f := by
  refine ⟨k, fi, ca, rfl, eg, ?_⟩
  rintro st w ⟨o', hl, hg, hbd⟩
  refine (h o' st w hl hg hbd).mono ?_
  rintro e w' ⟨he, o2, hl2, hg2⟩
  exact ⟨he, o2, hl2, hg.trans hg2, hb st hbd⟩
theorem bd_op {m i K : Nat} (op : DOp) (hK : 2 + op.data.length ≤ K) (st : LSt) (h : Bd (m + i * K) st.1) : Bd (m + (i + 1) * K) (opT op st).1.1 :=
  bd_mono (bd_step h op) (by rw [Nat.add_mul, Nat.one_mul]; omega)
theorem bd_set {m i K : Nat} (c : Int) (st : LSt) (h : Bd (m + i * K) st.1) : Bd (m + (i + 1) * K) (setT c st).1.1 := bd_mono h (by rw [Nat.add_mul]; omega)
theorem turnL {o : Ow} {g lb : Nat} {s : Dk} {c : Int} {W : World} (h : LogS o g lb s c W) (b n m K : Nat) (fs : List Value) (gs : List (LSt → LSt × Int)) (hf : fs.length = n) (hg : gs.length = n) (hn : n ≤ 1000)
    (hcell : ∀ j (hj : j < fs.length), W.cell? ⟨b, j, none⟩ = some fs[j]) (hb : b < W.heap.size) (ho : o b = none) (hne : b ≠ lb) (hB : Bd m s)
    (hst : ∀ i (h1 : i < fs.length) (h2 : i < gs.length), StepV (InL o g lb W m K) i fs[i] gs[i]) :
    Calls Tryz.prog 26 #[.slice (some ⟨b, 0, none⟩) n n] W fun e W' => LPost o g lb (runT gs (s, c)) W e W' ∧ Bd (m + n * K) (runT gs (s, c)).1.1 := by
  refine (inTurnC (InL o g lb W m K) b n fs gs hf hg hn hst ?_ (s, c) W ⟨o, h, GrowL.refl _ _ _, by rw [Nat.zero_mul]; exact hB⟩).mono ?_
  · rintro i st w ⟨o', hl, hgr, _⟩ j hj
    rw [World.cell?_of_block (w := W) (a := ⟨b, j, none⟩) (hgr.off.block b hb (fun hh => by
      rcases hh with hh | hh
      · exact hh ho
      · exact hne hh))]
    exact hcell j hj
  · rintro e w' ⟨he, i, hi, o', hl, hgr, hbd⟩
    exact ⟨⟨he, o', hl, hgr⟩, bd_mono hbd (by have := Nat.mul_le_mul_right K hi; omega)⟩
theorem bel_a (w : World) (x : Obj) : Below w.heap.size w (w.alloc x) := below_alloc' w x
theorem bel_da (w : World) (x : Obj) : Below w.heap.size w (w.drew.alloc x) := ((Below.refl _ w).drew).alloc (Nat.le_refl _) _
theorem bel_ad (w : World) (x : Obj) : Below w.heap.size w (w.alloc x).drew := (below_alloc' w x).drew
/-- a block that is made becomes a captured one -/
theorem cap_new {o : Ow} {g lb : Nat} {s : Dk} {c : Int} {W : World} (h : LogS o g lb s c W) (v : Value) (t : TypeId) : Cap o lb W.heap.size v (W.alloc (.cells #[v] t)) :=
  ⟨by simpa using cells_lit W #[v] t, none_of_lt (dsk_lt h.dsk) (Nat.le_refl _), by have := h.blk.2; omega⟩
theorem cap_below {o : Ow} {lb b : Nat} {v : Value} {W W' : World} (h : Cap o lb b v W) (hb : Below W.heap.size W W') : Cap o lb b v W' := ⟨blk_below h.1 hb, h.2.1, h.2.2⟩
theorem byt_below {o : Ow} {lb : Nat} {v : Value} {bs : List UInt8} {W W' : World} (h : Byt o lb v bs W) (hb : Below W.heap.size W W') : Byt o lb v bs W' :=
  ⟨holdsB_mono h.1 hb, fun ad n c e => by obtain ⟨h1, h2, h3⟩ := h.2 ad n c e; exact ⟨h1, h2, Nat.lt_of_lt_of_le h3 hb.size⟩⟩
set_option maxRecDepth 20000
set_option maxHeartbeats 1000000
def beginT : LSt → LSt × Int := runT [opT ⟨1, lgN, [], []⟩, opT ⟨3, lgN, [], []⟩, opT ⟨4, [], [], []⟩]
theorem syncNamesL {o : Ow} {g lb : Nat} {s : Dk} {c : Int} {W : World} (h : LogS o g lb s c W) (hB : Bd 90000000 s) :
    Calls Tryz.prog 47 #[lptr g] W fun e W' => LPost o g lb (opT ⟨4, [], [], []⟩ (s, c)) W e W' := by
  refine (syncNamesC h.dsk [] [] [] hB).mono ?_
  intro e W' sp
  exact lpost_step h sp
theorem beginC0 {o : Ow} {g lb : Nat} {s : Dk} {c : Int} {W : World} (h : LogS o g lb s c W) (m : Nat) (hm : m ≤ 80000000) (hB : Bd m s) :
    Calls Tryz.prog 58 #[lptr lb] W fun e W' => LPost o g lb (beginT (s, c)) W e W' ∧ Bd (m + 6) (beginT (s, c)).1.1 := by
  have b1 := bel_a W (.cells #[lptr lb] 41)
  have h1 := logS_below h b1
  have k1 := cap_new h (lptr lb) 41
  obtain ⟨c0, _, _⟩ := logS_cells h1
  have kc := cap_cell k1
  have C : Hid (∀ w' b, Below (W.alloc (.cells #[lptr lb] 41)).heap.size (W.alloc (.cells #[lptr lb] 41)) w' → (W.alloc (.cells #[lptr lb] 41)).heap.size ≤ b → b < w'.heap.size →
      w'.cell? ⟨b, 0, none⟩ = some (.func (.func 92) #[] #[lptr W.heap.size]) → w'.cell? ⟨b, 1, none⟩ = some (.func (.func 51) #[lptr lb] #[]) → w'.cell? ⟨b, 2, none⟩ = some (.func (.func 47) #[lptr g] #[]) →
      Calls Tryz.prog 26 #[.slice (some ⟨b, 0, none⟩) 3 3] w' fun e W' => (LPost o g lb (beginT (s, c)) W e W' ∧ Bd (m + 6) (beginT (s, c)).1.1) ∧ W'.cell? ⟨W.heap.size, 0, none⟩ = some (lptr lb) ∧ W'.cell? ⟨lb, 0, none⟩ = some (lptr g)) := by
    intro w' b hb hbl hbs e0 e1 e2
    have h2 := logS_below h1 hb
    have k2 := cap_below k1 hb
    refine (turnL h2 b 3 m 2 [.func (.func 92) #[] #[lptr W.heap.size], .func (.func 51) #[lptr lb] #[], .func (.func 47) #[lptr g] #[]] [opT ⟨1, lgN, [], []⟩, opT ⟨3, lgN, [], []⟩, opT ⟨4, [], [], []⟩] rfl rfl (by decide) (fun j hj => ?_) hbs (none_of_lt (dsk_lt h1.dsk) hbl) (by have := h1.blk.2; omega) hB (fun i i1 i2 => ?_)).mono ?_
    · match j, hj with
      | 0, _ => exact e0
      | 1, _ => exact e1
      | 2, _ => exact e2
    · match i, i1 with
      | 0, _ => exact stepV_of (enters_of Tryz.func92 (by kernel_rfl) rfl) (fun o' st w hl hg hb => beginF1 hl (cap_grow k2 hg) (bd_mono hb (by omega))) (bd_op _ (by decide))
      | 1, _ => exact stepV_of (enters_of Tryz.func51 (by kernel_rfl) rfl) (fun o' st w hl hg hb => syncF hl (bd_mono hb (by omega))) (bd_op _ (by decide))
      | 2, _ => exact stepV_of (enters_of Tryz.func47 (by kernel_rfl) rfl) (fun o' st w hl hg hb => syncNamesL hl (bd_mono hb (by omega))) (bd_op _ (by decide))
    · rintro e W' ⟨P, hbd⟩
      obtain ⟨_, o', hl', hg'⟩ := id P
      exact ⟨⟨lpost_from (growL_below (b1.trans (hb.mono b1.size))) P, hbd⟩, cap_cell (cap_grow k2 hg'), (logS_cells hl').1⟩
  clear h h1 k1 b1 hB hm
  go_enter Tryz.func58, Tryz.ntmps58
  go_wp2_with fail
  go_region_held3 (fun w' => w'.cell? ⟨W.heap.size, 0, none⟩ = some (lptr lb) ∧ w'.cell? ⟨lb, 0, none⟩ = some (lptr g)) (go_keep)
    (first | (go_at_call 26; refine (C.out _ _ ?_ ?_ ?_ ?_ ?_ ?_).mono ?_; (first | exact bel_a _ _ | exact bel_da _ _ | exact bel_ad _ _); simp; simp; simp; simp; simp; rintro e w2 ⟨P, j0, j1⟩; have PP := hide' P; obtain ⟨⟨rfl, _⟩, _⟩ := P))
  all_goals
    go_wp2_with fail
    go_ret
    exact PP.out
end Go.Proofs.YtijnjgnckipghaaGreat
namespace Go.Proofs.YtijnjgnckipghaaGreat
open Go.RowKit Go.Shelf
set_option maxRecDepth 20000
set_option maxHeartbeats 1000000
def fillT (b : List UInt8) : LSt → LSt × Int := runT [opT ⟨2, nwN, [], b⟩, opT ⟨3, nwN, [], []⟩, opT ⟨5, nwN, lgN, []⟩]
def remT (q : LSt × Int) : LSt × Int := (((q.1.1.step ⟨6, nwN, [], []⟩).1, q.1.2), q.2)
def replT (b : List UInt8) (st : LSt) : LSt × Int := if (fillT b st).2 = 0 then fillT b st else remT (fillT b st)
theorem lpost_rem {o : Ow} {g lb : Nat} {q : LSt × Int} {W W1 : World} {e : Ending} (h : LPost o g lb q W e W1) (hB : Bd 900000000 q.1.1) :
    Calls Tryz.prog 61 #[lptr g, .string nwBa] W1 fun e' W' => e' = .returned (.int .i64 (q.1.1.step ⟨6, nwN, [], []⟩).2) ∧ ∃ o', LogS o' g lb (remT q).1.1 (remT q).1.2 W' ∧ GrowL lb o W o' W' := by
  obtain ⟨he, o1, hl, hg⟩ := h
  refine (removeC hl.dsk nwBa [] [] (by decide) hB).mono ?_
  intro e' W' sp
  obtain ⟨x, o', hl', hg'⟩ := lpost_step hl sp
  exact ⟨x, o', hl', hg.trans hg'⟩
theorem replaceC {o : Ow} {g lb : Nat} {s : Dk} {c : Int} {W : World} (h : LogS o g lb s c W) (m : Nat) (hB : Bd m s) {da : Option Addr} {dl dc : Nat} {d : List UInt8} (hd : Byt o lb (.slice da dl dc) d W) (hl : m + 3 * (2 + d.length) ≤ 80000000) :
    Calls Tryz.prog 45 #[lptr lb, .slice da dl dc] W fun e W' => LPost o g lb (replT d (s, c)) W e W' ∧ Bd (m + 3 * (2 + d.length) + 2) (replT d (s, c)).1.1 := by
  have b1 := bel_a W (.cells #[lptr lb] 41)
  have b2 := bel_a (W.alloc (.cells #[lptr lb] 41)) (.cells #[.slice da dl dc] 67)
  have h1 := logS_below h b1
  have k1 := cap_below (cap_new h (lptr lb) 41) b2
  have k2 := cap_new h1 (.slice da dl dc) 67
  have h3 := logS_below h1 b2
  have b3 := b1.trans (b2.mono b1.size)
  have hd3 := byt_below hd b3
  rw [World.size_alloc] at k2
  obtain ⟨c0, _, _⟩ := logS_cells h3
  have kc := cap_cell k1
  have kd := cap_cell k2
  obtain ⟨W3, hW3⟩ : ∃ W3, W3 = (W.alloc (.cells #[lptr lb] 41)).alloc (.cells #[.slice da dl dc] 67) := ⟨_, rfl⟩
  have z3 : W3.heap.size = W.heap.size + 1 + 1 := by rw [hW3]; simp
  rw [← hW3] at k1 k2 h3 b3 hd3
  have C : Hid (Calls Tryz.prog 26 #[.slice (some ⟨W3.heap.size, 0, none⟩) 3 3] (W3.alloc (.cells #[.func (.func 77) #[] #[lptr W.heap.size, lptr (W.heap.size + 1)], .func (.func 78) #[] #[lptr W.heap.size], .func (.func 80) #[] #[lptr W.heap.size]] 77)) fun e W' =>
      (LPost o g lb (fillT d (s, c)) W e W' ∧ Bd (m + 3 * (2 + d.length)) (fillT d (s, c)).1.1) ∧ W'.cell? ⟨W.heap.size, 0, none⟩ = some (lptr lb) ∧ W'.cell? ⟨lb, 0, none⟩ = some (lptr g)) := by
    have b4 := bel_a W3 (.cells #[.func (.func 77) #[] #[lptr W.heap.size, lptr (W.heap.size + 1)], .func (.func 78) #[] #[lptr W.heap.size], .func (.func 80) #[] #[lptr W.heap.size]] 77)
    have h4 := logS_below h3 b4
    have q1 := cap_below k1 b4
    have q2 := cap_below k2 b4
    have q3 := byt_below hd3 b4
    refine (turnL h4 W3.heap.size 3 m (2 + d.length) [.func (.func 77) #[] #[lptr W.heap.size, lptr (W.heap.size + 1)], .func (.func 78) #[] #[lptr W.heap.size], .func (.func 80) #[] #[lptr W.heap.size]] [opT ⟨2, nwN, [], d⟩, opT ⟨3, nwN, [], []⟩, opT ⟨5, nwN, lgN, []⟩] rfl rfl (by decide) (fun j hj => ?_) (by simp) (none_of_lt (dsk_lt h3.dsk) (Nat.le_refl _)) (by have := h3.blk.2; omega) hB (fun i i1 i2 => ?_)).mono ?_
    · match j, hj with
      | 0, _ => simp
      | 1, _ => simp
      | 2, _ => simp
    · match i, i1 with
      | 0, _ => exact stepV_of (enters_of Tryz.func77 (by kernel_rfl) rfl) (fun o' st w hl' hg hb => replaceF1 hl' (cap_grow q1 hg) (cap_grow q2 hg) (byt_grow q3 hg) (by omega) (bd_mono hb (by omega))) (bd_op _ (Nat.le_refl _))
      | 1, _ => exact stepV_of (enters_of Tryz.func78 (by kernel_rfl) rfl) (fun o' st w hl' hg hb => replaceF2 hl' (cap_grow q1 hg) (bd_mono hb (by omega))) (bd_op _ (by show 2 + 0 ≤ _; omega))
      | 2, _ => exact stepV_of (enters_of Tryz.func80 (by kernel_rfl) rfl) (fun o' st w hl' hg hb => replaceF3 hl' (cap_grow q1 hg) (bd_mono hb (by omega))) (bd_op _ (by show 2 + 0 ≤ _; omega))
    · rintro e W' ⟨P, hbd⟩
      obtain ⟨_, o', hl', hg'⟩ := id P
      exact ⟨⟨lpost_from (growL_below (b3.trans (b4.mono b3.size))) P, hbd⟩, cap_cell (cap_grow q1 hg'), (logS_cells hl').1⟩
  rw [hW3, World.size_alloc, World.size_alloc] at C
  have HL := hide' hl
  clear h h1 h3 k1 k2 b1 b2 b3 hB hl hd hd3 hW3 z3 W3
  by_cases hz : (fillT d (s, c)).2 = 0
  · have R : Hid (replT d (s, c) = fillT d (s, c)) := by unfold Hid replT; rw [if_pos hz]
    go_enter Tryz.func45, Tryz.ntmps45
    go_wp2_with fail
    refine C.out.mono ?_
    rintro e w1 ⟨P, _, _⟩
    have PP := hide' P
    obtain ⟨⟨rfl, _⟩, _⟩ := P
    go_wp2_with fail
    go_ret
    rw [R.out]
    exact ⟨by have := PP.out.1; rw [hz] at this; exact this, bd_mono PP.out.2 (by omega)⟩
  · have R : Hid (replT d (s, c) = remT (fillT d (s, c))) := by unfold Hid replT; rw [if_neg hz]
    obtain ⟨y, hy⟩ : ∃ y, y = (fillT d (s, c)).2 := ⟨_, rfl⟩
    have hy0 : decide (y = 0) = false := by rw [decide_eq_false_iff_not, hy]; exact hz
    have hy2 : ¬ y = 0 := by rw [hy]; exact hz
    have HY := hide' hy
    clear hz hy
    go_enter Tryz.func45, Tryz.ntmps45
    go_wp2_with fail
    refine C.out.mono ?_
    rintro e w1 ⟨P, j0, j1⟩
    have PP := hide' P
    obtain ⟨⟨rfl, _⟩, _⟩ := P
    rw [← HY.out]
    have CR := hide' (lpost_rem PP.out.1 (bd_mono PP.out.2 (by have := HL.out; omega)))
    go_wp2_with fail
    refine CR.out.mono ?_
    rintro e w2 ⟨rfl, o', hl', hg'⟩
    have H1 := hide' hl'
    have H2 := hide' hg'
    clear hl' hg'
    go_wp2_with fail
    go_ret
    rw [R.out]
    refine ⟨⟨?_, o', H1.out, H2.out⟩, bd_step PP.out.2 ⟨6, nwN, [], []⟩⟩
    exact congrArg (fun z => Ending.returned (Value.int .i64 z)) HY.out
theorem rewriteF2 {o : Ow} {g lb bl bb : Nat} {s : Dk} {c : Int} {W : World} (h : LogS o g lb s c W) (hc : Cap o lb bl (lptr lb) W) (m : Nat) (hB : Bd m s) {da : Option Addr} {dl dc : Nat} {d : List UInt8} (hc2 : Cap o lb bb (.slice da dl dc) W) (hd : Byt o lb (.slice da dl dc) d W) (hl : m + 3 * (2 + d.length) ≤ 80000000) :
    Calls Tryz.prog 44 #[lptr bl, lptr bb] W fun e W' => LPost o g lb (replT d (s, c)) W e W' := by
  have C := hide' (replaceC h m hB hd hl)
  have k0 := cap_cell hc
  have k1 := cap_cell hc2
  clear h hB hc hc2 hd
  go_enter Tryz.func44, Tryz.ntmps44
  go_wp2_with fail
  refine C.out.mono ?_
  rintro e w1 ⟨P, _⟩
  have PP := hide' P
  obtain ⟨rfl, _⟩ := P
  go_wp2_with fail
  go_ret
  exact PP.out
/-- the bytes of a list of records, numbered from i on; the first error -/
def encG : Nat → RL → List UInt8 × Int
  | _, [] => ([], 0)
  | i, r :: rs => if (encOf i r.2.1 r.2.2.1 r.2.2.2).2 = 0 then (if (encG (i + 1) rs).2 = 0 then ((encOf i r.2.1 r.2.2.1 r.2.2.2).1 ++ (encG (i + 1) rs).1, 0) else ([], (encG (i + 1) rs).2)) else ([], (encOf i r.2.1 r.2.2.1 r.2.2.2).2)
/-- what is answered where 'a' has been written and 'q' is what is still to come -/
def encH (a : List UInt8) (q : List UInt8 × Int) : List UInt8 × Int := if q.2 = 0 then (a ++ q.1, 0) else ([], q.2)
theorem encH_nil (q : List UInt8 × Int) (h : q.2 ≠ 0 → q.1 = []) : encH [] q = q := by
  unfold encH
  split
  · rename_i h0; rw [List.nil_append, ← h0]
  · rename_i h0; rw [← h h0]
theorem encG_bad : ∀ (rs : RL) (i : Nat), (encG i rs).2 ≠ 0 → (encG i rs).1 = [] := by
  intro rs
  induction rs with
  | nil => intro i h; rfl
  | cons r rs ih =>
    intro i h
    unfold encG at h ⊢
    split
    · rename_i h1
      rw [if_pos h1] at h
      split
      · rename_i h2; rw [if_pos h2] at h; exact absurd rfl h
      · rfl
    · rfl
theorem encH_ok {a : List UInt8} {i : Nat} {r : Rc} {rs : RL} (h : (encOf i r.2.1 r.2.2.1 r.2.2.2).2 = 0) : encH a (encG i (r :: rs)) = encH (a ++ (encOf i r.2.1 r.2.2.1 r.2.2.2).1) (encG (i + 1) rs) := by
  show encH a (if _ then _ else _) = _
  rw [if_pos h]
  unfold encH
  split
  · rename_i h2; rw [if_pos rfl, List.append_assoc]
  · rfl
theorem encH_bad {a : List UInt8} {i : Nat} {r : Rc} {rs : RL} (h : (encOf i r.2.1 r.2.2.1 r.2.2.2).2 ≠ 0) : encH a (encG i (r :: rs)) = ([], (encOf i r.2.1 r.2.2.1 r.2.2.2).2) := by
  show encH a (if _ then _ else _) = _
  rw [if_neg h]
  unfold encH
  rw [if_neg h]
theorem enc_len (seq op no : Int) (id : List UInt8) : (encOf seq op no id).1.length ≤ 15 + id.length := by
  unfold encOf
  split
  · split
    · show (recL _ _ _ _).length ≤ _; rw [recL_len]; omega
    · exact Nat.zero_le _
  · exact Nat.zero_le _
/-- how long a list of records is at most, written -/
def bulkR : RL → Nat
  | [] => 0
  | r :: rs => 15 + r.2.2.2.length + bulkR rs
theorem bulkR_drop (rs : RL) (k : Nat) (h : k < rs.length) : bulkR (rs.drop k) = 15 + rs[k].2.2.2.length + bulkR (rs.drop (k + 1)) := by rw [List.drop_eq_getElem_cons h]; rfl
theorem encH_len (rs : RL) : ∀ (i : Nat) (a : List UInt8), (encH a (encG i rs)).1.length ≤ a.length + bulkR rs := by
  induction rs with
  | nil => intro i a; show (encH a ([], 0)).1.length ≤ _; unfold encH; rw [if_pos rfl]; simp [bulkR]
  | cons r rs ih =>
    intro i a
    by_cases h : (encOf i r.2.1 r.2.2.1 r.2.2.2).2 = 0
    · rw [encH_ok h]
      have h1 := ih (i + 1) (a ++ (encOf i r.2.1 r.2.2.1 r.2.2.2).1)
      have h2 := enc_len i r.2.1 r.2.2.1 r.2.2.2
      rw [List.length_append] at h1
      show _ ≤ a.length + (15 + r.2.2.2.length + bulkR rs)
      omega
    · rw [encH_bad h]; exact Nat.zero_le _
end Go.Proofs.YtijnjgnckipghaaGreat
namespace Go.Proofs.YtijnjgnckipghaaGreat
open Go.RowKit Go.Shelf
set_option maxRecDepth 20000
theorem own_sl {w0 w : World} {v : Value} {bs : List UInt8} (h : Own w0 v bs w) : ∃ a n c, v = .slice a n c := by
  obtain ⟨a, c, e⟩ := row_sl h.1
  exact ⟨a, _, c, e⟩
theorem holdsR_parts {w : World} {v : Value} {ps : RL} (h : HoldsR w v ps) : ∃ ao cap b off, v = .slice ao ps.length cap ∧ (0 < ps.length → ao = some ⟨b, off, none⟩ ∧ b < w.heap.size ∧ ∀ j (h : j < ps.length), RcAt w b (off + j * 4) ps[j]) := by
  obtain ⟨ao, cap, rfl, _, _, hc⟩ := h
  by_cases he : ps = []
  · subst he; exact ⟨ao, cap, 0, 0, rfl, fun h => absurd h (by simp)⟩
  · obtain ⟨b, off, h1, h2, h3⟩ := hc he
    exact ⟨ao, cap, b, off, rfl, fun _ => ⟨h1, h2, h3⟩⟩
set_option maxHeartbeats 2000000 in
theorem encodedC (lv : Value) (rs : RL) (w : World) (h : HoldsR w lv rs) (hl : bulkR rs ≤ 70000000) :
    Calls Tryz.prog 41 #[lv] w fun e w' => ∃ u, e = .returned (.tuple #[u, .int .i64 (encG 0 rs).2]) ∧ Own w u (encG 0 rs).1 w' := by
  obtain ⟨ao, cap, b, off, rfl, hc⟩ := holdsR_parts h
  have HC := hide' hc
  obtain ⟨n, hn⟩ : ∃ n, n = rs.length := ⟨_, rfl⟩
  have N : Hid (rs.length = n) := hn.symm
  have hnl : n * 15 ≤ bulkR rs := by
    rw [hn]
    clear hn N HC hc h hl
    induction rs with
    | nil => simp
    | cons r rs ih => simp only [List.length_cons, bulkR]; omega
  rw [N.out]
  have HL := hide' hl
  have hn2 : n ≤ 70000000 := by omega
  clear h hc hn hl hnl
  go_enter Tryz.func41, Tryz.ntmps41
  go_wp2_with fail
  go_loopw [4, 11] (fun v i wr => ∃ (k : Nat) (acc : List UInt8), k ≤ n ∧ i = .int .i64 k ∧ Hid (Own w v acc wr) ∧ Hid (encG 0 rs = encH acc (encG k (rs.drop k))) ∧ Hid (acc.length + bulkR (rs.drop k) ≤ bulkR rs)) (fun _ i _ => n - (intOf i).toNat)
  case atStart => exact ⟨0, [], by omega, rfl, own_nil w w (Below.refl _ _), by unfold Hid; rw [List.drop_zero, encH_nil _ (encG_bad _ _)], by unfold Hid; simp⟩
  case round =>
    obtain ⟨k, acc, hk, rfl, HO, HE, HB⟩ := hrel
    by_cases hlt : k < n
    · have G : k < rs.length := by rw [N.out]; exact hlt
      obtain ⟨hao, hblt, hcell⟩ := HC.out (by rw [N.out]; omega)
      subst hao
      obtain ⟨c0, c1, c2, c3⟩ := hcell k G
      have e0 := HO.out.2
      replace c0 := (e0.cell (p := ⟨b, off + k * 4, none⟩) hblt).trans c0
      replace c1 := (e0.cell (p := ⟨b, off + k * 4 + 1, none⟩) hblt).trans c1
      replace c2 := (e0.cell (p := ⟨b, off + k * 4 + 2, none⟩) hblt).trans c2
      replace c3 := (e0.cell (p := ⟨b, off + k * 4 + 3, none⟩) hblt).trans c3
      have D : Hid (rs.drop k = rs[k] :: rs.drop (k + 1)) := List.drop_eq_getElem_cons G
      have BD := hide' (bulkR_drop rs k G)
      obtain ⟨r, hr⟩ : ∃ r, r = rs[k] := ⟨_, rfl⟩
      rw [← hr] at c0 c1 c2 c3 D BD
      obtain ⟨q0, q1, q2, q3⟩ := r
      dsimp only at c0 c1 c2 c3
      unfold S at c3
      clear hr hcell e0 hblt
      have hz0 : wr.heap.size ≤ (wr.alloc (.cells #[.int .i64 (k : Int), .int .i64 q1, .int .i64 q2, .string ⟨q3.toArray⟩] 53)).heap.size := by simp
      have CE := hide' (encC (k : Int) q1 q2 q3 (wr.alloc (.cells #[.int .i64 (k : Int), .int .i64 q1, .int .i64 q2, .string ⟨q3.toArray⟩] 53)) (by have h1 := BD.out; have h2 := HB.out; have h3 := HL.out; (try dsimp only at h1); omega))
      unfold recV at CE
      have B0 := hide' (bel_a wr (.cells #[.int .i64 (k : Int), .int .i64 q1, .int .i64 q2, .string ⟨q3.toArray⟩] 53))
      clear hz0
      by_cases hz : (encOf (k : Int) q1 q2 q3).2 = 0
      · have HE2 : Hid (encG 0 rs = encH (acc ++ (encOf (k : Int) q1 q2 q3).1) (encG (k + 1) (rs.drop (k + 1)))) := by
          unfold Hid; rw [HE.out, D.out]; exact encH_ok (r := (q0, q1, q2, q3)) hz
        have LN := hide' (enc_len (k : Int) q1 q2 q3)
        have HZ := hide' hz
        clear hz
        go_wp2_with fail
        refine CE.out.mono ?_
        rintro e w1 ⟨u, rfl, hu⟩
        rw [HZ.out]
        have HU := hide' hu
        have HO1 := hide' (own_mono HO.out (B0.out.trans (hu.2.mono B0.out.size)))
        clear hu
        go_wp2_with (at_builtin; refine appAllB rfl (.tmp 26) (.tmp 27) rfl w _ acc rfl HO1.out _ _ rfl (holdsB_own HU.out) (by have h1 := BD.out; have h2 := HB.out; have h3 := HL.out; have h4 := LN.out; (try dsimp only at h1); omega) ?_; intro v2 w2 ho2; have HO2 := hide' ho2; clear ho2)
        go_roundw
        case rel => exact ⟨k + 1, _, by omega, by go_num, HO2, HE2, by unfold Hid; have h1 := BD.out; have h2 := HB.out; have h4 := LN.out; (try dsimp only at h1); rw [List.length_append]; omega⟩
        case measure => simp [intOf]; omega
      · have HE2 : Hid (encG 0 rs = ([], (encOf (k : Int) q1 q2 q3).2)) := by
          unfold Hid; rw [HE.out, D.out]; exact encH_bad (r := (q0, q1, q2, q3)) hz
        obtain ⟨y, hy⟩ : ∃ y, y = (encOf (k : Int) q1 q2 q3).2 := ⟨_, rfl⟩
        have hy0 : decide (y = 0) = false := by rw [decide_eq_false_iff_not, hy]; exact hz
        have hy2 : ¬ y = 0 := by rw [hy]; exact hz
        rw [← hy] at CE HE2
        clear hz hy
        go_wp2_with fail
        refine CE.out.mono ?_
        rintro e w1 ⟨u, rfl, hu⟩
        have HB1 := hide' (HO.out.2.trans ((B0.out.trans (hu.2.mono B0.out.size)).mono HO.out.2.size))
        clear hu
        go_wp2_with fail
        go_ret2
        rw [HE2.out]
        exact ⟨_, rfl, own_nil w _ HB1.out⟩
    · obtain rfl : k = n := by omega
      have HE2 : Hid (encG 0 rs = (acc, 0)) := by
        unfold Hid; rw [HE.out, List.drop_eq_nil_of_le (by rw [N.out]; omega)]; show encH acc ([], 0) = _; unfold encH; rw [if_pos rfl, List.append_nil]
      go_wp2_with fail
      go_ret2
      rw [HE2.out]
      exact ⟨_, rfl, HO.out⟩
end Go.Proofs.YtijnjgnckipghaaGreat
