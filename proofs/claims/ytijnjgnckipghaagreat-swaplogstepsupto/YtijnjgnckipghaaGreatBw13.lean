/- Steps handed over as function values: the contract of inTurn, whatever the steps are. A log in memory: its block beside its disk; the small functions and closures of the log: each makes one step of the disk. -/
import Derived.Test.YtijnjgnckipghaaGreatBw1
import Derived.Shelf.Abstract
import Derived.Deep.SlicePairs
import Derived.Test.YtijnjgnckipghaaGreatBw12
import Derived.Test.YtijnjgnckipghaaGreatBw7
import Derived.Test.YtijnjgnckipghaaGreatBw6
namespace Go.Proofs.YtijnjgnckipghaaGreat
open Go.RowKit Go.Shelf
/-- steps one behind the other, up to the first error -/
def runT {σ : Type} : List (σ → σ × Int) → σ → σ × Int
  | [], s => (s, 0)
  | g :: r, s => if (g s).2 = 0 then runT r (g s).1 else g s
theorem runT_nil {σ : Type} (s : σ) : runT ([] : List (σ → σ × Int)) s = (s, 0) := rfl
theorem runT_ok {σ : Type} {g : σ → σ × Int} {r : List (σ → σ × Int)} {s : σ} (h : (g s).2 = 0) : runT (g :: r) s = runT r (g s).1 := by show (if (g s).2 = 0 then runT r (g s).1 else g s) = _; rw [if_pos h]
theorem runT_bad {σ : Type} {g : σ → σ × Int} {r : List (σ → σ × Int)} {s : σ} (h : (g s).2 ≠ 0) : runT (g :: r) s = g s := by show (if (g s).2 = 0 then runT r (g s).1 else g s) = _; rw [if_neg h]
/-- how many steps were begun -/
def cntT {σ : Type} : List (σ → σ × Int) → σ → Nat
  | [], _ => 0
  | g :: r, s => if (g s).2 = 0 then 1 + cntT r (g s).1 else 1
/-- a function value that is a step: called in a world of I i it leads to one of I (i + 1) -/
def StepV {σ : Type} (I : Nat → σ → World → Prop) (i : Nat) (v : Value) (g : σ → σ × Int) : Prop :=
  ∃ (k : Nat) (fi ca : Array Value), v = .func (.func k) fi ca ∧ (∀ args w, (callFunc k args).run Tryz.prog w = .ok (.enter k args) w) ∧
    ∀ s w, I i s w → Calls Tryz.prog k (fi ++ ca) w fun e w' => e = .returned (.int .i64 (g s).2) ∧ I (i + 1) (g s).1 w'
set_option maxRecDepth 20000 in
set_option maxHeartbeats 1000000 in
theorem inTurnC {σ : Type} (I : Nat → σ → World → Prop) (b n : Nat) (fs : List Value) (gs : List (σ → σ × Int)) (hf : fs.length = n) (hg : gs.length = n) (hn : n ≤ 1000)
    (hst : ∀ i (h1 : i < fs.length) (h2 : i < gs.length), StepV I i fs[i] gs[i])
    (hc : ∀ i s w, I i s w → ∀ j (h : j < fs.length), w.cell? ⟨b, j, none⟩ = some fs[j]) (s0 : σ) (w : World) (h0 : I 0 s0 w) :
    Calls Tryz.prog 26 #[.slice (some ⟨b, 0, none⟩) n n] w fun e w' => e = .returned (.int .i64 (runT gs s0).2) ∧ ∃ i, i ≤ n ∧ I i (runT gs s0).1 w' := by
  have HS := hide' hst
  have HC := hide' hc
  have HF := hide' hf
  have HG := hide' hg
  clear hst hc hf hg
  go_enter Tryz.func26, Tryz.ntmps26
  go_wp2_with fail
  go_loopw [8] (fun i wr => ∃ (k : Nat) (s : σ), k ≤ n ∧ i = .int .i64 k ∧ Hid (I k s wr) ∧ Hid (runT gs s0 = runT (gs.drop k) s)) (fun i _ => n - (intOf i).toNat)
  case atStart => exact ⟨0, s0, by omega, rfl, h0, rfl⟩
  case round =>
    obtain ⟨k, s, hk, rfl, hI, hR⟩ := hrel
    by_cases hlt : k < n
    · have l1 : k < fs.length := by rw [HF.out]; exact hlt
      have l2 : k < gs.length := by rw [HG.out]; exact hlt
      obtain ⟨q, fi, ca, ev, eg, hcall⟩ := HS.out k l1 l2
      have c := HC.out k s wr hI.out k l1
      rw [ev] at c
      have R2 : Hid (gs.drop k = gs[k] :: gs.drop (k + 1)) := List.drop_eq_getElem_cons l2
      obtain ⟨G, hG⟩ : ∃ G, G = gs[k] := ⟨_, rfl⟩
      rw [← hG] at hcall R2
      have CC := hide' (hcall s wr hI.out)
      clear hcall ev hG l1 l2
      by_cases hz : (G s).2 = 0
      · have R3 : Hid (runT gs s0 = runT (gs.drop (k + 1)) (G s).1) := by unfold Hid; rw [hR.out, R2.out, runT_ok hz]
        have HZ := hide' hz
        clear hz
        go_wp2_with fail
        refine CC.out.mono ?_
        rintro e w1 ⟨rfl, h1⟩
        have H1 := hide' h1
        clear h1
        rw [HZ.out]
        go_wp2_with fail
        go_roundw
        case rel => exact ⟨k + 1, _, by omega, by go_num, H1, R3⟩
        case measure => simp [intOf]; omega
      · have R3 : Hid (runT gs s0 = G s) := by unfold Hid; rw [hR.out, R2.out, runT_bad hz]
        obtain ⟨y, hy⟩ : ∃ y, y = (G s).2 := ⟨_, rfl⟩
        have hy0 : decide (y = 0) = false := by rw [decide_eq_false_iff_not, hy]; exact hz
        have hy2 : ¬ y = 0 := by rw [hy]; exact hz
        have HY := hide' hy
        clear hz hy
        go_wp2_with fail
        refine CC.out.mono ?_
        rintro e w1 ⟨rfl, h1⟩
        have H1 := hide' h1
        clear h1
        rw [← HY.out]
        go_wp2_with fail
        refine bodyPost_ret (results_tmp rfl _ _ _) rfl ?_
        rw [R3.out]
        exact ⟨congrArg (fun z => Ending.returned (Value.int .i64 z)) HY.out, k + 1, by omega, H1.out⟩
    · obtain rfl : k = n := by omega
      have R3 : Hid (runT gs s0 = (s, 0)) := by unfold Hid; rw [hR.out, List.drop_eq_nil_of_le (by rw [HG.out]; omega)]; rfl
      go_wp2_with fail
      go_ret
      rw [R3.out]
      exact ⟨rfl, k, by omega, hI.out⟩
end Go.Proofs.YtijnjgnckipghaaGreat
namespace Go.Proofs.YtijnjgnckipghaaGreat
open Go.RowKit
abbrev LSt := Dk × Int
def lgN : Nm := [108, 111, 103]
def nwN : Nm := [108, 111, 103, 46, 110, 101, 119]
abbrev lgB : ByteArray := ⟨#[108, 111, 103]⟩
abbrev nwBa : ByteArray := ⟨#[108, 111, 103, 46, 110, 101, 119]⟩
/-- one step of the disk, as a step of the log -/
def opT (op : DOp) (st : LSt) : LSt × Int := (((st.1.step op).1, st.2), (st.1.step op).2)
def setT (c : Int) (st : LSt) : LSt × Int := ((st.1, c), 0)
abbrev lptr (b : Nat) : Value := .pointer (some ⟨b, 0, none⟩)
/-- a log at block lb over the disk at block g -/
structure LogS (o : Ow) (g lb : Nat) (s : Dk) (c : Int) (W : World) : Prop where
  dsk : Dsk o g s W
  blk : Blk lb W [lptr g, .int .i64 c]
  no : o lb = none
structure GrowL (lb : Nat) (o : Ow) (W : World) (o' : Ow) (W' : World) : Prop where
  off : Off (fun k => o.has k ∨ k = lb) W W'
  le : o.le o'
  new : ∀ k, o'.has k → o.has k ∨ W.heap.size ≤ k
theorem GrowL.refl (lb : Nat) (o : Ow) (W : World) : GrowL lb o W o W := ⟨Off.refl _ _, fun _ _ e => e, fun _ h => .inl h⟩
theorem GrowL.trans {lb : Nat} {o o' o'' : Ow} {A B C : World} (h : GrowL lb o A o' B) (k : GrowL lb o' B o'' C) : GrowL lb o A o'' C :=
  ⟨h.off.trans k.off (fun i hi => by
    rcases hi with hi | hi
    · rcases h.new i hi with h1 | h1
      · exact .inl (.inl h1)
      · exact .inr h1
    · exact .inl (.inr hi)), fun i r e => k.le i r (h.le i r e), fun i hi => by
    rcases k.new i hi with h1 | h1
    · exact h.new i h1
    · exact .inr (Nat.le_trans h.off.size h1)⟩
theorem growL_of {lb : Nat} {o o' : Ow} {W W' : World} (h : Grow o W o' W') : GrowL lb o W o' W' := ⟨h.off.mono (fun _ e => .inl e), h.le, h.new⟩
theorem growL_below {lb : Nat} {o : Ow} {W W' : World} (h : Below W.heap.size W W') : GrowL lb o W o W' := growL_of (grow_below h)
theorem blk_below {b : Nat} {W W' : World} {vs : List Value} (h : Blk b W vs) (hb : Below W.heap.size W W') : Blk b W' vs :=
  ⟨fun j hj => ⟨(hb.cell (p := ⟨b, j, none⟩) h.2).trans (h.1 j hj).1, by rw [World.frozen?_of_block (w := W) (a := ⟨b, j, none⟩) (hb.block b h.2)]; exact (h.1 j hj).2⟩, Nat.lt_of_lt_of_le h.2 hb.size⟩
theorem blk_offL {W W' : World} {b : Nat} {vs : List Value} {S : Nat → Prop} (h : Blk b W vs) (ho : Off S W W') (hn : ¬ S b) : Blk b W' vs := by
  have e := ho.block b h.2 hn
  exact ⟨fun j hj => ⟨by rw [World.cell?_of_block (w := W) (a := ⟨b, j, none⟩) e]; exact (h.1 j hj).1, by rw [World.frozen?_of_block (w := W) (a := ⟨b, j, none⟩) e]; exact (h.1 j hj).2⟩, Nat.lt_of_lt_of_le h.2 ho.size⟩
theorem logS_below {o : Ow} {g lb : Nat} {s : Dk} {c : Int} {W W' : World} (h : LogS o g lb s c W) (hb : Below W.heap.size W W') : LogS o g lb s c W' := ⟨dsk_below h.dsk hb, blk_below h.blk hb, h.no⟩
theorem logS_cells {o : Ow} {g lb : Nat} {s : Dk} {c : Int} {W : World} (h : LogS o g lb s c W) : W.cell? ⟨lb, 0, none⟩ = some (lptr g) ∧ W.cell? ⟨lb, 1, none⟩ = some (.int .i64 c) ∧ W.frozen? ⟨lb, 1, none⟩ = false :=
  ⟨(h.blk.1 0 (by simp)).1, (h.blk.1 1 (by simp)).1, (h.blk.1 1 (by simp)).2⟩
def LPost (o : Ow) (g lb : Nat) (q : LSt × Int) (W : World) (e : Ending) (W' : World) : Prop := e = .returned (.int .i64 q.2) ∧ ∃ o', LogS o' g lb q.1.1 q.1.2 W' ∧ GrowL lb o W o' W'
theorem lpost_step {o : Ow} {g lb : Nat} {s : Dk} {c : Int} {op : DOp} {W W' : World} {e : Ending} (h : LogS o g lb s c W) (hs : StepPost o g s op W e W') : LPost o g lb (opT op (s, c)) W e W' := by
  obtain ⟨he, o', hd, hg⟩ := hs
  refine ⟨he, o', ⟨hd, blk_offL h.blk hg.off (fun hh => hh h.no), ?_⟩, growL_of hg⟩
  cases e2 : o' lb with
  | none => rfl
  | some r =>
    rcases hg.new lb (by unfold Ow.has; rw [e2]; simp) with h1 | h1
    · exact absurd h.no h1
    · have := h.blk.2; omega
theorem lpost_from {o o1 : Ow} {g lb : Nat} {q : LSt × Int} {W W1 W' : World} {e : Ending} (hg : GrowL lb o W o1 W1) (h : LPost o1 g lb q W1 e W') : LPost o g lb q W e W' := by
  obtain ⟨he, o', hl, hg'⟩ := h
  exact ⟨he, o', hl, hg.trans hg'⟩
/-- a block that a closure has captured: it lies aside from the log and its disk -/
def Cap (o : Ow) (lb b : Nat) (v : Value) (W : World) : Prop := Blk b W [v] ∧ o b = none ∧ b ≠ lb
theorem cap_cell {o : Ow} {lb b : Nat} {v : Value} {W : World} (h : Cap o lb b v W) : W.cell? ⟨b, 0, none⟩ = some v := (h.1.1 0 (by simp)).1
theorem cap_grow {o o' : Ow} {lb b : Nat} {v : Value} {W W' : World} (h : Cap o lb b v W) (hg : GrowL lb o W o' W') : Cap o' lb b v W' := by
  refine ⟨blk_offL h.1 hg.off (fun hh => ?_), ?_, h.2.2⟩
  · rcases hh with hh | hh
    · exact hh h.2.1
    · exact h.2.2 hh
  · cases e2 : o' b with
    | none => rfl
    | some r =>
      rcases hg.new b (by unfold Ow.has; rw [e2]; simp) with h1 | h1
      · exact absurd h.2.1 h1
      · have := h.1.2; omega
/-- bytes that a step is handed: they lie aside from the disk -/
def Byt (o : Ow) (lb : Nat) (v : Value) (bs : List UInt8) (W : World) : Prop := HoldsB W v bs ∧ ∀ ad n c, v = .slice (some ad) n c → o ad.block = none ∧ ad.block ≠ lb ∧ ad.block < W.heap.size
theorem byt_grow {o o' : Ow} {lb : Nat} {v : Value} {bs : List UInt8} {W W' : World} (h : Byt o lb v bs W) (hg : GrowL lb o W o' W') : Byt o' lb v bs W' := by
  refine ⟨holdsB_off h.1 hg.off (fun ad n c e hh => ?_), fun ad n c e => ?_⟩
  · obtain ⟨h1, h2, _⟩ := h.2 ad n c e
    rcases hh with hh | hh
    · exact hh h1
    · exact h2 hh
  · obtain ⟨h1, h2, h3⟩ := h.2 ad n c e
    refine ⟨?_, h2, Nat.lt_of_lt_of_le h3 hg.off.size⟩
    cases e2 : o' ad.block with
    | none => rfl
    | some r =>
      rcases hg.new ad.block (by unfold Ow.has; rw [e2]; simp) with h4 | h4
      · exact absurd h1 h4
      · omega
set_option maxRecDepth 20000
set_option maxHeartbeats 1000000
theorem syncF {o : Ow} {g lb : Nat} {s : Dk} {c : Int} {W : World} (h : LogS o g lb s c W) (hB : Bd 90000000 s) :
    Calls Tryz.prog 51 #[lptr lb] W fun e W' => LPost o g lb (opT ⟨3, lgN, [], []⟩ (s, c)) W e W' := by
  have C := hide' (syncC h.dsk lgB [] [] (by decide) (bd_mono hB (by decide)))
  have H := hide' h
  obtain ⟨c0, _, _⟩ := logS_cells h
  clear h hB
  go_enter Tryz.func51, Tryz.ntmps51
  go_wp2_with fail
  refine C.out.mono ?_
  intro e w1 sp
  have P := hide' (lpost_step H.out sp)
  obtain ⟨rfl, _⟩ := sp
  go_wp2_with fail
  go_ret
  exact P.out
theorem beginF1 {o : Ow} {g lb bl : Nat} {s : Dk} {c : Int} {W : World} (h : LogS o g lb s c W) (hc : Cap o lb bl (lptr lb) W) (hB : Bd 90000000 s) :
    Calls Tryz.prog 92 #[lptr bl] W fun e W' => LPost o g lb (opT ⟨1, lgN, [], []⟩ (s, c)) W e W' := by
  have C := hide' (createC h.dsk lgB [] [] (by decide) (bd_mono hB (by decide)))
  have H := hide' h
  obtain ⟨c0, _, _⟩ := logS_cells h
  have k0 := cap_cell hc
  clear h hB hc
  go_enter Tryz.func92, Tryz.ntmps92
  go_wp2_with fail
  refine C.out.mono ?_
  intro e w1 sp
  have P := hide' (lpost_step H.out sp)
  obtain ⟨rfl, _⟩ := sp
  go_wp2_with fail
  go_ret
  exact P.out
theorem rewriteF1 {o : Ow} {g lb bl : Nat} {s : Dk} {c : Int} {W : World} (h : LogS o g lb s c W) (hc : Cap o lb bl (lptr lb) W) (hB : Bd 90000000 s) :
    Calls Tryz.prog 42 #[lptr bl] W fun e W' => LPost o g lb (opT ⟨1, nwN, [], []⟩ (s, c)) W e W' := by
  have C := hide' (createC h.dsk nwBa [] [] (by decide) (bd_mono hB (by decide)))
  have H := hide' h
  obtain ⟨c0, _, _⟩ := logS_cells h
  have k0 := cap_cell hc
  clear h hB hc
  go_enter Tryz.func42, Tryz.ntmps42
  go_wp2_with fail
  refine C.out.mono ?_
  intro e w1 sp
  have P := hide' (lpost_step H.out sp)
  obtain ⟨rfl, _⟩ := sp
  go_wp2_with fail
  go_ret
  exact P.out
theorem replaceF2 {o : Ow} {g lb bl : Nat} {s : Dk} {c : Int} {W : World} (h : LogS o g lb s c W) (hc : Cap o lb bl (lptr lb) W) (hB : Bd 90000000 s) :
    Calls Tryz.prog 78 #[lptr bl] W fun e W' => LPost o g lb (opT ⟨3, nwN, [], []⟩ (s, c)) W e W' := by
  have C := hide' (syncC h.dsk nwBa [] [] (by decide) (bd_mono hB (by decide)))
  have H := hide' h
  obtain ⟨c0, _, _⟩ := logS_cells h
  have k0 := cap_cell hc
  clear h hB hc
  go_enter Tryz.func78, Tryz.ntmps78
  go_wp2_with fail
  refine C.out.mono ?_
  intro e w1 sp
  have P := hide' (lpost_step H.out sp)
  obtain ⟨rfl, _⟩ := sp
  go_wp2_with fail
  go_ret
  exact P.out
theorem replaceF3 {o : Ow} {g lb bl : Nat} {s : Dk} {c : Int} {W : World} (h : LogS o g lb s c W) (hc : Cap o lb bl (lptr lb) W) (hB : Bd 90000000 s) :
    Calls Tryz.prog 80 #[lptr bl] W fun e W' => LPost o g lb (opT ⟨5, nwN, lgN, []⟩ (s, c)) W e W' := by
  have C := hide' (renameC h.dsk nwBa lgB [] (by decide) (by decide) (bd_mono hB (by decide)))
  have H := hide' h
  obtain ⟨c0, _, _⟩ := logS_cells h
  have k0 := cap_cell hc
  clear h hB hc
  go_enter Tryz.func80, Tryz.ntmps80
  go_wp2_with fail
  refine C.out.mono ?_
  intro e w1 sp
  have P := hide' (lpost_step H.out sp)
  obtain ⟨rfl, _⟩ := sp
  go_wp2_with fail
  go_ret
  exact P.out
theorem appendL {o : Ow} {g lb bl bb : Nat} {s : Dk} {c : Int} {W : World} (h : LogS o g lb s c W) (nm : ByteArray) (hn : nm.size ≤ 100) {dv : Value} {d : List UInt8} (hc : Cap o lb bl (lptr lb) W) (hc2 : Cap o lb bb dv W) (hd : Byt o lb dv d W) (hl : d.length ≤ 1000000000) (hB : Bd 90000000 s) :
    ∀ w', Below W.heap.size W w' → Calls Tryz.prog 50 #[lptr g, .string nm, dv] w' fun e W' => LPost o g lb (opT ⟨2, nm.data.toList, [], d⟩ (s, c)) W e W' ∧ W'.cell? ⟨bl, 0, none⟩ = some (lptr lb) ∧ W'.cell? ⟨lb, 0, none⟩ = some (lptr g) ∧ W'.cell? ⟨bb, 0, none⟩ = some dv := by
  intro w' hb
  have h2 := logS_below h hb
  refine (appendC h2.dsk nm [] dv d (by omega) (bd_mono hB (by decide)) (holdsB_mono hd.1 hb) hl (fun ad n c e => (hd.2 ad n c e).1)).mono ?_
  intro e W' sp
  have P := lpost_from (growL_below hb) (lpost_step h2 sp)
  obtain ⟨_, o', hl', hg'⟩ := id P
  exact ⟨P, cap_cell (cap_grow hc hg'), (logS_cells hl').1, cap_cell (cap_grow hc2 hg')⟩
theorem addF1 {o : Ow} {g lb bl bb : Nat} {s : Dk} {c : Int} {W : World} (h : LogS o g lb s c W) (hc : Cap o lb bl (lptr lb) W) {da : Option Addr} {dl dc : Nat} {d : List UInt8} (hc2 : Cap o lb bb (.slice da dl dc) W) (hd : Byt o lb (.slice da dl dc) d W) (hl : d.length ≤ 1000000000) (hB : Bd 90000000 s) :
    Calls Tryz.prog 49 #[lptr bl, lptr bb] W fun e W' => LPost o g lb (opT ⟨2, lgN, [], d⟩ (s, c)) W e W' := by
  have C := hide' (appendL h lgB (by decide) hc hc2 hd hl hB)
  obtain ⟨c0, _, _⟩ := logS_cells h
  have k0 := cap_cell hc
  have k1 := cap_cell hc2
  clear h hB hc hc2 hd
  go_enter Tryz.func49, Tryz.ntmps49
  go_wp2_with fail
  go_region_held3 (fun w' => w'.cell? ⟨bl, 0, none⟩ = some (lptr lb) ∧ w'.cell? ⟨lb, 0, none⟩ = some (lptr g) ∧ w'.cell? ⟨bb, 0, none⟩ = some (.slice da dl dc)) (go_keep)
    (first | (go_at_call 50; refine (C.out _ ?_).mono ?_; (first | exact (Below.refl _ _).drew | exact Below.refl _ _); rintro e w2 ⟨P, j0, j1, j2⟩; have PP := hide' P; obtain ⟨rfl, _⟩ := P))
  all_goals
    go_wp2_with fail
    go_ret
    exact PP.out
theorem replaceF1 {o : Ow} {g lb bl bb : Nat} {s : Dk} {c : Int} {W : World} (h : LogS o g lb s c W) (hc : Cap o lb bl (lptr lb) W) {da : Option Addr} {dl dc : Nat} {d : List UInt8} (hc2 : Cap o lb bb (.slice da dl dc) W) (hd : Byt o lb (.slice da dl dc) d W) (hl : d.length ≤ 1000000000) (hB : Bd 90000000 s) :
    Calls Tryz.prog 77 #[lptr bl, lptr bb] W fun e W' => LPost o g lb (opT ⟨2, nwN, [], d⟩ (s, c)) W e W' := by
  have C := hide' (appendL h nwBa (by decide) hc hc2 hd hl hB)
  obtain ⟨c0, _, _⟩ := logS_cells h
  have k0 := cap_cell hc
  have k1 := cap_cell hc2
  clear h hB hc hc2 hd
  go_enter Tryz.func77, Tryz.ntmps77
  go_wp2_with fail
  go_region_held3 (fun w' => w'.cell? ⟨bl, 0, none⟩ = some (lptr lb) ∧ w'.cell? ⟨lb, 0, none⟩ = some (lptr g) ∧ w'.cell? ⟨bb, 0, none⟩ = some (.slice da dl dc)) (go_keep)
    (first | (go_at_call 50; refine (C.out _ ?_).mono ?_; (first | exact (Below.refl _ _).drew | exact Below.refl _ _); rintro e w2 ⟨P, j0, j1, j2⟩; have PP := hide' P; obtain ⟨rfl, _⟩ := P))
  all_goals
    go_wp2_with fail
    go_ret
    exact PP.out
theorem logS_set {o : Ow} {g lb : Nat} {s : Dk} {c : Int} {W : World} (h : LogS o g lb s c W) (c' : Int) : LogS o g lb s c' (W.setCell ⟨lb, 1, none⟩ (.int .i64 c')) ∧ GrowL lb o W o (W.setCell ⟨lb, 1, none⟩ (.int .i64 c')) := by
  have hoff : Off (fun k => o.has k ∨ k = lb) W (W.setCell ⟨lb, 1, none⟩ (.int .i64 c')) := off_poke (S := fun k => o.has k ∨ k = lb) ⟨lb, 1, none⟩ (.inr rfl) _
  have hoff2 : Off (fun k => k = lb) W (W.setCell ⟨lb, 1, none⟩ (.int .i64 c')) := off_poke (S := fun k => k = lb) ⟨lb, 1, none⟩ rfl _
  obtain ⟨k0, k1, k2⟩ := logS_cells h
  refine ⟨⟨dsk_off h.dsk hoff2 (fun k hk => by rw [hk]; exact h.no), ⟨fun j hj => ?_, ?_⟩, h.no⟩, ⟨hoff, fun _ _ e => e, fun _ hh => .inl hh⟩⟩
  · match j, hj with
    | 0, _ =>
      have f0 := (h.blk.1 0 (by simp)).2
      exact ⟨by rw [World.cell?_setCell_other _ _ _ _ (by simp)]; exact k0, by rw [World.frozen?_setCell]; exact f0⟩
    | 1, _ => exact ⟨World.cell?_setCell_same' _ _ _ (by rw [k1]; rfl), by rw [World.frozen?_setCell]; exact k2⟩
  · exact Nat.lt_of_lt_of_le h.blk.2 hoff.size
theorem countF1 {o : Ow} {g lb bc bl : Nat} {s : Dk} {c c' : Int} {W : World} (h : LogS o g lb s c W) (hc : Cap o lb bc (.int .i64 c') W) (hl : Cap o lb bl (lptr lb) W) :
    Calls Tryz.prog 82 #[lptr bc, lptr bl] W fun e W' => LPost o g lb (setT c' (s, c)) W e W' := by
  have P := hide' (logS_set h c')
  obtain ⟨c0, c1, c2⟩ := logS_cells h
  have k0 := cap_cell hc
  have k1 := cap_cell hl
  clear h hc hl
  go_enter Tryz.func82, Tryz.ntmps82
  go_wp2_with fail
  go_ret
  exact ⟨rfl, o, P.out.1, P.out.2⟩
theorem countF (lb : Nat) (c : Int) (W : World) :
    Calls Tryz.prog 46 #[lptr lb, .int .i64 c] W fun e W' => e = .returned (.func (.func 82) #[] #[lptr (W.heap.size + 1), lptr W.heap.size]) ∧ W' = (W.alloc (.cells #[lptr lb] 41)).alloc (.cells #[.int .i64 c] 3) := by
  go_enter Tryz.func46, Tryz.ntmps46
  go_wp2_with fail
  go_ret
  exact ⟨rfl, rfl⟩
theorem countL {o : Ow} {g lb : Nat} {s : Dk} {c : Int} {W : World} (h : LogS o g lb s c W) :
    Calls Tryz.prog 17 #[lptr lb] W fun e W' => e = .returned (.int .i64 c) ∧ W' = W := by
  obtain ⟨c0, c1, c2⟩ := logS_cells h
  clear h
  go_enter Tryz.func17, Tryz.ntmps17
  go_wp2_with fail
  go_ret
  exact ⟨rfl, rfl⟩
end Go.Proofs.YtijnjgnckipghaaGreat
