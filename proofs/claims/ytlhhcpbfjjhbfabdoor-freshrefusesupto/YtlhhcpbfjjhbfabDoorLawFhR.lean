/- The walk of FreshRefuses. -/
import Derived.Test.YtlhhcpbfjjhbfabDoorFhS
import Derived.Test.YtlhhcpbfjjhbfabDoorBr
import Derived.Deep.DeepCutAuto
namespace Go.Proofs.YtlhhcpbfjjhbfabDoor
open Go.RowKit
/-- a request and a response in blocks, and what lists of fields hold besides -/
def H2 (w W : World) (mt tg zr : List UInt8) (kq s k : Int) (aq ao : Option Addr) (nq cq n ca : Nat) (l : List (Value × FL)) : Prop := Below w.heap.size w W ∧ Blk w.heap.size W [.string ⟨mt.toArray⟩, .string ⟨tg.toArray⟩, .int .i64 kq, .slice aq nq cq] ∧ Blk (w.heap.size + 1) W [.int .i64 s, .string ⟨zr.toArray⟩, .int .i64 k, .slice ao n ca] ∧ ∀ p ∈ l, HoldsF W p.1 p.2
theorem h2_below {w W W' : World} {mt tg zr : List UInt8} {kq s k : Int} {aq ao : Option Addr} {nq cq n ca : Nat} {l : List (Value × FL)} (h : H2 w W mt tg zr kq s k aq ao nq cq n ca l) (hb : Below W.heap.size W W') : H2 w W' mt tg zr kq s k aq ao nq cq n ca l := ⟨bt' h.1 hb, cells_below h.2.1 hb, cells_below h.2.2.1 hb, fun p hp => holdsF_mono (h.2.2.2 p hp) hb⟩
theorem h2_drew {w W : World} {mt tg zr : List UInt8} {kq s k : Int} {aq ao : Option Addr} {nq cq n ca : Nat} {l : List (Value × FL)} (h : H2 w W mt tg zr kq s k aq ao nq cq n ca l) : H2 w W.drew mt tg zr kq s k aq ao nq cq n ca l := h2_below h (Below.refl _ _).drew
theorem h2_cells {w W : World} {q : Nat} {mt tg zr : List UInt8} {kq s k : Int} {aq ao : Option Addr} {nq cq n ca : Nat} {l : List (Value × FL)} (hq : q = w.heap.size) (h : H2 w W mt tg zr kq s k aq ao nq cq n ca l) : W.cell? ⟨q, 0, none⟩ = some (.string ⟨mt.toArray⟩) ∧ W.cell? ⟨q, 1, none⟩ = some (.string ⟨tg.toArray⟩) ∧ W.cell? ⟨q, 2, none⟩ = some (.int .i64 kq) ∧ W.cell? ⟨q, 3, none⟩ = some (.slice aq nq cq) ∧ W.cell? ⟨q + 1, 0, none⟩ = some (.int .i64 s) ∧ W.cell? ⟨q + 1, 1, none⟩ = some (.string ⟨zr.toArray⟩) ∧ W.cell? ⟨q + 1, 2, none⟩ = some (.int .i64 k) ∧ W.cell? ⟨q + 1, 3, none⟩ = some (.slice ao n ca) := by
  subst hq
  obtain ⟨h0, h1, h2, h3⟩ := four_open h.2.1
  obtain ⟨i0, i1, i2, i3⟩ := four_open h.2.2.1
  exact ⟨h0, h1, h2, h3, i0, i1, i2, i3⟩
theorem h2_lit (w : World) (mt tg zr : List UInt8) (kq s k : Int) (aq ao : Option Addr) (nq cq n ca : Nat) : H2 w ((w.alloc (.cells #[.string ⟨mt.toArray⟩, .string ⟨tg.toArray⟩, .int .i64 kq, .slice aq nq cq] 24)).alloc (.cells #[.int .i64 s, .string ⟨zr.toArray⟩, .int .i64 k, .slice ao n ca] 26)) mt tg zr kq s k aq ao nq cq n ca [] := by
  have b1 := below_alloc' w (.cells #[.string ⟨mt.toArray⟩, .string ⟨tg.toArray⟩, .int .i64 kq, .slice aq nq cq] 24)
  have b2 := below_alloc' (w.alloc (.cells #[.string ⟨mt.toArray⟩, .string ⟨tg.toArray⟩, .int .i64 kq, .slice aq nq cq] 24)) (.cells #[.int .i64 s, .string ⟨zr.toArray⟩, .int .i64 k, .slice ao n ca] 26)
  have c2 := cells_lit (w.alloc (.cells #[.string ⟨mt.toArray⟩, .string ⟨tg.toArray⟩, .int .i64 kq, .slice aq nq cq] 24)) #[.int .i64 s, .string ⟨zr.toArray⟩, .int .i64 k, .slice ao n ca] 26
  have z : (w.alloc (.cells #[.string ⟨mt.toArray⟩, .string ⟨tg.toArray⟩, .int .i64 kq, .slice aq nq cq] 24)).heap.size = w.heap.size + 1 := by simp
  rw [z] at c2
  exact ⟨bt' b1 b2, cells_below (cells_lit w #[.string ⟨mt.toArray⟩, .string ⟨tg.toArray⟩, .int .i64 kq, .slice aq nq cq] 24) b2, c2, fun p hp => by cases hp⟩
theorem nil_told : Told [] false false false false false false (-1) (-1) (-1) (-1) := ⟨rfl, by omega, by omega, by omega, by omega⟩
theorem nil_holds (w : World) : HoldsF w (.slice none 0 0) [] := ⟨none, 0, rfl, fun _ => rfl, Nat.le_refl _, fun h => absurd rfl h⟩
theorem sto_true {get ok cns dns prv hA op star hR part : Bool} (h : stoB get ok cns dns prv hA op star hR part = true) : get = true ∧ ok = true ∧ cns = false ∧ dns = false ∧ prv = false := by
  unfold stoB at h
  cases get <;> cases ok <;> cases cns <;> cases dns <;> cases prv <;> simp at h ⊢
theorem ok_st {s smx mx : Int} {hE : Bool} (h : okS s smx mx hE = true) : s ≠ 206 ∧ s ≠ 304 ∧ 200 ≤ s := by
  unfold okS negS at h
  simp at h
  omega
/-- the first line of both laws -/
theorem getOk (w : World) : Calls Tryd.prog 5 #[.agg #[.string ⟨getB.toArray⟩, .string ⟨#[]⟩, .int .i64 0, .slice none 0 0], .agg #[.int .i64 200, .string ⟨#[]⟩, .int .i64 0, .slice none 0 0]] w fun e w' => e = .returned (.bool true) ∧ Below w.heap.size w w' := by
  have c := storableFC getB ⟨#[]⟩ ⟨#[]⟩ 0 200 0 none none 0 0 0 0 [] [] false false false false false false (-1) (-1) (-1) (-1) false false false false false false (-1) (-1) (-1) (-1) w (nil_holds w) (nil_holds w) (by decide) (by decide) nil_told nil_told
  rw [show stoB (decide (getB = getB)) (okS 200 (-1) (-1) (hasN [] exb)) false false false (hasN [] aub) (false || (false || decide ((-1 : Int) ≠ -1))) (hasStar []) (hasN [] rab) (decide ((200 : Int) ≤ 200 ∧ (200 : Int) ≤ 299)) = true by decide] at c
  exact c
set_option maxRecDepth 20000 in
set_option maxHeartbeats 16000000 in
theorem refusesW (mt tg zr : List UInt8) (kq s k : Int) (lq lv : Value) (gs fs : FL) (w : World) (hg : HoldsF w lq gs) (hv : HoldsF w lv fs) (hbg : bulkF gs ≤ 1048576) (hb : bulkF fs ≤ 1048576) :
    Calls Tryd.prog 3 #[.agg #[.string ⟨mt.toArray⟩, .string ⟨tg.toArray⟩, .int .i64 kq, lq], .agg #[.int .i64 s, .string ⟨zr.toArray⟩, .int .i64 k, lv]] w fun e w' => e = .returned (.bool true) ∧ Below w.heap.size w w' := by
  have hnq : gs.length ≤ 2000000 := by have := bulkF_len gs; omega
  have hn : fs.length ≤ 2000000 := by have := bulkF_len fs; omega
  obtain ⟨aq, cq, _, _, eq, _⟩ := holdsF_parts hg
  obtain ⟨ao, ca, _, _, el, _⟩ := holdsF_parts hv
  subst eq el
  obtain ⟨b0, b1, b2, b3, b4, b5, n6, n7, n8, n9, TF⟩ := told_ex fs
  obtain ⟨c0, c1, c2, c3, c4, c5, m6, m7, m8, m9, TG⟩ := told_ex gs
  obtain ⟨q, hq⟩ : ∃ q, q = w.heap.size := ⟨_, rfl⟩
  have HQ := hide' hq
  have kQ := fun W (h : Below w.heap.size w W) => copyRq mt tg kq gs _ W (holdsF_mono hg h) hnq
  have kR := fun W (h : Below w.heap.size w W) => copyRs s k zr fs _ W (holdsF_mono hv h) hn
  have kS := fun aq2 cq2 ao2 ca2 W (h1 : HoldsF W (.slice aq2 gs.length cq2) gs) (h2 : HoldsF W (.slice ao2 fs.length ca2) fs) => storableFC mt ⟨tg.toArray⟩ ⟨zr.toArray⟩ kq s k aq2 ao2 gs.length cq2 fs.length ca2 gs fs c0 c1 c2 c3 c4 c5 m6 m7 m8 m9 b0 b1 b2 b3 b4 b5 n6 n7 n8 n9 W h1 h2 hbg hb TG TF
  have k1 := fun W (h : Below w.heap.size w W) => copyF _ gs W (holdsF_mono hg h) (by omega)
  have k2 := fun W (h : Below w.heap.size w W) => copyF _ fs W (holdsF_mono hv h) (by omega)
  have k3 := fun aq2 cq2 W (h : HoldsF W (.slice aq2 gs.length cq2) gs) => toldFC (.slice aq2 gs.length cq2) gs c0 c1 c2 c3 c4 c5 m6 m7 m8 m9 TG W h hbg
  have k4 := fun ao2 ca2 W (h : HoldsF W (.slice ao2 fs.length ca2) fs) => toldFC (.slice ao2 fs.length ca2) fs b0 b1 b2 b3 b4 b5 n6 n7 n8 n9 TF W h hb
  clear TF TG hg hv hbg hb hn hnq
  obtain ⟨sto, esto⟩ : ∃ sto, sto = stoB (decide (mt = getB)) (okS s n7 n6 (hasN fs exb)) c0 b0 b2 (hasN gs aub) (b3 || (b4 || decide (n7 ≠ -1))) (hasStar fs) (hasN gs rab) (decide (200 ≤ s ∧ s ≤ 299)) := ⟨_, rfl⟩
  rw [← esto] at kS
  have ST : Hid (sto = true → mt = getB ∧ (s ≠ 206 ∧ s ≠ 304 ∧ 200 ≤ s) ∧ c0 = false ∧ b0 = false ∧ b2 = false) := fun h => by
    rw [esto] at h
    obtain ⟨h1, h2, h3, h4, h5⟩ := sto_true h
    exact ⟨of_decide_eq_true h1, ok_st h2, h3, h4, h5⟩
  clear esto
  generalize hn1 : gs.length = nq at kQ kS k1 k3 ⊢
  generalize hn2 : fs.length = n at kR kS k2 k4 ⊢
  have N1 := hide' hn1
  have N2 := hide' hn2
  clear hn1 hn2
  have cQ : Hid (∀ l W, H2 w W mt tg zr kq s k aq ao nq cq n ca l → Calls Tryd.prog 6 #[.agg #[.string ⟨mt.toArray⟩, .string ⟨tg.toArray⟩, .int .i64 kq, .slice aq nq cq]] W fun e w' => ∃ aq2 cq2, e = .returned (.agg #[.string ⟨mt.toArray⟩, .string ⟨tg.toArray⟩, .int .i64 kq, .slice aq2 nq cq2]) ∧ Hid (H2 w w' mt tg zr kq s k aq ao nq cq n ca ((.slice aq2 nq cq2, gs) :: l)) ∧ w'.cell? ⟨q, 0, none⟩ = some (.string ⟨mt.toArray⟩) ∧ w'.cell? ⟨q, 1, none⟩ = some (.string ⟨tg.toArray⟩) ∧ w'.cell? ⟨q, 2, none⟩ = some (.int .i64 kq) ∧ w'.cell? ⟨q, 3, none⟩ = some (.slice aq nq cq) ∧ w'.cell? ⟨q + 1, 0, none⟩ = some (.int .i64 s) ∧ w'.cell? ⟨q + 1, 1, none⟩ = some (.string ⟨zr.toArray⟩) ∧ w'.cell? ⟨q + 1, 2, none⟩ = some (.int .i64 k) ∧ w'.cell? ⟨q + 1, 3, none⟩ = some (.slice ao n ca)) := fun l W h => (kQ W h.1).mono (fun e w' ⟨u, h1, h2⟩ => by
    obtain ⟨a2, x2, _, _, e2, _⟩ := holdsF_parts (holdsF_own h2)
    rw [N1.out] at e2
    have hx := holdsF_own h2
    rw [e2] at h1 hx
    have hh := h2_below h h2.2
    exact ⟨a2, x2, h1, ⟨hh.1, hh.2.1, hh.2.2.1, fun p hp => by rcases List.mem_cons.1 hp with rfl | hp; exact hx; exact hh.2.2.2 p hp⟩, h2_cells hq hh⟩)
  have cR : Hid (∀ l W, H2 w W mt tg zr kq s k aq ao nq cq n ca l → Calls Tryd.prog 7 #[.agg #[.int .i64 s, .string ⟨zr.toArray⟩, .int .i64 k, .slice ao n ca]] W fun e w' => ∃ ao2 ca2, e = .returned (.agg #[.int .i64 s, .string ⟨zr.toArray⟩, .int .i64 k, .slice ao2 n ca2]) ∧ Hid (H2 w w' mt tg zr kq s k aq ao nq cq n ca ((.slice ao2 n ca2, fs) :: l)) ∧ w'.cell? ⟨q, 0, none⟩ = some (.string ⟨mt.toArray⟩) ∧ w'.cell? ⟨q, 1, none⟩ = some (.string ⟨tg.toArray⟩) ∧ w'.cell? ⟨q, 2, none⟩ = some (.int .i64 kq) ∧ w'.cell? ⟨q, 3, none⟩ = some (.slice aq nq cq) ∧ w'.cell? ⟨q + 1, 0, none⟩ = some (.int .i64 s) ∧ w'.cell? ⟨q + 1, 1, none⟩ = some (.string ⟨zr.toArray⟩) ∧ w'.cell? ⟨q + 1, 2, none⟩ = some (.int .i64 k) ∧ w'.cell? ⟨q + 1, 3, none⟩ = some (.slice ao n ca)) := fun l W h => (kR W h.1).mono (fun e w' ⟨u, h1, h2⟩ => by
    obtain ⟨a2, x2, _, _, e2, _⟩ := holdsF_parts (holdsF_own h2)
    rw [N2.out] at e2
    have hx := holdsF_own h2
    rw [e2] at h1 hx
    have hh := h2_below h h2.2
    exact ⟨a2, x2, h1, ⟨hh.1, hh.2.1, hh.2.2.1, fun p hp => by rcases List.mem_cons.1 hp with rfl | hp; exact hx; exact hh.2.2.2 p hp⟩, h2_cells hq hh⟩)
  have cS : Hid (∀ aq2 cq2 ao2 ca2 l W, H2 w W mt tg zr kq s k aq ao nq cq n ca l → (Value.slice aq2 nq cq2, gs) ∈ l → (Value.slice ao2 n ca2, fs) ∈ l → Calls Tryd.prog 5 #[.agg #[.string ⟨mt.toArray⟩, .string ⟨tg.toArray⟩, .int .i64 kq, .slice aq2 nq cq2], .agg #[.int .i64 s, .string ⟨zr.toArray⟩, .int .i64 k, .slice ao2 n ca2]] W fun e w' => e = .returned (.bool sto) ∧ Hid (H2 w w' mt tg zr kq s k aq ao nq cq n ca []) ∧ w'.cell? ⟨q, 0, none⟩ = some (.string ⟨mt.toArray⟩) ∧ w'.cell? ⟨q, 1, none⟩ = some (.string ⟨tg.toArray⟩) ∧ w'.cell? ⟨q, 2, none⟩ = some (.int .i64 kq) ∧ w'.cell? ⟨q, 3, none⟩ = some (.slice aq nq cq) ∧ w'.cell? ⟨q + 1, 0, none⟩ = some (.int .i64 s) ∧ w'.cell? ⟨q + 1, 1, none⟩ = some (.string ⟨zr.toArray⟩) ∧ w'.cell? ⟨q + 1, 2, none⟩ = some (.int .i64 k) ∧ w'.cell? ⟨q + 1, 3, none⟩ = some (.slice ao n ca)) := fun aq2 cq2 ao2 ca2 l W h m1 m2 => (kS aq2 cq2 ao2 ca2 W (h.2.2.2 _ m1) (h.2.2.2 _ m2)).mono (fun e w' ⟨h1, h2⟩ => by
    have hh := h2_below h h2
    exact ⟨h1, ⟨hh.1, hh.2.1, hh.2.2.1, fun p hp => by cases hp⟩, h2_cells hq hh⟩)
  have cF : Hid (∀ W, H2 w W mt tg zr kq s k aq ao nq cq n ca [] → Calls Tryd.prog 9 #[.slice aq nq cq] W fun e w' => ∃ aq2 cq2, e = .returned (.slice aq2 nq cq2) ∧ Hid (H2 w w' mt tg zr kq s k aq ao nq cq n ca [(.slice aq2 nq cq2, gs)]) ∧ Below W.heap.size W w') := fun W h => (k1 W h.1).mono (fun e w' ⟨u, h1, h2⟩ => by
    obtain ⟨a2, x2, _, _, e2, _⟩ := holdsF_parts (holdsF_own h2)
    rw [N1.out] at e2
    have hx := holdsF_own h2
    rw [e2] at h1 hx
    have hh := h2_below h h2.2
    exact ⟨a2, x2, h1, ⟨hh.1, hh.2.1, hh.2.2.1, fun p hp => by rcases List.mem_cons.1 hp with rfl | hp; exact hx; cases hp⟩, h2.2⟩)
  have cE : Hid (∀ W, H2 w W mt tg zr kq s k aq ao nq cq n ca [] → Calls Tryd.prog 9 #[.slice ao n ca] W fun e w' => ∃ ao2 ca2, e = .returned (.slice ao2 n ca2) ∧ Hid (H2 w w' mt tg zr kq s k aq ao nq cq n ca [(.slice ao2 n ca2, fs)]) ∧ Below W.heap.size W w') := fun W h => (k2 W h.1).mono (fun e w' ⟨u, h1, h2⟩ => by
    obtain ⟨a2, x2, _, _, e2, _⟩ := holdsF_parts (holdsF_own h2)
    rw [N2.out] at e2
    have hx := holdsF_own h2
    rw [e2] at h1 hx
    have hh := h2_below h h2.2
    exact ⟨a2, x2, h1, ⟨hh.1, hh.2.1, hh.2.2.1, fun p hp => by rcases List.mem_cons.1 hp with rfl | hp; exact hx; cases hp⟩, h2.2⟩)
  have NN : Hid (∀ W l, H2 w W mt tg zr kq s k aq ao nq cq n ca l → H2 w W mt tg zr kq s k aq ao nq cq n ca []) := fun W l h => ⟨h.1, h.2.1, h.2.2.1, fun p hp => by cases hp⟩
  replace k3 := hide' k3
  replace k4 := hide' k4
  have O0 := hide' (h2_lit w mt tg zr kq s k aq ao nq cq n ca)
  have cO := hide' (fun W => getOk W)
  clear kQ kR kS k1 k2
  go_enter Tryd.func3, Tryd.ntmps3
  go_wp2_with fail
  refine (cO.out _).mono ?_
  rintro e w1 ⟨rfl, bw1⟩
  have O := hide' (h2_below O0.out bw1)
  clear bw1 O0 cO
  obtain ⟨ce0, ce1, ce2, ce3, ce4, ce5, ce6, ce7⟩ := h2_cells hq O.out
  have qz : q < w1.heap.size := by have := O.out.2.1.2; omega
  have qz1 : q + 1 < w1.heap.size := by have := O.out.2.2.1.2; omega
  go_upto_region 3 with fail
  rw [← hq]
  clear hq
  go_region_held3 (fun w' => w'.cell? ⟨q, 0, none⟩ = some (.string ⟨mt.toArray⟩) ∧ w'.cell? ⟨q, 1, none⟩ = some (.string ⟨tg.toArray⟩) ∧ w'.cell? ⟨q, 2, none⟩ = some (.int .i64 kq) ∧ w'.cell? ⟨q, 3, none⟩ = some (.slice aq nq cq) ∧ w'.cell? ⟨q + 1, 0, none⟩ = some (.int .i64 s) ∧ w'.cell? ⟨q + 1, 1, none⟩ = some (.string ⟨zr.toArray⟩) ∧ w'.cell? ⟨q + 1, 2, none⟩ = some (.int .i64 k) ∧ w'.cell? ⟨q + 1, 3, none⟩ = some (.slice ao n ca)) (go_keep)
    (first
      | (go_at_call 6; refine (cQ.out _ _ (by first | exact O.out | exact h2_drew O.out)).mono ?_; rintro e w8 ⟨aq2, cq2, rfl, O, ce0, ce1, ce2, ce3, ce4, ce5, ce6, ce7⟩)
      | (go_at_call 7; refine (cR.out _ _ (by first | exact O.out | exact h2_drew O.out)).mono ?_; rintro e w8 ⟨ao2, ca2, rfl, O, ce0, ce1, ce2, ce3, ce4, ce5, ce6, ce7⟩)
      | (go_at_call 5; refine (cS.out _ _ _ _ _ _ (by first | exact O.out | exact h2_drew O.out) (by simp) (by simp)).mono ?_; rintro e w9 ⟨rfl, O, ce0, ce1, ce2, ce3, ce4, ce5, ce6, ce7⟩))
  all_goals
    cases sto with
    | false =>
      go_wp2_with fail
      go_ret
      exact ⟨rfl, O.out.1⟩
    | true =>
    have Z := hide' (ST.out rfl)
    clear ST
    go_wp2_with fail
    refine (cF.out _ O.out).mono ?_
    rintro e wa ⟨aq3, cq3, rfl, OA, ba⟩
    go_wp2_with fail
    refine (k3.out _ _ _ (OA.out.2.2.2 (.slice aq3 nq cq3, gs) (by simp))).mono ?_
    rintro e wb ⟨rfl, bb⟩
    have OB := hide' (h2_below (NN.out _ _ OA.out) (bt' bb (below_alloc' wb (.cells #[.bool c0, .bool c1, .bool c2, .bool c3, .bool c4, .bool c5, .int .i64 m6, .int .i64 m7, .int .i64 m8, .int .i64 m9] 31))))
    have L1 := hide' (cells_lit wb #[.bool c0, .bool c1, .bool c2, .bool c3, .bool c4, .bool c5, .int .i64 m6, .int .i64 m7, .int .i64 m8, .int .i64 m9] 31)
    clear ba bb OA O ce0 ce1 ce2 ce3 ce4 ce5 ce6 ce7
    obtain ⟨ce0, ce1, ce2, ce3, ce4, ce5, ce6, ce7⟩ := h2_cells HQ.out OB.out
    go_wp2_with fail
    refine (cE.out _ OB.out).mono ?_
    rintro e wc ⟨ao3, ca3, rfl, OC, bc⟩
    replace L1 := hide' (cells_below L1.out bc)
    go_wp2_with fail
    refine (k4.out _ _ _ (OC.out.2.2.2 (.slice ao3 n ca3, fs) (by simp))).mono ?_
    rintro e wd ⟨rfl, bd⟩
    have OD := hide' (h2_below (NN.out _ _ OC.out) (bt' bd (below_alloc' wd (.cells #[.bool b0, .bool b1, .bool b2, .bool b3, .bool b4, .bool b5, .int .i64 n6, .int .i64 n7, .int .i64 n8, .int .i64 n9] 31))))
    have L2 := hide' (cells_below L1.out (bt' bd (below_alloc' wd (.cells #[.bool b0, .bool b1, .bool b2, .bool b3, .bool b4, .bool b5, .int .i64 n6, .int .i64 n7, .int .i64 n8, .int .i64 n9] 31))))
    clear bc bd OC OB L1 ce0 ce1 ce2 ce3 ce4 ce5 ce6 ce7
    obtain ⟨ce0, ce1, ce2, ce3, ce4, ce5, ce6, ce7⟩ := h2_cells HQ.out OD.out
    obtain ⟨l0, l1, l2, l3, l4, l5, l6, l7, l8, l9⟩ := (cells10K L2.out).1
    obtain ⟨hm, ⟨s1, s2, s3⟩, z0, z1, z2⟩ := Z.out
    clear Z
    subst hm z0 z1 z2
    go_wp2_with fail
    go_ret
    exact ⟨by simp [s1, s2], OD.out.1⟩
end Go.Proofs.YtlhhcpbfjjhbfabDoor
