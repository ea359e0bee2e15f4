/- The walk of FreshStorables. -/
import Derived.Test.YtlhhcpbfjjhbfaaDoorLawFhR
import Derived.Test.YtlhhcpbfjjhbfaaDoorFhRa
import Derived.Test.YtlhhcpbfjjhbfaaDoorFhRb
import Derived.Test.YtlhhcpbfjjhbfaaDoorFhRc
namespace Go.Proofs.YtlhhcpbfjjhbfaaDoor
open Go.RowKit
theorem storableRC (mt : List UInt8) (T R : ByteArray) (kq s k : Int) (aq ao : Option Addr) (nq cq n ca : Nat) (gs fs : FL) (c0 c1 c2 c3 c4 c5 : Bool) (m6 m7 m8 m9 : Int) (b0 b1 b2 b3 b4 b5 : Bool) (n6 n7 n8 n9 : Int) (w : World) (hs : -9223372036854775808 ≤ s ∧ s ≤ 9223372036854775807) (hg : HoldsF w (.slice aq nq cq) gs) (hv : HoldsF w (.slice ao n ca) fs) (hbg : bulkF gs ≤ 1048576) (hb : bulkF fs ≤ 1048576) (TG : Told gs c0 c1 c2 c3 c4 c5 m6 m7 m8 m9) (TF : Told fs b0 b1 b2 b3 b4 b5 n6 n7 n8 n9) :
    Calls Tryd.prog 10 #[.agg #[.string ⟨mt.toArray⟩, .string T, .int .i64 kq, .slice aq nq cq], .agg #[.int .i64 s, .string R, .int .i64 k, .slice ao n ca]] w fun e w' => e = .returned (.bool (stoB (decide (mt = getB)) (okS s n7 n6 (hasN fs exb)) c0 b0 b2 (hasN gs aub) (b3 || (b4 || decide (n7 ≠ -1))) (hasStar fs) (hasN gs rab) (decide (200 ≤ s ∧ s ≤ 299)))) ∧ Below w.heap.size w w' := by
  by_cases h7 : n7 = -1
  · by_cases h6 : n6 = -1
    · exact storableRc mt T R kq s k aq ao nq cq n ca gs fs c0 c1 c2 c3 c4 c5 m6 m7 m8 m9 b0 b1 b2 b3 b4 b5 n6 n7 n8 n9 w h7 h6 hs hg hv hbg hb TG TF
    · exact storableRb mt T R kq s k aq ao nq cq n ca gs fs c0 c1 c2 c3 c4 c5 m6 m7 m8 m9 b0 b1 b2 b3 b4 b5 n6 n7 n8 n9 w h7 h6 hs hg hv hbg hb TG TF
  · exact storableRa mt T R kq s k aq ao nq cq n ca gs fs c0 c1 c2 c3 c4 c5 m6 m7 m8 m9 b0 b1 b2 b3 b4 b5 n6 n7 n8 n9 w h7 hs hg hv hbg hb TG TF
/-- a request, a response and their copies in blocks -/
def U4 (w : World) (za zb : Nat) (W : World) (mt tg zr : List UInt8) (kq s k : Int) (aq ao : Option Addr) (nq cq n ca : Nat) (gs fs : FL) (aq2 ao2 : Option Addr) (cq2 ca2 : Nat) : Prop := Below w.heap.size w W ∧ Blk w.heap.size W [.string ⟨mt.toArray⟩, .string ⟨tg.toArray⟩, .int .i64 kq, .slice aq nq cq] ∧ Blk (w.heap.size + 1) W [.int .i64 s, .string ⟨zr.toArray⟩, .int .i64 k, .slice ao n ca] ∧ Blk za W [.string ⟨mt.toArray⟩, .string ⟨tg.toArray⟩, .int .i64 kq, .slice aq2 nq cq2] ∧ Blk zb W [.int .i64 s, .string ⟨zr.toArray⟩, .int .i64 k, .slice ao2 n ca2] ∧ HoldsF W (.slice aq2 nq cq2) gs ∧ HoldsF W (.slice ao2 n ca2) fs
theorem u4_below {w : World} {za zb : Nat} {mt tg zr : List UInt8} {kq s k : Int} {aq ao : Option Addr} {nq cq n ca : Nat} {gs fs : FL} {aq2 ao2 : Option Addr} {cq2 ca2 : Nat} {W W' : World} (h : U4 w za zb W mt tg zr kq s k aq ao nq cq n ca gs fs aq2 ao2 cq2 ca2) (hb : Below W.heap.size W W') : U4 w za zb W' mt tg zr kq s k aq ao nq cq n ca gs fs aq2 ao2 cq2 ca2 := ⟨bt' h.1 hb, cells_below h.2.1 hb, cells_below h.2.2.1 hb, cells_below h.2.2.2.1 hb, cells_below h.2.2.2.2.1 hb, holdsF_mono h.2.2.2.2.2.1 hb, holdsF_mono h.2.2.2.2.2.2 hb⟩
theorem u4_drew {w : World} {za zb : Nat} {mt tg zr : List UInt8} {kq s k : Int} {aq ao : Option Addr} {nq cq n ca : Nat} {gs fs : FL} {aq2 ao2 : Option Addr} {cq2 ca2 : Nat} {W : World} (h : U4 w za zb W mt tg zr kq s k aq ao nq cq n ca gs fs aq2 ao2 cq2 ca2) : U4 w za zb W.drew mt tg zr kq s k aq ao nq cq n ca gs fs aq2 ao2 cq2 ca2 := u4_below h (Below.refl _ _).drew
theorem u4_cells {w : World} {za zb : Nat} {mt tg zr : List UInt8} {kq s k : Int} {aq ao : Option Addr} {nq cq n ca : Nat} {gs fs : FL} {aq2 ao2 : Option Addr} {cq2 ca2 : Nat} {W : World} {q : Nat} (hq : q = w.heap.size) (h : U4 w za zb W mt tg zr kq s k aq ao nq cq n ca gs fs aq2 ao2 cq2 ca2) : W.cell? ⟨q, 0, none⟩ = some (.string ⟨mt.toArray⟩) ∧ W.cell? ⟨q, 1, none⟩ = some (.string ⟨tg.toArray⟩) ∧ W.cell? ⟨q, 2, none⟩ = some (.int .i64 kq) ∧ W.cell? ⟨q, 3, none⟩ = some (.slice aq nq cq) ∧ W.cell? ⟨q + 1, 0, none⟩ = some (.int .i64 s) ∧ W.cell? ⟨q + 1, 1, none⟩ = some (.string ⟨zr.toArray⟩) ∧ W.cell? ⟨q + 1, 2, none⟩ = some (.int .i64 k) ∧ W.cell? ⟨q + 1, 3, none⟩ = some (.slice ao n ca) ∧ W.cell? ⟨za, 0, none⟩ = some (.string ⟨mt.toArray⟩) ∧ W.cell? ⟨za, 1, none⟩ = some (.string ⟨tg.toArray⟩) ∧ W.cell? ⟨za, 2, none⟩ = some (.int .i64 kq) ∧ W.cell? ⟨za, 3, none⟩ = some (.slice aq2 nq cq2) ∧ W.cell? ⟨zb, 0, none⟩ = some (.int .i64 s) ∧ W.cell? ⟨zb, 1, none⟩ = some (.string ⟨zr.toArray⟩) ∧ W.cell? ⟨zb, 2, none⟩ = some (.int .i64 k) ∧ W.cell? ⟨zb, 3, none⟩ = some (.slice ao2 n ca2) := by
  subst hq
  obtain ⟨h0, h1, h2, h3⟩ := four_open h.2.1
  obtain ⟨i0, i1, i2, i3⟩ := four_open h.2.2.1
  obtain ⟨j0, j1, j2, j3⟩ := four_open h.2.2.2.1
  obtain ⟨k0, k1, k2, k3⟩ := four_open h.2.2.2.2.1
  exact ⟨h0, h1, h2, h3, i0, i1, i2, i3, j0, j1, j2, j3, k0, k1, k2, k3⟩
set_option maxRecDepth 20000 in
set_option maxHeartbeats 16000000 in
theorem storablesW (mt tg zr : List UInt8) (kq s k : Int) (lq lv : Value) (gs fs : FL) (w : World) (hs : -9223372036854775808 ≤ s ∧ s ≤ 9223372036854775807) (hg : HoldsF w lq gs) (hv : HoldsF w lv fs) (hbg : bulkF gs ≤ 1048576) (hb : bulkF fs ≤ 1048576) :
    Calls Tryd.prog 3 #[.agg #[.string ⟨mt.toArray⟩, .string ⟨tg.toArray⟩, .int .i64 kq, lq], .agg #[.int .i64 s, .string ⟨zr.toArray⟩, .int .i64 k, lv]] w fun e w' => e = .returned (.bool true) ∧ Below w.heap.size w w' := by
  have hnq : gs.length ≤ 2000000 := by have := bulkF_len gs; omega
  have hn : fs.length ≤ 2000000 := by have := bulkF_len fs; omega
  obtain ⟨aq, cq, _, _, eq, _⟩ := holdsF_parts hg
  obtain ⟨ao, ca, _, _, el, _⟩ := holdsF_parts hv
  subst eq el
  obtain ⟨b0, b1, b2, b3, b4, b5, n6, n7, n8, n9, TF⟩ := told_ex fs
  obtain ⟨c0, c1, c2, c3, c4, c5, m6, m7, m8, m9, TG⟩ := told_ex gs
  obtain ⟨q, hq⟩ : ∃ q, q = w.heap.size := ⟨_, rfl⟩
  have HQ := hide' hq
  have kQ := fun W (h : Below w.heap.size w W) => copyRq mt tg kq gs _ W (holdsF_mono hg h) hnq
  have kR := fun W (h : Below w.heap.size w W) => copyRs s k zr fs _ W (holdsF_mono hv h) hn
  have kS := fun aq2 cq2 ao2 ca2 W (h1 : HoldsF W (.slice aq2 gs.length cq2) gs) (h2 : HoldsF W (.slice ao2 fs.length ca2) fs) => storableFC mt ⟨tg.toArray⟩ ⟨zr.toArray⟩ kq s k aq2 ao2 gs.length cq2 fs.length ca2 gs fs c0 c1 c2 c3 c4 c5 m6 m7 m8 m9 b0 b1 b2 b3 b4 b5 n6 n7 n8 n9 W h1 h2 hbg hb TG TF
  have kX := fun W (h : Below w.heap.size w W) => storableRC mt ⟨tg.toArray⟩ ⟨zr.toArray⟩ kq s k aq ao gs.length cq fs.length ca gs fs c0 c1 c2 c3 c4 c5 m6 m7 m8 m9 b0 b1 b2 b3 b4 b5 n6 n7 n8 n9 W hs (holdsF_mono hg h) (holdsF_mono hv h) hbg hb TG TF
  have k1 := fun u W (h : Below w.heap.size w W) (hu : HoldsF W u gs) => sameRq mt tg kq gs u _ W hu (holdsF_mono hg h) hnq
  have k2 := fun u W (h : Below w.heap.size w W) (hu : HoldsF W u fs) => sameRs s k zr fs u _ W hu (holdsF_mono hv h) hn
  clear TF TG hg hv hbg hb hn hnq hs
  generalize stoB (decide (mt = getB)) (okS s n7 n6 (hasN fs exb)) c0 b0 b2 (hasN gs aub) (b3 || (b4 || decide (n7 ≠ -1))) (hasStar fs) (hasN gs rab) (decide (200 ≤ s ∧ s ≤ 299)) = sto at kS kX
  generalize hn1 : gs.length = nq at kQ kS kX k1 ⊢
  generalize hn2 : fs.length = n at kR kS kX k2 ⊢
  have N1 := hide' hn1
  have N2 := hide' hn2
  clear hn1 hn2
  replace kQ := hide' kQ
  replace kR := hide' kR
  replace kS := hide' kS
  replace kX := hide' kX
  replace k1 := hide' k1
  replace k2 := hide' k2
  have O0 := hide' (h2_lit w mt tg zr kq s k aq ao nq cq n ca)
  have cO := hide' (fun W => getOk W)
  go_enter Tryd.func3, Tryd.ntmps3
  go_wp2_with fail
  refine (cO.out _).mono ?_
  rintro e w1 ⟨rfl, bw1⟩
  have O1 := hide' (h2_below O0.out bw1)
  clear bw1 O0 cO
  obtain ⟨h0, h1, h2, h3⟩ := four_open O1.out.2.1
  go_wp2_with fail
  refine (kQ.out _ O1.out.1).mono ?_
  rintro e w2 ⟨u, rfl, hu⟩
  obtain ⟨aq2, cq2, _, _, eu, _⟩ := holdsF_parts (holdsF_own hu)
  rw [N1.out] at eu
  have hx := holdsF_own hu
  rw [eu] at hx ⊢
  have bz := below_alloc' w2 (.cells #[.string ⟨mt.toArray⟩, .string ⟨tg.toArray⟩, .int .i64 kq, .slice aq2 nq cq2] 24)
  have LA := hide' (cells_lit w2 #[.string ⟨mt.toArray⟩, .string ⟨tg.toArray⟩, .int .i64 kq, .slice aq2 nq cq2] 24)
  have O2 := hide' (h2_below O1.out (bt' hu.2 bz))
  have HX := hide' (holdsF_mono hx bz)
  clear hu eu hx bz O1 kQ h0 h1 h2 h3
  obtain ⟨h0, h1, h2, h3⟩ := four_open O2.out.2.2.1
  go_wp2_with fail
  refine (kR.out _ O2.out.1).mono ?_
  rintro e w3 ⟨u2, rfl, hu⟩
  obtain ⟨ao2, ca2, _, _, eu, _⟩ := holdsF_parts (holdsF_own hu)
  rw [N2.out] at eu
  have hy := holdsF_own hu
  rw [eu] at hy ⊢
  have bz := below_alloc' w3 (.cells #[.int .i64 s, .string ⟨zr.toArray⟩, .int .i64 k, .slice ao2 n ca2] 26)
  have bw3 := hu.2
  obtain ⟨W, hW⟩ : ∃ W, W = w3.alloc (.cells #[.int .i64 s, .string ⟨zr.toArray⟩, .int .i64 k, .slice ao2 n ca2] 26) := ⟨_, rfl⟩
  obtain ⟨za, hza⟩ : ∃ za, za = w2.heap.size := ⟨_, rfl⟩
  obtain ⟨zb, hzb⟩ : ∃ zb, zb = w3.heap.size := ⟨_, rfl⟩
  have O := hide' (show U4 w za zb W mt tg zr kq s k aq ao nq cq n ca gs fs aq2 ao2 cq2 ca2 from by
    rw [hW, hza, hzb]
    have bb := bt' bw3 bz
    have hh := h2_below O2.out bb
    exact ⟨hh.1, hh.2.1, hh.2.2.1, cells_below LA.out bb, cells_lit w3 #[.int .i64 s, .string ⟨zr.toArray⟩, .int .i64 k, .slice ao2 n ca2] 26, holdsF_mono HX.out bb, holdsF_mono hy bz⟩)
  clear hu eu hy bz bw3 O2 HX LA kR h0 h1 h2 h3
  have q1 : Hid (∀ W, U4 w za zb W mt tg zr kq s k aq ao nq cq n ca gs fs aq2 ao2 cq2 ca2 → Calls Tryd.prog 7 #[.agg #[.string ⟨mt.toArray⟩, .string ⟨tg.toArray⟩, .int .i64 kq, .slice aq2 nq cq2], .agg #[.int .i64 s, .string ⟨zr.toArray⟩, .int .i64 k, .slice ao2 n ca2]] W fun e w' => e = .returned (.bool sto) ∧ Hid (U4 w za zb w' mt tg zr kq s k aq ao nq cq n ca gs fs aq2 ao2 cq2 ca2) ∧ w'.cell? ⟨q, 0, none⟩ = some (.string ⟨mt.toArray⟩) ∧ w'.cell? ⟨q, 1, none⟩ = some (.string ⟨tg.toArray⟩) ∧ w'.cell? ⟨q, 2, none⟩ = some (.int .i64 kq) ∧ w'.cell? ⟨q, 3, none⟩ = some (.slice aq nq cq) ∧ w'.cell? ⟨q + 1, 0, none⟩ = some (.int .i64 s) ∧ w'.cell? ⟨q + 1, 1, none⟩ = some (.string ⟨zr.toArray⟩) ∧ w'.cell? ⟨q + 1, 2, none⟩ = some (.int .i64 k) ∧ w'.cell? ⟨q + 1, 3, none⟩ = some (.slice ao n ca) ∧ w'.cell? ⟨za, 0, none⟩ = some (.string ⟨mt.toArray⟩) ∧ w'.cell? ⟨za, 1, none⟩ = some (.string ⟨tg.toArray⟩) ∧ w'.cell? ⟨za, 2, none⟩ = some (.int .i64 kq) ∧ w'.cell? ⟨za, 3, none⟩ = some (.slice aq2 nq cq2) ∧ w'.cell? ⟨zb, 0, none⟩ = some (.int .i64 s) ∧ w'.cell? ⟨zb, 1, none⟩ = some (.string ⟨zr.toArray⟩) ∧ w'.cell? ⟨zb, 2, none⟩ = some (.int .i64 k) ∧ w'.cell? ⟨zb, 3, none⟩ = some (.slice ao2 n ca2)) := fun W h => (kS.out aq2 cq2 ao2 ca2 W h.2.2.2.2.2.1 h.2.2.2.2.2.2).mono (fun e w' ⟨h1, h2⟩ => ⟨h1, u4_below h h2, u4_cells hq (u4_below h h2)⟩)
  have q2 : Hid (∀ W, U4 w za zb W mt tg zr kq s k aq ao nq cq n ca gs fs aq2 ao2 cq2 ca2 → Calls Tryd.prog 10 #[.agg #[.string ⟨mt.toArray⟩, .string ⟨tg.toArray⟩, .int .i64 kq, .slice aq nq cq], .agg #[.int .i64 s, .string ⟨zr.toArray⟩, .int .i64 k, .slice ao n ca]] W fun e w' => e = .returned (.bool sto) ∧ Hid (U4 w za zb w' mt tg zr kq s k aq ao nq cq n ca gs fs aq2 ao2 cq2 ca2) ∧ w'.cell? ⟨q, 0, none⟩ = some (.string ⟨mt.toArray⟩) ∧ w'.cell? ⟨q, 1, none⟩ = some (.string ⟨tg.toArray⟩) ∧ w'.cell? ⟨q, 2, none⟩ = some (.int .i64 kq) ∧ w'.cell? ⟨q, 3, none⟩ = some (.slice aq nq cq) ∧ w'.cell? ⟨q + 1, 0, none⟩ = some (.int .i64 s) ∧ w'.cell? ⟨q + 1, 1, none⟩ = some (.string ⟨zr.toArray⟩) ∧ w'.cell? ⟨q + 1, 2, none⟩ = some (.int .i64 k) ∧ w'.cell? ⟨q + 1, 3, none⟩ = some (.slice ao n ca) ∧ w'.cell? ⟨za, 0, none⟩ = some (.string ⟨mt.toArray⟩) ∧ w'.cell? ⟨za, 1, none⟩ = some (.string ⟨tg.toArray⟩) ∧ w'.cell? ⟨za, 2, none⟩ = some (.int .i64 kq) ∧ w'.cell? ⟨za, 3, none⟩ = some (.slice aq2 nq cq2) ∧ w'.cell? ⟨zb, 0, none⟩ = some (.int .i64 s) ∧ w'.cell? ⟨zb, 1, none⟩ = some (.string ⟨zr.toArray⟩) ∧ w'.cell? ⟨zb, 2, none⟩ = some (.int .i64 k) ∧ w'.cell? ⟨zb, 3, none⟩ = some (.slice ao2 n ca2)) := fun W h => (kX.out W h.1).mono (fun e w' ⟨h1, h2⟩ => ⟨h1, u4_below h h2, u4_cells hq (u4_below h h2)⟩)
  have q3 : Hid (∀ W, U4 w za zb W mt tg zr kq s k aq ao nq cq n ca gs fs aq2 ao2 cq2 ca2 → Calls Tryd.prog 11 #[.agg #[.string ⟨mt.toArray⟩, .string ⟨tg.toArray⟩, .int .i64 kq, .slice aq2 nq cq2], .agg #[.string ⟨mt.toArray⟩, .string ⟨tg.toArray⟩, .int .i64 kq, .slice aq nq cq]] W fun e w' => e = .returned (.bool true) ∧ Hid (U4 w za zb w' mt tg zr kq s k aq ao nq cq n ca gs fs aq2 ao2 cq2 ca2) ∧ w'.cell? ⟨q, 0, none⟩ = some (.string ⟨mt.toArray⟩) ∧ w'.cell? ⟨q, 1, none⟩ = some (.string ⟨tg.toArray⟩) ∧ w'.cell? ⟨q, 2, none⟩ = some (.int .i64 kq) ∧ w'.cell? ⟨q, 3, none⟩ = some (.slice aq nq cq) ∧ w'.cell? ⟨q + 1, 0, none⟩ = some (.int .i64 s) ∧ w'.cell? ⟨q + 1, 1, none⟩ = some (.string ⟨zr.toArray⟩) ∧ w'.cell? ⟨q + 1, 2, none⟩ = some (.int .i64 k) ∧ w'.cell? ⟨q + 1, 3, none⟩ = some (.slice ao n ca) ∧ w'.cell? ⟨za, 0, none⟩ = some (.string ⟨mt.toArray⟩) ∧ w'.cell? ⟨za, 1, none⟩ = some (.string ⟨tg.toArray⟩) ∧ w'.cell? ⟨za, 2, none⟩ = some (.int .i64 kq) ∧ w'.cell? ⟨za, 3, none⟩ = some (.slice aq2 nq cq2) ∧ w'.cell? ⟨zb, 0, none⟩ = some (.int .i64 s) ∧ w'.cell? ⟨zb, 1, none⟩ = some (.string ⟨zr.toArray⟩) ∧ w'.cell? ⟨zb, 2, none⟩ = some (.int .i64 k) ∧ w'.cell? ⟨zb, 3, none⟩ = some (.slice ao2 n ca2)) := fun W h => (k1.out _ W h.1 h.2.2.2.2.2.1).mono (fun e w' ⟨h1, h2⟩ => ⟨h1, u4_below h h2, u4_cells hq (u4_below h h2)⟩)
  have q4 : Hid (∀ W, U4 w za zb W mt tg zr kq s k aq ao nq cq n ca gs fs aq2 ao2 cq2 ca2 → Calls Tryd.prog 12 #[.agg #[.int .i64 s, .string ⟨zr.toArray⟩, .int .i64 k, .slice ao2 n ca2], .agg #[.int .i64 s, .string ⟨zr.toArray⟩, .int .i64 k, .slice ao n ca]] W fun e w' => e = .returned (.bool true) ∧ Hid (U4 w za zb w' mt tg zr kq s k aq ao nq cq n ca gs fs aq2 ao2 cq2 ca2) ∧ w'.cell? ⟨q, 0, none⟩ = some (.string ⟨mt.toArray⟩) ∧ w'.cell? ⟨q, 1, none⟩ = some (.string ⟨tg.toArray⟩) ∧ w'.cell? ⟨q, 2, none⟩ = some (.int .i64 kq) ∧ w'.cell? ⟨q, 3, none⟩ = some (.slice aq nq cq) ∧ w'.cell? ⟨q + 1, 0, none⟩ = some (.int .i64 s) ∧ w'.cell? ⟨q + 1, 1, none⟩ = some (.string ⟨zr.toArray⟩) ∧ w'.cell? ⟨q + 1, 2, none⟩ = some (.int .i64 k) ∧ w'.cell? ⟨q + 1, 3, none⟩ = some (.slice ao n ca) ∧ w'.cell? ⟨za, 0, none⟩ = some (.string ⟨mt.toArray⟩) ∧ w'.cell? ⟨za, 1, none⟩ = some (.string ⟨tg.toArray⟩) ∧ w'.cell? ⟨za, 2, none⟩ = some (.int .i64 kq) ∧ w'.cell? ⟨za, 3, none⟩ = some (.slice aq2 nq cq2) ∧ w'.cell? ⟨zb, 0, none⟩ = some (.int .i64 s) ∧ w'.cell? ⟨zb, 1, none⟩ = some (.string ⟨zr.toArray⟩) ∧ w'.cell? ⟨zb, 2, none⟩ = some (.int .i64 k) ∧ w'.cell? ⟨zb, 3, none⟩ = some (.slice ao2 n ca2)) := fun W h => (k2.out _ W h.1 h.2.2.2.2.2.2).mono (fun e w' ⟨h1, h2⟩ => ⟨h1, u4_below h h2, u4_cells hq (u4_below h h2)⟩)
  clear kS kX k1 k2
  have qz : q < W.heap.size := by have := O.out.2.1.2; omega
  have qz1 : q + 1 < W.heap.size := by have := O.out.2.2.1.2; omega
  have qz2 : za < W.heap.size := O.out.2.2.2.1.2
  have qz3 : zb < W.heap.size := O.out.2.2.2.2.1.2
  obtain ⟨ce0, ce1, ce2, ce3, ce4, ce5, ce6, ce7, ce8, ce9, ce10, ce11, ce12, ce13, ce14, ce15⟩ := u4_cells hq O.out
  go_upto_region 5 with fail
  rw [← hW, ← hza, ← hzb, ← hq]
  clear hq hW hza hzb
  go_region_held3 (fun w' => w'.cell? ⟨q, 0, none⟩ = some (.string ⟨mt.toArray⟩) ∧ w'.cell? ⟨q, 1, none⟩ = some (.string ⟨tg.toArray⟩) ∧ w'.cell? ⟨q, 2, none⟩ = some (.int .i64 kq) ∧ w'.cell? ⟨q, 3, none⟩ = some (.slice aq nq cq) ∧ w'.cell? ⟨q + 1, 0, none⟩ = some (.int .i64 s) ∧ w'.cell? ⟨q + 1, 1, none⟩ = some (.string ⟨zr.toArray⟩) ∧ w'.cell? ⟨q + 1, 2, none⟩ = some (.int .i64 k) ∧ w'.cell? ⟨q + 1, 3, none⟩ = some (.slice ao n ca) ∧ w'.cell? ⟨za, 0, none⟩ = some (.string ⟨mt.toArray⟩) ∧ w'.cell? ⟨za, 1, none⟩ = some (.string ⟨tg.toArray⟩) ∧ w'.cell? ⟨za, 2, none⟩ = some (.int .i64 kq) ∧ w'.cell? ⟨za, 3, none⟩ = some (.slice aq2 nq cq2) ∧ w'.cell? ⟨zb, 0, none⟩ = some (.int .i64 s) ∧ w'.cell? ⟨zb, 1, none⟩ = some (.string ⟨zr.toArray⟩) ∧ w'.cell? ⟨zb, 2, none⟩ = some (.int .i64 k) ∧ w'.cell? ⟨zb, 3, none⟩ = some (.slice ao2 n ca2)) (go_keep)
    (first
      | (go_at_call 7; refine (q1.out _ ?_).mono ?_; (first | exact O.out | exact u4_drew O.out); rintro e w9 ⟨rfl, O, ce0, ce1, ce2, ce3, ce4, ce5, ce6, ce7, ce8, ce9, ce10, ce11, ce12, ce13, ce14, ce15⟩)
      | (go_at_call 10; refine (q2.out _ ?_).mono ?_; (first | exact O.out | exact u4_drew O.out); rintro e w9 ⟨rfl, O, ce0, ce1, ce2, ce3, ce4, ce5, ce6, ce7, ce8, ce9, ce10, ce11, ce12, ce13, ce14, ce15⟩)
      | (go_at_call 11; refine (q3.out _ ?_).mono ?_; (first | exact O.out | exact u4_drew O.out); rintro e w9 ⟨rfl, O, ce0, ce1, ce2, ce3, ce4, ce5, ce6, ce7, ce8, ce9, ce10, ce11, ce12, ce13, ce14, ce15⟩)
      | (go_at_call 12; refine (q4.out _ ?_).mono ?_; (first | exact O.out | exact u4_drew O.out); rintro e w9 ⟨rfl, O, ce0, ce1, ce2, ce3, ce4, ce5, ce6, ce7, ce8, ce9, ce10, ce11, ce12, ce13, ce14, ce15⟩))
  all_goals
    go_wp2_with fail
    go_ret
    exact ⟨by simp, O.out.1⟩
end Go.Proofs.YtlhhcpbfjjhbfaaDoor
