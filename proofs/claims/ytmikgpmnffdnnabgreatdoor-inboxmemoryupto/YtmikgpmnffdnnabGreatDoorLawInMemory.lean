/- The walk of InboxMemory. -/
import Derived.Test.YtmikgpmnffdnnabGreatDoorInA
import Derived.Test.YtmikgpmnffdnnabGreatDoorIrT
import Derived.Test.YtmikgpmnffdnnabGreatDoorInW
import Derived.Test.YtmikgpmnffdnnabGreatDoorIrW
import Derived.Test.YtmikgpmnffdnnabGreatDoorInL
import Derived.Test.YtmikgpmnffdnnabGreatDoorFdAf
import Derived.Test.YtmikgpmnffdnnabGreatDoorFdMk
import Derived.Test.YtmikgpmnffdnnabGreatDoorMemY
namespace Go.Proofs.YtmikgpmnffdnnabGreatDoor
open Go.RowKit
namespace inboxMemory
theorem blk_far {b : Nat} {W W' : World} {S : Nat → Prop} {vs : List Value} (h : Blk b W vs) (hf : Far S W W') (hn : ¬ S b) : Blk b W' vs :=
  ⟨fun j hj => ⟨by rw [World.cell?_of_block (w := W) (a := ⟨b, j, none⟩) (hf.2.2.2.2 b h.2 hn)]; exact (h.1 j hj).1, by rw [World.frozen?_of_block (w := W) (a := ⟨b, j, none⟩) (hf.2.2.2.2 b h.2 hn)]; exact (h.1 j hj).2⟩, Nat.lt_of_lt_of_le h.2 hf.2.2.2.1⟩
set_option maxRecDepth 20000 in
set_option maxHeartbeats 16000000 in
theorem walk0 (v : Value) (bs me : List UInt8) (w : World) (hv : HoldsB w v bs) (hl : bs.length ≤ 1048576) (E : Env w) (R : Er w) :
    Calls Tryz.prog 4 #[v, .string ⟨me.toArray⟩] w fun e w' => e = .returned (.bool true) ∧ Below w.heap.size w w' := by
  have HV := hide' hv
  have EV := hide' E
  have RV := hide' R
  have c0 := hide' (aliveI w E R)
  obtain ⟨s1, s2, s3⟩ := msgQ_size bs
  obtain ⟨s1', s2', s3'⟩ := msgR_size bs me true
  have cQ := hide' (fun W (u : Value) (hb : HoldsB W u bs) (hE : Env W) (hR : Er W) => msgC u bs W hb hE hR (by omega))
  have rQ := hide' (fun W (u : Value) (hb : HoldsB W u bs) => msgRef u bs W hb (by omega))
  have cR := hide' (fun W (u : Value) (hb : HoldsB W u bs) (hE : Env W) (hR : Er W) => msrC u bs me true W hb hE hR (by omega))
  have rR := hide' (fun W (u : Value) (hb : HoldsB W u bs) => msrRef u bs me true W hb (by omega))
  generalize msgQ bs = D at cQ rQ s1 s2 s3
  generalize msgR bs me true = D' at cR rR s1' s2' s3'
  obtain ⟨⟨m, t, k, fs⟩, bd, tl, n, ee⟩ := D
  obtain ⟨⟨s', r', k', fs'⟩, bd', tl', n', ee'⟩ := D'
  simp only at s1 s2 s3 s1' s2' s3'
  obtain ⟨ba, bc, rfl, _⟩ := hv
  have BB := hide' (Below.refl w.heap.size w)
  clear E R
  go_enter Tryz.func4, Tryz.ntmps4
  go_wp2_with fail
  refine c0.out.mono ?_
  rintro e w0 ⟨rfl, b⟩
  replace BB := hide' (bt' BB.out b)
  have S0 := hide' BB.out.size
  clear b c0
  go_wp2_with fail
  refine (copyB _ bs _ (holdsB_mono HV.out BB.out) (by omega)).mono ?_
  rintro e w1 ⟨vq, rfl, ho⟩
  have bandq := hide' ho.1.lt
  have S1 := hide' ho.2.size
  replace BB := hide' (bt' BB.out ho.2)
  have Bq := hide' ho
  obtain ⟨qa, qc, hl9⟩ := row_slice ho.1
  subst hl9
  clear ho
  go_wp2_with fail
  refine (cQ.out _ _ (holdsB_own Bq.out) (env_below EV.out BB.out) (er_below RV.out BB.out)).mono ?_
  intro e w2 h
  obtain ⟨lax, lcx, bax, bcx, tax, tcx, rfl, _, b, oL, oB, oF⟩ := ansQ_open h
  simp only at oL oB oF ⊢
  have bandx : Hid (∀ k, (Value.slice bax bd.length bcx).ownBlock = some k → w1.heap.size ≤ k ∧ k < w2.heap.size) := fun k e => by have h9 := oB.1.lt k e; simpa using h9
  have bandlx : Hid (∀ k, (Value.slice lax fs.length lcx).ownBlock = some k → w1.heap.size ≤ k ∧ k < w2.heap.size) := fun k e => by have h9 := oL.1.lt k e; simpa using h9
  have S2 : Hid (w1.heap.size ≤ w2.heap.size) := by unfold Hid; have h9 := b.size; simpa using h9
  replace BB := hide' (bt' BB.out b)
  replace Bq := hide' (own_mono Bq.out b)
  have Lx := hide' oL
  have Bx := hide' oB
  have Tx := hide' oF
  have ba9 := below_alloc' w2 (.cells #[.string ⟨m.toArray⟩, .string ⟨t.toArray⟩, .int .i64 k, .slice lax fs.length lcx, .int .i64 0, .string ⟨#[]⟩, .int .i64 0, .slice none 0 0, .slice bax bd.length bcx, .slice tax tl.length tcx] 30)
  have Px := hide' (cells_lit w2 #[.string ⟨m.toArray⟩, .string ⟨t.toArray⟩, .int .i64 k, .slice lax fs.length lcx, .int .i64 0, .string ⟨#[]⟩, .int .i64 0, .slice none 0 0, .slice bax bd.length bcx, .slice tax tl.length tcx] 30)
  replace BB := hide' (bt' BB.out ba9)
  replace Bq := hide' (own_mono Bq.out ba9)
  replace Lx := hide' (ownF_keep Lx.out ba9)
  replace Bx := hide' (own_mono Bx.out ba9)
  replace Tx := hide' (ownF_keep Tx.out ba9)
  clear h b oL oB oF ba9
  go_wp2_with fail
  refine (cQ.out _ _ (holdsB_own Bq.out) (env_below EV.out BB.out) (er_below RV.out BB.out)).mono ?_
  intro e w3 h
  obtain ⟨lay, lcy, bay, bcy, tay, tcy, rfl, _, b, oL, oB, oF⟩ := ansQ_open h
  simp only at oL oB oF ⊢
  have bandy : Hid (∀ k, (Value.slice bay bd.length bcy).ownBlock = some k → w2.heap.size + 1 ≤ k ∧ k < w3.heap.size) := fun k e => by have h9 := oB.1.lt k e; simpa using h9
  have bandly : Hid (∀ k, (Value.slice lay fs.length lcy).ownBlock = some k → w2.heap.size + 1 ≤ k ∧ k < w3.heap.size) := fun k e => by have h9 := oL.1.lt k e; simpa using h9
  have S3 : Hid (w2.heap.size + 1 ≤ w3.heap.size) := by unfold Hid; have h9 := b.size; simpa using h9
  replace BB := hide' (bt' BB.out b)
  replace Bq := hide' (own_mono Bq.out b)
  replace Lx := hide' (ownF_keep Lx.out b)
  replace Bx := hide' (own_mono Bx.out b)
  replace Tx := hide' (ownF_keep Tx.out b)
  replace Px := hide' (cells_below Px.out b)
  have Ly := hide' oL
  have By := hide' oB
  have Ty := hide' oF
  have ba9 := below_alloc' w3 (.cells #[.string ⟨m.toArray⟩, .string ⟨t.toArray⟩, .int .i64 k, .slice lay fs.length lcy, .int .i64 0, .string ⟨#[]⟩, .int .i64 0, .slice none 0 0, .slice bay bd.length bcy, .slice tay tl.length tcy] 30)
  have Py := hide' (cells_lit w3 #[.string ⟨m.toArray⟩, .string ⟨t.toArray⟩, .int .i64 k, .slice lay fs.length lcy, .int .i64 0, .string ⟨#[]⟩, .int .i64 0, .slice none 0 0, .slice bay bd.length bcy, .slice tay tl.length tcy] 30)
  replace BB := hide' (bt' BB.out ba9)
  replace Bq := hide' (own_mono Bq.out ba9)
  replace Lx := hide' (ownF_keep Lx.out ba9)
  replace Bx := hide' (own_mono Bx.out ba9)
  replace Tx := hide' (ownF_keep Tx.out ba9)
  replace Px := hide' (cells_below Px.out ba9)
  replace Ly := hide' (ownF_keep Ly.out ba9)
  replace By := hide' (own_mono By.out ba9)
  replace Ty := hide' (ownF_keep Ty.out ba9)
  clear h b oL oB oF ba9
  go_wp2_with fail
  refine (cR.out _ _ (holdsB_own Bq.out) (env_below EV.out BB.out) (er_below RV.out BB.out)).mono ?_
  intro e w4 h
  obtain ⟨las, lcs, bas, bcs, tas, tcs, rfl, _, b, oL, oB, oF⟩ := ansR_open h
  simp only at oL oB oF ⊢
  have bands : Hid (∀ k, (Value.slice bas bd'.length bcs).ownBlock = some k → w3.heap.size + 1 ≤ k ∧ k < w4.heap.size) := fun k e => by have h9 := oB.1.lt k e; simpa using h9
  have bandls : Hid (∀ k, (Value.slice las fs'.length lcs).ownBlock = some k → w3.heap.size + 1 ≤ k ∧ k < w4.heap.size) := fun k e => by have h9 := oL.1.lt k e; simpa using h9
  have S4 : Hid (w3.heap.size + 1 ≤ w4.heap.size) := by unfold Hid; have h9 := b.size; simpa using h9
  replace BB := hide' (bt' BB.out b)
  replace Bq := hide' (own_mono Bq.out b)
  replace Lx := hide' (ownF_keep Lx.out b)
  replace Bx := hide' (own_mono Bx.out b)
  replace Tx := hide' (ownF_keep Tx.out b)
  replace Px := hide' (cells_below Px.out b)
  replace Ly := hide' (ownF_keep Ly.out b)
  replace By := hide' (own_mono By.out b)
  replace Ty := hide' (ownF_keep Ty.out b)
  replace Py := hide' (cells_below Py.out b)
  have Ls := hide' oL
  have Bs := hide' oB
  have Ts := hide' oF
  have ba9 := below_alloc' w4 (.cells #[.string ⟨#[]⟩, .string ⟨#[]⟩, .int .i64 0, .slice none 0 0, .int .i64 s', .string ⟨r'.toArray⟩, .int .i64 k', .slice las fs'.length lcs, .slice bas bd'.length bcs, .slice tas tl'.length tcs] 30)
  have Ps := hide' (cells_lit w4 #[.string ⟨#[]⟩, .string ⟨#[]⟩, .int .i64 0, .slice none 0 0, .int .i64 s', .string ⟨r'.toArray⟩, .int .i64 k', .slice las fs'.length lcs, .slice bas bd'.length bcs, .slice tas tl'.length tcs] 30)
  replace BB := hide' (bt' BB.out ba9)
  replace Bq := hide' (own_mono Bq.out ba9)
  replace Lx := hide' (ownF_keep Lx.out ba9)
  replace Bx := hide' (own_mono Bx.out ba9)
  replace Tx := hide' (ownF_keep Tx.out ba9)
  replace Px := hide' (cells_below Px.out ba9)
  replace Ly := hide' (ownF_keep Ly.out ba9)
  replace By := hide' (own_mono By.out ba9)
  replace Ty := hide' (ownF_keep Ty.out ba9)
  replace Py := hide' (cells_below Py.out ba9)
  replace Ls := hide' (ownF_keep Ls.out ba9)
  replace Bs := hide' (own_mono Bs.out ba9)
  replace Ts := hide' (ownF_keep Ts.out ba9)
  clear h b oL oB oF ba9
  go_wp2_with fail
  refine (cR.out _ _ (holdsB_own Bq.out) (env_below EV.out BB.out) (er_below RV.out BB.out)).mono ?_
  intro e w5 h
  obtain ⟨lat, lct, bat, bct, tat, tct, rfl, _, b, oL, oB, oF⟩ := ansR_open h
  simp only at oL oB oF ⊢
  have bandt : Hid (∀ k, (Value.slice bat bd'.length bct).ownBlock = some k → w4.heap.size + 1 ≤ k ∧ k < w5.heap.size) := fun k e => by have h9 := oB.1.lt k e; simpa using h9
  have bandlt : Hid (∀ k, (Value.slice lat fs'.length lct).ownBlock = some k → w4.heap.size + 1 ≤ k ∧ k < w5.heap.size) := fun k e => by have h9 := oL.1.lt k e; simpa using h9
  have S5 : Hid (w4.heap.size + 1 ≤ w5.heap.size) := by unfold Hid; have h9 := b.size; simpa using h9
  replace BB := hide' (bt' BB.out b)
  replace Bq := hide' (own_mono Bq.out b)
  replace Lx := hide' (ownF_keep Lx.out b)
  replace Bx := hide' (own_mono Bx.out b)
  replace Tx := hide' (ownF_keep Tx.out b)
  replace Px := hide' (cells_below Px.out b)
  replace Ly := hide' (ownF_keep Ly.out b)
  replace By := hide' (own_mono By.out b)
  replace Ty := hide' (ownF_keep Ty.out b)
  replace Py := hide' (cells_below Py.out b)
  replace Ls := hide' (ownF_keep Ls.out b)
  replace Bs := hide' (own_mono Bs.out b)
  replace Ts := hide' (ownF_keep Ts.out b)
  replace Ps := hide' (cells_below Ps.out b)
  have Lt := hide' oL
  have Bt := hide' oB
  have Tt := hide' oF
  have ba9 := below_alloc' w5 (.cells #[.string ⟨#[]⟩, .string ⟨#[]⟩, .int .i64 0, .slice none 0 0, .int .i64 s', .string ⟨r'.toArray⟩, .int .i64 k', .slice lat fs'.length lct, .slice bat bd'.length bct, .slice tat tl'.length tct] 30)
  have Pt := hide' (cells_lit w5 #[.string ⟨#[]⟩, .string ⟨#[]⟩, .int .i64 0, .slice none 0 0, .int .i64 s', .string ⟨r'.toArray⟩, .int .i64 k', .slice lat fs'.length lct, .slice bat bd'.length bct, .slice tat tl'.length tct] 30)
  replace BB := hide' (bt' BB.out ba9)
  replace Bq := hide' (own_mono Bq.out ba9)
  replace Lx := hide' (ownF_keep Lx.out ba9)
  replace Bx := hide' (own_mono Bx.out ba9)
  replace Tx := hide' (ownF_keep Tx.out ba9)
  replace Px := hide' (cells_below Px.out ba9)
  replace Ly := hide' (ownF_keep Ly.out ba9)
  replace By := hide' (own_mono By.out ba9)
  replace Ty := hide' (ownF_keep Ty.out ba9)
  replace Py := hide' (cells_below Py.out ba9)
  replace Ls := hide' (ownF_keep Ls.out ba9)
  replace Bs := hide' (own_mono Bs.out ba9)
  replace Ts := hide' (ownF_keep Ts.out ba9)
  replace Ps := hide' (cells_below Ps.out ba9)
  replace Lt := hide' (ownF_keep Lt.out ba9)
  replace Bt := hide' (own_mono Bt.out ba9)
  replace Tt := hide' (ownF_keep Tt.out ba9)
  clear h b oL oB oF ba9
  go_wp2_with fail
  refine (rQ.out _ _ (holdsB_mono HV.out BB.out)).mono ?_
  intro e w6 h
  obtain ⟨lam, lcm, bam, bcm, tam, tcm, rfl, _, b, oL, oB, oF⟩ := ansQ_open h
  simp only at oL oB oF ⊢
  have bandm : Hid (∀ k, (Value.slice bam bd.length bcm).ownBlock = some k → w5.heap.size + 1 ≤ k ∧ k < w6.heap.size) := fun k e => by have h9 := oB.1.lt k e; simpa using h9
  have bandlm : Hid (∀ k, (Value.slice lam fs.length lcm).ownBlock = some k → w5.heap.size + 1 ≤ k ∧ k < w6.heap.size) := fun k e => by have h9 := oL.1.lt k e; simpa using h9
  have S6 : Hid (w5.heap.size + 1 ≤ w6.heap.size) := by unfold Hid; have h9 := b.size; simpa using h9
  replace BB := hide' (bt' BB.out b)
  replace Bq := hide' (own_mono Bq.out b)
  replace Lx := hide' (ownF_keep Lx.out b)
  replace Bx := hide' (own_mono Bx.out b)
  replace Tx := hide' (ownF_keep Tx.out b)
  replace Px := hide' (cells_below Px.out b)
  replace Ly := hide' (ownF_keep Ly.out b)
  replace By := hide' (own_mono By.out b)
  replace Ty := hide' (ownF_keep Ty.out b)
  replace Py := hide' (cells_below Py.out b)
  replace Ls := hide' (ownF_keep Ls.out b)
  replace Bs := hide' (own_mono Bs.out b)
  replace Ts := hide' (ownF_keep Ts.out b)
  replace Ps := hide' (cells_below Ps.out b)
  replace Lt := hide' (ownF_keep Lt.out b)
  replace Bt := hide' (own_mono Bt.out b)
  replace Tt := hide' (ownF_keep Tt.out b)
  replace Pt := hide' (cells_below Pt.out b)
  have Lm := hide' oL
  have Bm := hide' oB
  have Tm := hide' oF
  have ba9 := below_alloc' w6 (.cells #[.string ⟨m.toArray⟩, .string ⟨t.toArray⟩, .int .i64 k, .slice lam fs.length lcm, .int .i64 0, .string ⟨#[]⟩, .int .i64 0, .slice none 0 0, .slice bam bd.length bcm, .slice tam tl.length tcm] 30)
  have Pm := hide' (cells_lit w6 #[.string ⟨m.toArray⟩, .string ⟨t.toArray⟩, .int .i64 k, .slice lam fs.length lcm, .int .i64 0, .string ⟨#[]⟩, .int .i64 0, .slice none 0 0, .slice bam bd.length bcm, .slice tam tl.length tcm] 30)
  replace BB := hide' (bt' BB.out ba9)
  replace Bq := hide' (own_mono Bq.out ba9)
  replace Lx := hide' (ownF_keep Lx.out ba9)
  replace Bx := hide' (own_mono Bx.out ba9)
  replace Tx := hide' (ownF_keep Tx.out ba9)
  replace Px := hide' (cells_below Px.out ba9)
  replace Ly := hide' (ownF_keep Ly.out ba9)
  replace By := hide' (own_mono By.out ba9)
  replace Ty := hide' (ownF_keep Ty.out ba9)
  replace Py := hide' (cells_below Py.out ba9)
  replace Ls := hide' (ownF_keep Ls.out ba9)
  replace Bs := hide' (own_mono Bs.out ba9)
  replace Ts := hide' (ownF_keep Ts.out ba9)
  replace Ps := hide' (cells_below Ps.out ba9)
  replace Lt := hide' (ownF_keep Lt.out ba9)
  replace Bt := hide' (own_mono Bt.out ba9)
  replace Tt := hide' (ownF_keep Tt.out ba9)
  replace Pt := hide' (cells_below Pt.out ba9)
  replace Lm := hide' (ownF_keep Lm.out ba9)
  replace Bm := hide' (own_mono Bm.out ba9)
  replace Tm := hide' (ownF_keep Tm.out ba9)
  clear h b oL oB oF ba9
  go_wp2_with fail
  refine (rR.out _ _ (holdsB_mono HV.out BB.out)).mono ?_
  intro e w7 h
  obtain ⟨lao, lco, bao, bco, tao, tco, rfl, _, b, oL, oB, oF⟩ := ansR_open h
  simp only at oL oB oF ⊢
  have bando : Hid (∀ k, (Value.slice bao bd'.length bco).ownBlock = some k → w6.heap.size + 1 ≤ k ∧ k < w7.heap.size) := fun k e => by have h9 := oB.1.lt k e; simpa using h9
  have bandlo : Hid (∀ k, (Value.slice lao fs'.length lco).ownBlock = some k → w6.heap.size + 1 ≤ k ∧ k < w7.heap.size) := fun k e => by have h9 := oL.1.lt k e; simpa using h9
  have S7 : Hid (w6.heap.size + 1 ≤ w7.heap.size) := by unfold Hid; have h9 := b.size; simpa using h9
  replace BB := hide' (bt' BB.out b)
  replace Bq := hide' (own_mono Bq.out b)
  replace Lx := hide' (ownF_keep Lx.out b)
  replace Bx := hide' (own_mono Bx.out b)
  replace Tx := hide' (ownF_keep Tx.out b)
  replace Px := hide' (cells_below Px.out b)
  replace Ly := hide' (ownF_keep Ly.out b)
  replace By := hide' (own_mono By.out b)
  replace Ty := hide' (ownF_keep Ty.out b)
  replace Py := hide' (cells_below Py.out b)
  replace Ls := hide' (ownF_keep Ls.out b)
  replace Bs := hide' (own_mono Bs.out b)
  replace Ts := hide' (ownF_keep Ts.out b)
  replace Ps := hide' (cells_below Ps.out b)
  replace Lt := hide' (ownF_keep Lt.out b)
  replace Bt := hide' (own_mono Bt.out b)
  replace Tt := hide' (ownF_keep Tt.out b)
  replace Pt := hide' (cells_below Pt.out b)
  replace Lm := hide' (ownF_keep Lm.out b)
  replace Bm := hide' (own_mono Bm.out b)
  replace Tm := hide' (ownF_keep Tm.out b)
  replace Pm := hide' (cells_below Pm.out b)
  have Lo := hide' oL
  have Bo := hide' oB
  have To := hide' oF
  have ba9 := below_alloc' w7 (.cells #[.string ⟨#[]⟩, .string ⟨#[]⟩, .int .i64 0, .slice none 0 0, .int .i64 s', .string ⟨r'.toArray⟩, .int .i64 k', .slice lao fs'.length lco, .slice bao bd'.length bco, .slice tao tl'.length tco] 30)
  have Po := hide' (cells_lit w7 #[.string ⟨#[]⟩, .string ⟨#[]⟩, .int .i64 0, .slice none 0 0, .int .i64 s', .string ⟨r'.toArray⟩, .int .i64 k', .slice lao fs'.length lco, .slice bao bd'.length bco, .slice tao tl'.length tco] 30)
  replace BB := hide' (bt' BB.out ba9)
  replace Bq := hide' (own_mono Bq.out ba9)
  replace Lx := hide' (ownF_keep Lx.out ba9)
  replace Bx := hide' (own_mono Bx.out ba9)
  replace Tx := hide' (ownF_keep Tx.out ba9)
  replace Px := hide' (cells_below Px.out ba9)
  replace Ly := hide' (ownF_keep Ly.out ba9)
  replace By := hide' (own_mono By.out ba9)
  replace Ty := hide' (ownF_keep Ty.out ba9)
  replace Py := hide' (cells_below Py.out ba9)
  replace Ls := hide' (ownF_keep Ls.out ba9)
  replace Bs := hide' (own_mono Bs.out ba9)
  replace Ts := hide' (ownF_keep Ts.out ba9)
  replace Ps := hide' (cells_below Ps.out ba9)
  replace Lt := hide' (ownF_keep Lt.out ba9)
  replace Bt := hide' (own_mono Bt.out ba9)
  replace Tt := hide' (ownF_keep Tt.out ba9)
  replace Pt := hide' (cells_below Pt.out ba9)
  replace Lm := hide' (ownF_keep Lm.out ba9)
  replace Bm := hide' (own_mono Bm.out ba9)
  replace Tm := hide' (ownF_keep Tm.out ba9)
  replace Pm := hide' (cells_below Pm.out ba9)
  replace Lo := hide' (ownF_keep Lo.out ba9)
  replace Bo := hide' (own_mono Bo.out ba9)
  replace To := hide' (ownF_keep To.out ba9)
  clear h b oL oB oF ba9
  obtain ⟨⟨pc0, pc1, pc2, pc3, pc4, pc5, pc6, pc7, pc8, pc9⟩, _⟩ := cells_ten Px.out
  obtain ⟨⟨qc0, qc1, qc2, qc3, qc4, qc5, qc6, qc7, qc8, qc9⟩, _⟩ := cells_ten Pm.out
  go_wp2_with fail
  refine (sameQ (n := n) (er := ee) ⟨holdsF_own Lx.out, holdsB_own Bx.out, holdsF_own Tx.out⟩ ⟨holdsF_own Lm.out, holdsB_own Bm.out, holdsF_own Tm.out⟩ s1 (by omega) s3).mono ?_
  rintro e w8 ⟨rfl, b⟩
  clear pc0 pc1 pc2 pc3 pc4 pc5 pc6 pc7 pc8 pc9 qc0 qc1 qc2 qc3 qc4 qc5 qc6 qc7 qc8 qc9
  replace BB := hide' (bt' BB.out b)
  replace Bq := hide' (own_mono Bq.out b)
  replace Lx := hide' (ownF_keep Lx.out b)
  replace Bx := hide' (own_mono Bx.out b)
  replace Tx := hide' (ownF_keep Tx.out b)
  replace Px := hide' (cells_below Px.out b)
  replace Ly := hide' (ownF_keep Ly.out b)
  replace By := hide' (own_mono By.out b)
  replace Ty := hide' (ownF_keep Ty.out b)
  replace Py := hide' (cells_below Py.out b)
  replace Ls := hide' (ownF_keep Ls.out b)
  replace Bs := hide' (own_mono Bs.out b)
  replace Ts := hide' (ownF_keep Ts.out b)
  replace Ps := hide' (cells_below Ps.out b)
  replace Lt := hide' (ownF_keep Lt.out b)
  replace Bt := hide' (own_mono Bt.out b)
  replace Tt := hide' (ownF_keep Tt.out b)
  replace Pt := hide' (cells_below Pt.out b)
  replace Lm := hide' (ownF_keep Lm.out b)
  replace Bm := hide' (own_mono Bm.out b)
  replace Tm := hide' (ownF_keep Tm.out b)
  replace Pm := hide' (cells_below Pm.out b)
  replace Lo := hide' (ownF_keep Lo.out b)
  replace Bo := hide' (own_mono Bo.out b)
  replace To := hide' (ownF_keep To.out b)
  replace Po := hide' (cells_below Po.out b)
  clear b
  obtain ⟨⟨pc0, pc1, pc2, pc3, pc4, pc5, pc6, pc7, pc8, pc9⟩, _⟩ := cells_ten Py.out
  obtain ⟨⟨qc0, qc1, qc2, qc3, qc4, qc5, qc6, qc7, qc8, qc9⟩, _⟩ := cells_ten Pm.out
  go_wp2_with fail
  refine (sameQ (n := n) (er := ee) ⟨holdsF_own Ly.out, holdsB_own By.out, holdsF_own Ty.out⟩ ⟨holdsF_own Lm.out, holdsB_own Bm.out, holdsF_own Tm.out⟩ s1 (by omega) s3).mono ?_
  rintro e w9 ⟨rfl, b⟩
  clear pc0 pc1 pc2 pc3 pc4 pc5 pc6 pc7 pc8 pc9 qc0 qc1 qc2 qc3 qc4 qc5 qc6 qc7 qc8 qc9
  replace BB := hide' (bt' BB.out b)
  replace Bq := hide' (own_mono Bq.out b)
  replace Lx := hide' (ownF_keep Lx.out b)
  replace Bx := hide' (own_mono Bx.out b)
  replace Tx := hide' (ownF_keep Tx.out b)
  replace Px := hide' (cells_below Px.out b)
  replace Ly := hide' (ownF_keep Ly.out b)
  replace By := hide' (own_mono By.out b)
  replace Ty := hide' (ownF_keep Ty.out b)
  replace Py := hide' (cells_below Py.out b)
  replace Ls := hide' (ownF_keep Ls.out b)
  replace Bs := hide' (own_mono Bs.out b)
  replace Ts := hide' (ownF_keep Ts.out b)
  replace Ps := hide' (cells_below Ps.out b)
  replace Lt := hide' (ownF_keep Lt.out b)
  replace Bt := hide' (own_mono Bt.out b)
  replace Tt := hide' (ownF_keep Tt.out b)
  replace Pt := hide' (cells_below Pt.out b)
  replace Lm := hide' (ownF_keep Lm.out b)
  replace Bm := hide' (own_mono Bm.out b)
  replace Tm := hide' (ownF_keep Tm.out b)
  replace Pm := hide' (cells_below Pm.out b)
  replace Lo := hide' (ownF_keep Lo.out b)
  replace Bo := hide' (own_mono Bo.out b)
  replace To := hide' (ownF_keep To.out b)
  replace Po := hide' (cells_below Po.out b)
  clear b
  obtain ⟨⟨pc0, pc1, pc2, pc3, pc4, pc5, pc6, pc7, pc8, pc9⟩, _⟩ := cells_ten Ps.out
  obtain ⟨⟨qc0, qc1, qc2, qc3, qc4, qc5, qc6, qc7, qc8, qc9⟩, _⟩ := cells_ten Po.out
  go_wp2_with fail
  refine (sameR (n := n') (er := ee') ⟨holdsF_own Ls.out, holdsB_own Bs.out, holdsF_own Ts.out⟩ ⟨holdsF_own Lo.out, holdsB_own Bo.out, holdsF_own To.out⟩ s1' (by omega) s3').mono ?_
  rintro e w10 ⟨rfl, b⟩
  clear pc0 pc1 pc2 pc3 pc4 pc5 pc6 pc7 pc8 pc9 qc0 qc1 qc2 qc3 qc4 qc5 qc6 qc7 qc8 qc9
  replace BB := hide' (bt' BB.out b)
  replace Bq := hide' (own_mono Bq.out b)
  replace Lx := hide' (ownF_keep Lx.out b)
  replace Bx := hide' (own_mono Bx.out b)
  replace Tx := hide' (ownF_keep Tx.out b)
  replace Px := hide' (cells_below Px.out b)
  replace Ly := hide' (ownF_keep Ly.out b)
  replace By := hide' (own_mono By.out b)
  replace Ty := hide' (ownF_keep Ty.out b)
  replace Py := hide' (cells_below Py.out b)
  replace Ls := hide' (ownF_keep Ls.out b)
  replace Bs := hide' (own_mono Bs.out b)
  replace Ts := hide' (ownF_keep Ts.out b)
  replace Ps := hide' (cells_below Ps.out b)
  replace Lt := hide' (ownF_keep Lt.out b)
  replace Bt := hide' (own_mono Bt.out b)
  replace Tt := hide' (ownF_keep Tt.out b)
  replace Pt := hide' (cells_below Pt.out b)
  replace Lm := hide' (ownF_keep Lm.out b)
  replace Bm := hide' (own_mono Bm.out b)
  replace Tm := hide' (ownF_keep Tm.out b)
  replace Pm := hide' (cells_below Pm.out b)
  replace Lo := hide' (ownF_keep Lo.out b)
  replace Bo := hide' (own_mono Bo.out b)
  replace To := hide' (ownF_keep To.out b)
  replace Po := hide' (cells_below Po.out b)
  clear b
  obtain ⟨⟨pc0, pc1, pc2, pc3, pc4, pc5, pc6, pc7, pc8, pc9⟩, _⟩ := cells_ten Pt.out
  obtain ⟨⟨qc0, qc1, qc2, qc3, qc4, qc5, qc6, qc7, qc8, qc9⟩, _⟩ := cells_ten Po.out
  go_wp2_with fail
  refine (sameR (n := n') (er := ee') ⟨holdsF_own Lt.out, holdsB_own Bt.out, holdsF_own Tt.out⟩ ⟨holdsF_own Lo.out, holdsB_own Bo.out, holdsF_own To.out⟩ s1' (by omega) s3').mono ?_
  rintro e w11 ⟨rfl, b⟩
  clear pc0 pc1 pc2 pc3 pc4 pc5 pc6 pc7 pc8 pc9 qc0 qc1 qc2 qc3 qc4 qc5 qc6 qc7 qc8 qc9
  replace BB := hide' (bt' BB.out b)
  replace Bq := hide' (own_mono Bq.out b)
  replace Lx := hide' (ownF_keep Lx.out b)
  replace Bx := hide' (own_mono Bx.out b)
  replace Tx := hide' (ownF_keep Tx.out b)
  replace Px := hide' (cells_below Px.out b)
  replace Ly := hide' (ownF_keep Ly.out b)
  replace By := hide' (own_mono By.out b)
  replace Ty := hide' (ownF_keep Ty.out b)
  replace Py := hide' (cells_below Py.out b)
  replace Ls := hide' (ownF_keep Ls.out b)
  replace Bs := hide' (own_mono Bs.out b)
  replace Ts := hide' (ownF_keep Ts.out b)
  replace Ps := hide' (cells_below Ps.out b)
  replace Lt := hide' (ownF_keep Lt.out b)
  replace Bt := hide' (own_mono Bt.out b)
  replace Tt := hide' (ownF_keep Tt.out b)
  replace Pt := hide' (cells_below Pt.out b)
  replace Lm := hide' (ownF_keep Lm.out b)
  replace Bm := hide' (own_mono Bm.out b)
  replace Tm := hide' (ownF_keep Tm.out b)
  replace Pm := hide' (cells_below Pm.out b)
  replace Lo := hide' (ownF_keep Lo.out b)
  replace Bo := hide' (own_mono Bo.out b)
  replace To := hide' (ownF_keep To.out b)
  replace Po := hide' (cells_below Po.out b)
  clear b
  have Zx := hide' (ownZ_of Lx.out)
  have Zy := hide' (ownZ_of Ly.out)
  have Zm := hide' (ownZ_of Lm.out)
  have Yx := hide' (rowB_of Bx.out)
  have Yy := hide' (rowB_of By.out)
  have Ys := hide' (rowB_of Bs.out)
  have Yt := hide' (rowB_of Bt.out)
  have Yq := hide' (rowB_of Bq.out)
  clear Lx Tx Ly Ty Ls Ts Lt Tt Lm Tm Lo To Bx By Bs Bt Bm Bo Bq
  have SS : Hid (w0.heap.size ≤ w1.heap.size ∧ w1.heap.size ≤ w2.heap.size ∧ w2.heap.size + 1 ≤ w3.heap.size ∧ w3.heap.size + 1 ≤ w4.heap.size ∧ w4.heap.size + 1 ≤ w5.heap.size ∧ w5.heap.size + 1 ≤ w6.heap.size ∧ w6.heap.size + 1 ≤ w7.heap.size) := ⟨S1.out, S2.out, S3.out, S4.out, S5.out, S6.out, S7.out⟩
  have DJ : Hid (Dj5 (pvA5 [(Value.slice bax bd.length bcx), (Value.slice bay bd.length bcy), (Value.slice bas bd'.length bcs), (Value.slice bat bd'.length bct), (Value.slice qa bs.length qc)])) := by
    refine dj5 (npA5 [w1.heap.size, w2.heap.size + 1, w3.heap.size + 1, w4.heap.size + 1, w0.heap.size]) (npA5 [w2.heap.size, w3.heap.size, w4.heap.size, w5.heap.size, w1.heap.size]) ?_ ?_
    · intro i hi
      match i, hi with
      | 0, _ => exact bandx.out
      | 1, _ => exact bandy.out
      | 2, _ => exact bands.out
      | 3, _ => exact bandt.out
      | 4, _ => exact bandq.out
    · have c := SS.out
      intro i j hi hj hne
      have ci : i = 0 ∨ i = 1 ∨ i = 2 ∨ i = 3 ∨ i = 4 := by omega
      have cj : j = 0 ∨ j = 1 ∨ j = 2 ∨ j = 3 ∨ j = 4 := by omega
      rcases ci with rfl | rfl | rfl | rfl | rfl <;> rcases cj with rfl | rfl | rfl | rfl | rfl <;> simp [npA5] at hne ⊢ <;> omega
  have AP := hide' (apart5 w11 (Value.slice bax bd.length bcx) (Value.slice bay bd.length bcy) (Value.slice bas bd'.length bcs) (Value.slice bat bd'.length bct) (Value.slice qa bs.length qc) bd.length bd.length bd'.length bd'.length bs.length ⟨_, Yx.out⟩ ⟨_, Yy.out⟩ ⟨_, Ys.out⟩ ⟨_, Yt.out⟩ ⟨_, Yq.out⟩ DJ.out (by
    intro i hi
    match i, hi with
    | 0, _ => show bd.length ≤ 100000000; omega
    | 1, _ => show bd.length ≤ 100000000; omega
    | 2, _ => show bd'.length ≤ 100000000; omega
    | 3, _ => show bd'.length ≤ 100000000; omega
    | 4, _ => show bs.length ≤ 100000000; omega))
  obtain ⟨⟨pc0, pc1, pc2, pc3, pc4, pc5, pc6, pc7, pc8, pc9⟩, _⟩ := cells_ten Px.out
  obtain ⟨⟨qc0, qc1, qc2, qc3, qc4, qc5, qc6, qc7, qc8, qc9⟩, _⟩ := cells_ten Py.out
  obtain ⟨⟨uc0, uc1, uc2, uc3, uc4, uc5, uc6, uc7, uc8, uc9⟩, _⟩ := cells_ten Ps.out
  obtain ⟨⟨vc0, vc1, vc2, vc3, vc4, vc5, vc6, vc7, vc8, vc9⟩, _⟩ := cells_ten Pt.out
  go_wp2_with fail
  refine AP.out.mono ?_
  rintro e w12 ⟨rfl, hf⟩
  clear pc0 pc1 pc2 pc3 pc4 pc5 pc6 pc7 pc8 pc9 qc0 qc1 qc2 qc3 qc4 qc5 qc6 qc7 qc8 qc9 uc0 uc1 uc2 uc3 uc4 uc5 uc6 uc7 uc8 uc9 vc0 vc1 vc2 vc3 vc4 vc5 vc6 vc7 vc8 vc9
  have FA := hide' hf
  clear hf AP
  replace Zx := hide' (ownZ_far Zx.out FA.out (fun k e e2 => by
    obtain ⟨i, hi, e2⟩ := e2
    match i, hi with
    | 0, _ => exact row_types Zx.out Yx.out (by decide) k e e2
    | 1, _ => exact row_types Zx.out Yy.out (by decide) k e e2
    | 2, _ => exact row_types Zx.out Ys.out (by decide) k e e2
    | 3, _ => exact row_types Zx.out Yt.out (by decide) k e e2
    | 4, _ => exact row_types Zx.out Yq.out (by decide) k e e2))
  replace Zy := hide' (ownZ_far Zy.out FA.out (fun k e e2 => by
    obtain ⟨i, hi, e2⟩ := e2
    match i, hi with
    | 0, _ => exact row_types Zy.out Yx.out (by decide) k e e2
    | 1, _ => exact row_types Zy.out Yy.out (by decide) k e e2
    | 2, _ => exact row_types Zy.out Ys.out (by decide) k e e2
    | 3, _ => exact row_types Zy.out Yt.out (by decide) k e e2
    | 4, _ => exact row_types Zy.out Yq.out (by decide) k e e2))
  replace Zm := hide' (ownZ_far Zm.out FA.out (fun k e e2 => by
    obtain ⟨i, hi, e2⟩ := e2
    match i, hi with
    | 0, _ => exact row_types Zm.out Yx.out (by decide) k e e2
    | 1, _ => exact row_types Zm.out Yy.out (by decide) k e e2
    | 2, _ => exact row_types Zm.out Ys.out (by decide) k e e2
    | 3, _ => exact row_types Zm.out Yt.out (by decide) k e e2
    | 4, _ => exact row_types Zm.out Yq.out (by decide) k e e2))
  replace Px := hide' (blk_far Px.out FA.out (fun e2 => by
    have c := SS.out
    obtain ⟨i, hi, e2⟩ := e2
    match i, hi with
    | 0, _ => have d := bandx.out _ e2; omega
    | 1, _ => have d := bandy.out _ e2; omega
    | 2, _ => have d := bands.out _ e2; omega
    | 3, _ => have d := bandt.out _ e2; omega
    | 4, _ => have d := bandq.out _ e2; omega))
  replace Py := hide' (blk_far Py.out FA.out (fun e2 => by
    have c := SS.out
    obtain ⟨i, hi, e2⟩ := e2
    match i, hi with
    | 0, _ => have d := bandx.out _ e2; omega
    | 1, _ => have d := bandy.out _ e2; omega
    | 2, _ => have d := bands.out _ e2; omega
    | 3, _ => have d := bandt.out _ e2; omega
    | 4, _ => have d := bandq.out _ e2; omega))
  replace Pm := hide' (blk_far Pm.out FA.out (fun e2 => by
    have c := SS.out
    obtain ⟨i, hi, e2⟩ := e2
    match i, hi with
    | 0, _ => have d := bandx.out _ e2; omega
    | 1, _ => have d := bandy.out _ e2; omega
    | 2, _ => have d := bands.out _ e2; omega
    | 3, _ => have d := bandt.out _ e2; omega
    | 4, _ => have d := bandq.out _ e2; omega))
  obtain ⟨⟨pc0, pc1, pc2, pc3, pc4, pc5, pc6, pc7, pc8, pc9⟩, _⟩ := cells_ten Px.out
  go_wp2_with fail
  refine (markedC _ fs.length 0 _ ⟨_, Zx.out⟩ (Nat.zero_le _) (by omega)).mono ?_
  rintro e w13 ⟨rfl, hf⟩
  have FM := hide' hf
  clear hf
  clear pc0 pc1 pc2 pc3 pc4 pc5 pc6 pc7 pc8 pc9
  replace Zy := hide' (ownZ_far Zy.out FM.out (fun k e e2 => by have a := bandlx.out k e2; have b := bandly.out k e; have c := SS.out; omega))
  replace Zm := hide' (ownZ_far Zm.out FM.out (fun k e e2 => by have a := bandlx.out k e2; have b := bandlm.out k e; have c := SS.out; omega))
  replace Py := hide' (blk_far Py.out FM.out (fun e2 => by have a := bandlx.out _ e2; have c := SS.out; omega))
  replace Pm := hide' (blk_far Pm.out FM.out (fun e2 => by have a := bandlx.out _ e2; have c := SS.out; omega))
  obtain ⟨⟨pc0, pc1, pc2, pc3, pc4, pc5, pc6, pc7, pc8, pc9⟩, _⟩ := cells_ten Py.out
  obtain ⟨⟨qc0, qc1, qc2, qc3, qc4, qc5, qc6, qc7, qc8, qc9⟩, _⟩ := cells_ten Pm.out
  go_wp2_with fail
  refine (sameRq m t k fs _ _ _ (ownZ_holds Zy.out) (ownZ_holds Zm.out) (by omega)).mono ?_
  rintro e w14 ⟨rfl, b⟩
  clear pc0 pc1 pc2 pc3 pc4 pc5 pc6 pc7 pc8 pc9 qc0 qc1 qc2 qc3 qc4 qc5 qc6 qc7 qc8 qc9
  have BF : Hid (Below w.heap.size w w14) := by
    have b0 := BB.out
    have s0 := S0.out
    have c := SS.out
    have f1 : Far (fun k => w.heap.size ≤ k) w11 w12 := ⟨FA.out.1, FA.out.2.1, FA.out.2.2.1, FA.out.2.2.2.1, fun k hk hn => FA.out.2.2.2.2 k hk (fun e => hn (by
      obtain ⟨i, hi, e⟩ := e
      match i, hi with
      | 0, _ => have := bandx.out k e; omega
      | 1, _ => have := bandy.out k e; omega
      | 2, _ => have := bands.out k e; omega
      | 3, _ => have := bandt.out k e; omega
      | 4, _ => have := bandq.out k e; omega))⟩
    have f2 : Far (fun k => w.heap.size ≤ k) w12 w13 := ⟨FM.out.1, FM.out.2.1, FM.out.2.2.1, FM.out.2.2.2.1, fun k hk hn => FM.out.2.2.2.2 k hk (fun e => hn (by have := bandlx.out k e; omega))⟩
    have f3 := far_trans (far_trans f1 f2 (fun k _ e => e)) (far_of_below b) (fun k _ e => absurd e (fun e => e))
    exact b0.trans (below_far f3 w.heap.size b0.size (fun k hk => hk))
  clear b FA FM SS DJ
  go_wp2_with fail
  go_ret
  exact ⟨rfl, BF.out⟩
theorem walk (v : Value) (bs : List UInt8) (x : ByteArray) (w : World) (hv : HoldsB w v bs) (hl : bs.length ≤ 1048576) (E : Env w) (R : Er w) :
    Calls Tryz.prog 4 #[v, .string x] w fun e w' => e = .returned (.bool true) ∧ Below w.heap.size w w' := by
  have h := walk0 v bs x.data.toList w hv hl E R
  rw [ba_eta] at h
  exact h
end inboxMemory
end Go.Proofs.YtmikgpmnffdnnabGreatDoor
