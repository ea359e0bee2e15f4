/- The contract of Cut. -/
import Derived.Test.YtmikgpmnffdnnaaGreatDoorCt
namespace Go.Proofs.YtmikgpmnffdnnaaGreatDoor
open Go.RowKit
/-- how far Cut has come: c bytes are cut off into pieces -/
def CutI (w : World) (bs : List UInt8) (bv ov : Value) (c i : Nat) (W : World) : Prop :=
  c ≤ bs.length ∧ HoldsB w bv (bs.drop c) ∧ Below w.heap.size w W ∧ ∃ us ps, Pcz w.heap.size ov us ps W ∧ ps.flatten = bs.take c ∧ us.length = i
theorem cut_step {w W w1 w2 : World} {bs : List UInt8} {ov u ov' bv' : Value} {c i n : Nat} {us : List Value} {ps : List (List UInt8)} (hB : Below w.heap.size w W) (hp : Pcz w.heap.size ov us ps W) (hf : ps.flatten = bs.take c) (hi : us.length = i) (hn : n ≤ bs.length - c) (hc : c ≤ bs.length) (ho : Own W u ((bs.drop c).take n) w1) (hbv : HoldsB w bv' (bs.drop (c + n)))
    (h1 : w2.ownsRow w.heap.size 22 1 ov' (us ++ [u]).length (us ++ [u])) (hb : Below w.heap.size w1 w2) (h2 : ∀ (k : Nat) (xs : Array Value), w1.heap[k]? = some (Obj.cells xs 5) → w2.heap[k]? = w1.heap[k]?) : CutI w bs bv' ov' (c + n) (i + 1) w2 := by
  have hp1 := pcz_below hp ho.2
  refine ⟨by omega, hbv, hB.trans ((ho.2.mono hB.size).trans hb), us ++ [u], ps ++ [(bs.drop c).take n], pcz_add hp1 (row_base ho.1 hB.size) h1 h2, ?_, by rw [List.length_append, hi]; rfl⟩
  rw [List.flatten_append, hf, List.flatten_singleton, List.take_add]
theorem cut_end {w W w1 w2 : World} {bs : List UInt8} {ov u ov' : Value} {c : Nat} {us : List Value} {ps : List (List UInt8)} (hB : Below w.heap.size w W) (hp : Pcz w.heap.size ov us ps W) (hf : ps.flatten = bs.take c) (ho : Own W u (bs.drop c) w1)
    (h1 : w2.ownsRow w.heap.size 22 1 ov' (us ++ [u]).length (us ++ [u])) (hb : Below w.heap.size w1 w2) (h2 : ∀ (k : Nat) (xs : Array Value), w1.heap[k]? = some (Obj.cells xs 5) → w2.heap[k]? = w1.heap[k]?) : Pcz w.heap.size ov' (us ++ [u]) (ps ++ [bs.drop c]) w2 ∧ (ps ++ [bs.drop c]).flatten = bs ∧ Below w.heap.size w w2 := by
  have hp1 := pcz_below hp ho.2
  refine ⟨pcz_add hp1 (row_base ho.1 hB.size) h1 h2, ?_, hB.trans ((ho.2.mono hB.size).trans hb)⟩
  rw [List.flatten_append, hf, List.flatten_singleton, List.take_append_drop]
set_option maxRecDepth 100000 in
set_option maxHeartbeats 8000000 in
theorem cutC (v zv : Value) (bs : List UInt8) (zs : List Int) (w : World) (hv : HoldsB w v bs) (hz : HoldsI w zv zs) (hl : bs.length ≤ 1048576) (hzl : zs.length ≤ 1048576) :
    Calls Tryz.prog 21 #[v, zv] w fun e w' => ∃ ov us ps, e = .returned ov ∧ Pcz w.heap.size ov us ps w' ∧ ps.flatten = bs ∧ us.length ≤ zs.length + 1 ∧ Below w.heap.size w w' := by
  have HV := hide' hv
  have HZ := hide' hz
  obtain ⟨ao, cap, rfl, h0, hcp, _⟩ := hv
  obtain ⟨za, zc, rfl, hz0, hzc, hzz⟩ := hz
  obtain ⟨Z, hZ⟩ : ∃ Z, Z = zs.length := ⟨_, rfl⟩
  have HZL := hide' hZ
  have HZZ := hide' hzz
  rw [← hZ] at hzc hzl ⊢
  have I0 : Hid (CutI w bs (.slice ao bs.length cap) (.slice (some ⟨w.heap.size, 0, none⟩) 0 0) 0 0 (w.alloc (.cells #[] 22))) :=
    ⟨Nat.zero_le _, by rw [List.drop_zero]; exact HV.out, below_alloc' _ _, [], [], ⟨World.ownsRow_lit w #[] 0 (Nat.le_refl _) (by decide) rfl, rfl, fun j h => absurd h (by simp)⟩, by simp, rfl⟩
  clear hzz hZ h0 hcp
  go_enter Tryz.func21, Tryz.ntmps21
  go_wp2_with fail
  go_loopw [0, 5, 6, 7] (fun bv ov iv _ wr => ∃ (c i : Nat), iv = .int .i64 i ∧ i ≤ Z ∧ Hid (CutI w bs bv ov c i wr)) (fun _ _ iv _ _ => Z - (intOf iv).toNat)
  case atStart => exact ⟨0, 0, rfl, Nat.zero_le _, I0.out⟩
  case round =>
    obtain ⟨c, i, rfl, hi, CI⟩ := hrel
    obtain ⟨hc, hbv, hB, us, ps, hp, hf, hui⟩ := CI.out
    obtain ⟨ba, bc, hbvv, hbc⟩ := holdsB_parts hbv
    obtain ⟨oa, oc, hov⟩ := row_slice hp.1
    subst hbvv hov
    have hdl : (bs.drop c).length = bs.length - c := List.length_drop
    have HBV := hide' hbv
    have HB := hide' hB
    have HP0 := hide' hp
    have HF := hide' hf
    have HUI := hide' hui
    have HDL := hide' hdl
    rw [hdl] at hbc HBV ⊢
    rw [hui] at HP0 ⊢
    obtain ⟨M, hM⟩ : ∃ M, M = bs.length - c := ⟨_, rfl⟩
    have HM := hide' hM
    rw [← hM] at hbc HBV ⊢
    clear hbv hB hp hf hui hdl hM CI
    have hMl : M ≤ 1048576 := by have := HM.out; omega
    have key : ∀ (n : Nat), n ≤ M → ∃ pa pc sv, (∀ W, Sem.run Tryz.prog (Instr.slice 22 (.slice ba M bc) none (some (.int .i64 (n : Int))) none) W = .ok (.slice pa n pc) W) ∧ (∀ W, Sem.run Tryz.prog (Instr.slice 22 (.slice ba M bc) (some (.int .i64 (n : Int))) none none) W = .ok sv W) ∧ HoldsB w sv (bs.drop (c + n)) ∧ Calls Tryz.prog 18 #[.slice pa n pc] wr fun e w' => ∃ xa xc, e = .returned (.slice xa n xc) ∧ Own wr (.slice xa n xc) ((bs.drop c).take n) w' := by
      intro n hn
      have hv2 := HBV.out
      have hdl := HDL.out
      rw [HM.out, ← hdl] at hv2
      obtain ⟨pv, sl, HP⟩ := holdsB_take hv2 n (by rw [hdl, ← HM.out]; exact hn)
      obtain ⟨pa, pc, hpv, _⟩ := holdsB_parts HP
      have tl : ((bs.drop c).take n).length = n := by rw [List.length_take, hdl, ← HM.out]; omega
      rw [tl] at hpv
      subst hpv
      have sf := fun W => from_run ba (bs.drop c).length bc n (by rw [hdl, ← HM.out]; exact hn) (by rw [hdl, ← HM.out]; exact hbc) W
      have HS := holdsB_suf hv2 n (by rw [hdl, ← HM.out]; exact hn)
      rw [List.drop_drop] at HS
      rw [hdl, ← HM.out] at sl sf HS
      refine ⟨pa, pc, _, sl, sf, HS, (copyB _ _ wr (holdsB_mono HP HB.out) (by rw [tl]; omega)).mono ?_⟩
      rintro e w' ⟨u, rfl, ho⟩
      obtain ⟨xa, xc, hu, _⟩ := holdsB_own ho
      rw [tl] at hu
      subst hu
      exact ⟨xa, xc, rfl, ho⟩
    have fin : ∀ (xa : Option Addr) (n xc : Nat) (w1 : World), True := fun _ _ _ _ => trivial
    clear fin
    by_cases hlt : i < Z
    · have hlt' : (i : Int) < (Z : Int) := by omega
      by_cases hpos : 0 < M
      · have hpos' : (0 : Int) < (M : Int) := by omega
        obtain ⟨zb, zo, rfl, hzlt, hcell⟩ := HZZ.out (fun e => by have := HZL.out; rw [e] at this; simp at this; omega)
        have ck := hcell i (by rw [← HZL.out]; exact hlt)
        rw [← HB.out.cell (p := ⟨zb, zo + i, none⟩) hzlt] at ck
        obtain ⟨n, hn, hn63⟩ := and63 (zs[i]'(by rw [← HZL.out]; exact hlt))
        generalize zs[i]'(by rw [← HZL.out]; exact hlt) = z at ck hn
        clear hcell
        by_cases hgt : M < n
        · have hgt' : (M : Int) < (n : Int) := by omega
          obtain ⟨pa, pc, sv, sl, sf, HS, C⟩ := key M (Nat.le_refl _)
          have CC := hide' C
          have HS' := hide' HS
          clear key C HS
          go_wp2_with fail
          refine CC.out.mono ?_
          rintro e w1 ⟨xa, xc, rfl, ho⟩
          have HO := hide' ho
          have R1 := hide' (row_below HP0.out.1 ho.2)
          have B1 := hide' (Nat.le_trans HB.out.size ho.2.size)
          clear ho CC
          go_wp2_with (at_builtin; refine app1L rfl (.tmp 31) (.tmp 36) rfl w.heap.size _ us rfl R1.out B1.out xa M xc rfl (by rw [HUI.out]; omega) ?_; intro v2 w2 row2 bel2 ty2)
          go_roundw
          case rel => exact ⟨c + M, i + 1, by go_num, by omega, cut_step HB.out HP0.out HF.out HUI.out (by have := HM.out; omega) hc HO.out HS'.out row2 bel2 ty2⟩
          case measure => simp [intOf]; omega
        · have hgt' : ¬ (M : Int) < (n : Int) := by omega
          obtain ⟨pa, pc, sv, sl, sf, HS, C⟩ := key n (by omega)
          have CC := hide' C
          have HS' := hide' HS
          clear key C HS
          go_wp2_with fail
          refine CC.out.mono ?_
          rintro e w1 ⟨xa, xc, rfl, ho⟩
          have HO := hide' ho
          have R1 := hide' (row_below HP0.out.1 ho.2)
          have B1 := hide' (Nat.le_trans HB.out.size ho.2.size)
          clear ho CC
          go_wp2_with (at_builtin; refine app1L rfl (.tmp 31) (.tmp 36) rfl w.heap.size _ us rfl R1.out B1.out xa n xc rfl (by rw [HUI.out]; omega) ?_; intro v2 w2 row2 bel2 ty2)
          go_roundw
          case rel => exact ⟨c + n, i + 1, by go_num, by omega, cut_step HB.out HP0.out HF.out HUI.out (by have := HM.out; omega) hc HO.out HS'.out row2 bel2 ty2⟩
          case measure => simp [intOf]; omega
      · obtain rfl : M = 0 := by omega
        obtain ⟨pa, pc, sv, sl, sf, HS, C⟩ := key 0 (Nat.le_refl _)
        have tk : (bs.drop c).take 0 = bs.drop c := List.take_of_length_le (by rw [HDL.out, ← HM.out]; exact Nat.le_refl _)
        have C2 := copyB (.slice ba 0 bc) (bs.drop c) wr (holdsB_mono HBV.out HB.out) (by rw [HDL.out]; omega)
        have CC := hide' C2
        clear key C HS sl sf C2 tk
        go_wp2_with fail
        refine CC.out.mono ?_
        rintro e w1 ⟨u, rfl, ho⟩
        obtain ⟨xa, xc, hu, _⟩ := holdsB_own ho
        rw [HDL.out, ← HM.out] at hu
        subst hu
        have HO := hide' ho
        have R1 := hide' (row_below HP0.out.1 ho.2)
        have B1 := hide' (Nat.le_trans HB.out.size ho.2.size)
        clear ho CC
        go_wp2_with (at_builtin; refine app1L rfl (.tmp 41) (.tmp 44) rfl w.heap.size _ us rfl R1.out B1.out xa 0 xc rfl (by rw [HUI.out]; omega) ?_; intro v2 w2 row2 bel2 ty2)
        go_ret
        obtain ⟨z1, z2, z3⟩ := cut_end HB.out HP0.out HF.out HO.out row2 bel2 ty2
        exact ⟨v2, _, _, rfl, z1, z2, by rw [List.length_append, HUI.out]; show _ + 1 ≤ _ + 1; omega, z3⟩
    · obtain rfl : i = Z := by omega
      obtain ⟨pa, pc, sv, sl, sf, HS, C⟩ := key M (Nat.le_refl _)
      have tk : (bs.drop c).take M = bs.drop c := List.take_of_length_le (by rw [HDL.out, ← HM.out]; exact Nat.le_refl _)
      have C2 := copyB (.slice ba M bc) (bs.drop c) wr (holdsB_mono HBV.out HB.out) (by rw [HDL.out]; omega)
      have CC := hide' C2
      clear key C HS sl sf C2 tk
      go_wp2_with fail
      refine CC.out.mono ?_
      rintro e w1 ⟨u, rfl, ho⟩
      obtain ⟨xa, xc, hu, _⟩ := holdsB_own ho
      rw [HDL.out, ← HM.out] at hu
      subst hu
      have HO := hide' ho
      have R1 := hide' (row_below HP0.out.1 ho.2)
      have B1 := hide' (Nat.le_trans HB.out.size ho.2.size)
      clear ho CC
      go_wp2_with (at_builtin; refine app1L rfl (.tmp 41) (.tmp 44) rfl w.heap.size _ us rfl R1.out B1.out xa M xc rfl (by rw [HUI.out]; omega) ?_; intro v2 w2 row2 bel2 ty2)
      go_ret
      obtain ⟨z1, z2, z3⟩ := cut_end HB.out HP0.out HF.out HO.out row2 bel2 ty2
      exact ⟨v2, _, _, rfl, z1, z2, by rw [List.length_append, HUI.out]; show _ + 1 ≤ _ + 1; omega, z3⟩
end Go.Proofs.YtmikgpmnffdnnaaGreatDoor
