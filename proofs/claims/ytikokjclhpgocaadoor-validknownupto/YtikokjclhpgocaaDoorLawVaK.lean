/- The walk of ValidKnown. -/
import Derived.Test.YtikokjclhpgocaaDoorLawVaA
import Derived.Test.YtikokjclhpgocaaDoorVaU
import Derived.Deep.Cut
namespace Go.Proofs.YtikokjclhpgocaaDoor
open Go.RowKit
/-- no value has a byte 92 -/
def No92 (l : FL) : Prop := ∀ f ∈ l, ∀ c ∈ f.2, ¬ (c.toNat : Int) = 92
theorem ask_mem (D : List UInt8 → Int) (fs : FL) : ∀ f ∈ askOf D fs, f.1.length ≤ 17 ∧ f.2.length ≤ 2 * bulkF fs := by
  intro f hf
  have g1 := getJ_len fs etN
  have g2 := getJ_len fs lmN
  unfold askOf at hf
  rcases List.mem_append.1 hf with h | h
  · unfold askT at h
    split at h
    · obtain rfl := List.mem_singleton.1 h
      exact ⟨show inN.length ≤ 17 by decide, g1⟩
    · cases h
  · unfold askD at h
    split at h
    · obtain rfl := List.mem_singleton.1 h
      exact ⟨show imN.length ≤ 17 by decide, g2⟩
    · cases h
theorem bulk_max : ∀ (l : FL) (a b : Nat), (∀ f ∈ l, f.1.length ≤ a ∧ f.2.length ≤ b) → bulkF l ≤ l.length * (a + b + 3) := by
  intro l
  induction l with
  | nil => intro a b _; simp [bulkF]
  | cons f r ih =>
    intro a b h
    have h1 := h f List.mem_cons_self
    have h2 := ih a b (fun g hg => h g (List.mem_cons_of_mem _ hg))
    simp only [bulkF, List.length_cons]
    rw [Nat.succ_mul]
    omega
theorem ask_bulk (D : List UInt8 → Int) (fs : FL) (hb : bulkF fs ≤ 1048576) : bulkF (askOf D fs) ≤ 9000000 := by
  have h1 := bulk_max _ 17 (2 * 1048576) (fun f hf => by have := ask_mem D fs f hf; exact ⟨this.1, by omega⟩)
  have h2 := ask_len D fs
  have h3 : (askOf D fs).length * (17 + 2 * 1048576 + 3) ≤ 2 * (17 + 2 * 1048576 + 3) := Nat.mul_le_mul_right _ h2
  omega
set_option maxHeartbeats 8000000 in
set_option maxRecDepth 20000 in
theorem knownW (s k : Int) (zr : List UInt8) (lv : Value) (fs : FL) (w : World) (hv : HoldsF w lv fs) (hb : bulkF fs ≤ 1048576) (E : EvD w) :
    Calls Tryd.prog 5 #[.agg #[.int .i64 s, .string ⟨zr.toArray⟩, .int .i64 k, lv]] w fun e w' => e = .returned (.bool true) ∧ Below w.heap.size w w' := by
  have hl := bulkF_len fs
  have al := ask_len dtF fs
  have D2 := hide' (dtJ fs lmN (by omega))
  have ab := ask_bulk dtF fs hb
  have D1 := hide' (dtJ (askOf dtF fs) imN ab)
  have am := hide' (ask_mem dtF fs)
  have kA := hide' (fun u W (h : Below w.heap.size w W) (hu : HoldsF W u fs) => askC 200 k zr u fs dtF W hu hb (evD_below E h) D2.out.1)
  have kU := hide' (fun y u W (h : Below w.heap.size w W) (hy : HoldsF W y (askOf dtF fs)) (hu : HoldsF W u fs) => unchC 200 k zr y u (askOf dtF fs) fs dtF W hy hu hb ab (fun f hf => by have := am.out f hf; omega) (evD_below E h) D1.out.1 D2.out.1)
  have kC := hide' (fun u W (hu : HoldsF W u fs) => copyRs 200 k zr fs u W hu (by omega))
  have KN := hide' (known dtF dtF_nil fs)
  have VL := hide' (fun f (hf : f ∈ askOf dtF fs) => (show f.2.length ≤ 4194304 from by have := am.out f hf; omega))
  have HV := hide' hv
  obtain ⟨la, lc, _, _, el, -⟩ := holdsF_parts hv
  subst el
  clear hv E D1 D2 am ab
  generalize unchOf dtF (askOf dtF fs) 200 fs = ub at kU KN
  generalize askOf dtF fs = ak at kA kU KN al VL
  generalize hn : fs.length = n at HV ⊢
  have N := hide' hn
  clear hn
  generalize hR : (⟨zr.toArray⟩ : ByteArray) = R at kA kU kC ⊢
  clear hR
  have b0 := below_alloc' w (.cells #[.int .i64 s, .string R, .int .i64 k, .slice la n lc] 24)
  have B0 := hide' b0
  have P0 := hide' (show Blk w.heap.size (w.alloc (.cells #[.int .i64 s, .string R, .int .i64 k, .slice la n lc] 24)) [.int .i64 s, .string R, .int .i64 k, .slice la n lc] from cells_lit w _ _)
  have c0 := hide' (aliveVa (w.alloc (.cells #[.int .i64 s, .string R, .int .i64 k, .slice la n lc] 24)))
  clear b0
  go_enter Tryd.func5, Tryd.ntmps5
  go_wp2_with fail
  refine c0.out.mono ?_
  rintro e w1 ⟨rfl, b1⟩
  have P1 := hide' (cells_below P0.out b1)
  have B2 := hide' ((bt' B0.out b1).setCell (p := ⟨w.heap.size, 0, none⟩) (Nat.le_refl _) (.int .i64 200))
  have P2 := hide' (show Blk w.heap.size (w1.setCell ⟨w.heap.size, 0, none⟩ (.int .i64 200)) [.int .i64 200, .string R, .int .i64 k, .slice la n lc] from cells_set P1.out (by simp) (.int .i64 200))
  obtain ⟨i0, i1, i2, i3, iz⟩ := blk4 P1.out
  have F1 := (P1.out.1 0 (by simp)).2
  clear b1 c0 B0 P0
  go_upto_region 4 with fail
  generalize w1.setCell ⟨w.heap.size, 0, none⟩ (.int .i64 200) = w2 at B2 P2 ⊢
  clear i0 i1 i2 i3 iz F1 P1
  obtain ⟨i0, i1, i2, i3, iz⟩ := blk4 P2.out
  go_wp2_with fail
  refine (kC.out _ _ (holdsF_mono HV.out B2.out)).mono ?_
  rintro e w3 ⟨u3, rfl, ho⟩
  obtain ⟨oa, oc, _, _, eo, -⟩ := holdsF_parts (holdsF_own ho)
  have hx := holdsF_own ho
  rw [N.out] at eo
  rw [eo] at hx ⊢
  have B3 := hide' (bt' B2.out ho.2)
  have P3 := hide' (cells_below P2.out ho.2)
  have X3 := hide' hx
  clear ho hx eo i0 i1 i2 i3 iz B2 P2
  go_wp2_with fail
  refine (kA.out _ _ B3.out X3.out).mono ?_
  rintro e w4 ⟨u4, rfl, ho⟩
  obtain ⟨aa, ac, b4, o4, ea, hc⟩ := holdsF_parts (holdsF_own ho)
  have hx := holdsF_own ho
  have C := hide' hc
  rw [ea] at hx ⊢
  have B4 := hide' (bt' B3.out ho.2)
  have P4 := hide' (cells_below P3.out ho.2)
  have A4 := hide' hx
  clear ho hx ea hc B3 P3 X3 kA
  have kU4 := hide' (fun u W (h : Below w4.heap.size w4 W) (hu : HoldsF W u fs) => kU.out _ u W (bt' B4.out h) (holdsF_mono A4.out h) hu)
  clear kU
  obtain ⟨i0, i1, i2, i3, iz⟩ := blk4 P4.out
  by_cases he : ak = []
  · have F := hide' (show ub = false from by rw [KN.out (fun f hf => by rw [he] at hf; cases hf), he]; rfl)
    have L0 : Hid (ak.length = 0) := by unfold Hid; rw [he]; rfl
    rw [F.out] at kU4
    rw [L0.out] at kU4 ⊢
    clear he KN VL C A4
    go_wp2_with fail
    refine (kC.out _ _ (holdsF_mono HV.out B4.out)).mono ?_
    rintro e w5 ⟨u5, rfl, ho⟩
    obtain ⟨oa5, oc5, _, _, eo, -⟩ := holdsF_parts (holdsF_own ho)
    have hx := holdsF_own ho
    rw [N.out] at eo
    rw [eo] at hx ⊢
    have B5 := hide' (bt' B4.out ho.2)
    have cU := hide' (kU4.out _ _ ho.2 hx)
    clear ho hx eo i0 i1 i2 i3 iz kU4 kC
    go_wp2_with fail
    refine cU.out.mono ?_
    rintro e w6 ⟨rfl, b6⟩
    have B6 := hide' (bt' B5.out b6)
    clear b6 cU
    go_wp2_with fail
    go_ret
    exact ⟨rfl, B6.out⟩
  · have hpos : 0 < ak.length := List.length_pos_iff.2 he
    have KT := hide' (fun h => (show ub = true from by rw [KN.out h, decide_eq_true he]))
    clear KN he
    obtain ⟨m, em⟩ : ∃ m, m = ak.length := ⟨_, rfl⟩
    have M : Hid (ak.length = m) := em.symm
    rw [M.out] at kU4 hpos al ⊢
    clear em
    go_wp2_with fail
    go_loop [4] (fun i => ∃ g : Nat, g ≤ m ∧ i = .int .i64 g ∧ Hid (No92 (ak.take g))) (fun i => m - (intOf i).toNat)
    case atStart => exact ⟨0, Nat.zero_le _, rfl, by unfold Hid; intro f hf; rw [List.take_zero] at hf; cases hf⟩
    case round =>
      obtain ⟨g, hg, rfl, HG⟩ := hrel
      by_cases hlt : g < m
      · have G : Hid (g < ak.length) := by unfold Hid; rw [M.out]; exact hlt
        obtain ⟨hao, hblt, hcell⟩ := C.out (by have := G.out; omega)
        subst hao
        have c2 := (hcell g G.out).2
        have vl := VL.out _ (List.getElem_mem G.out)
        have NX := hide' (fun (h : ∀ c ∈ (ak[g]'G.out).2, ¬ (c.toNat : Int) = 92) => (show No92 (ak.take (g + 1)) from by
          intro f hf
          rw [List.take_succ_eq_append_getElem G.out] at hf
          rcases List.mem_append.1 hf with hf | hf
          · exact HG.out f hf
          · obtain rfl := List.mem_singleton.1 hf; exact h))
        clear hcell HG
        generalize (ak[g]'G.out).2 = v at c2 vl NX
        obtain ⟨x, ex⟩ : ∃ x : ByteArray, x = ⟨v.toArray⟩ := ⟨_, rfl⟩
        have XV : Hid (x.data.toList = v) := by unfold Hid; rw [ex]
        have xs : x.size ≤ 4194304 := by rw [ex, size_l]; exact vl
        unfold S at c2
        rw [← ex] at c2
        clear ex vl
        go_wp2_with fail
        go_loop [5] (fun i => ∃ j : Nat, j ≤ x.size ∧ i = .int .i64 j ∧ Hid (∀ c ∈ x.data.toList.take j, ¬ (c.toNat : Int) = 92)) (fun i => x.size - (intOf i).toNat)
        case atStart => exact ⟨0, Nat.zero_le _, rfl, by unfold Hid; intro c hc; rw [List.take_zero] at hc; cases hc⟩
        case round =>
          obtain ⟨j, hj, rfl, HJ⟩ := hrel
          by_cases hjt : j < x.size
          · have hb := byte_lt x[j]
            by_cases h92 : (x[j].toNat : Int) = 92
            · have b92 : ((x[j].toNat : Int) == 92) = true := by simpa using h92
              clear h92 NX KT kU4
              go_wp2_with fail
              go_ret
              exact ⟨rfl, B4.out⟩
            · have b92 : ((x[j].toNat : Int) == 92) = false := by simpa using h92
              have J2 := hide' (show ∀ c ∈ x.data.toList.take (j + 1), ¬ (c.toNat : Int) = 92 from by
                intro c hc
                rw [take_snoc x j hjt] at hc
                rcases List.mem_append.1 hc with hc | hc
                · exact HJ.out c hc
                · obtain rfl := List.mem_singleton.1 hc; exact h92)
              clear h92 HJ
              go_wp2_with fail
              go_round
              case rel => exact ⟨j + 1, by omega, by go_num, J2⟩
              case measure => simp [intOf]; omega
          · have F := hide' (NX.out (by have := HJ.out; rw [take_all x j (by omega), XV.out] at this; exact this))
            clear NX HJ
            go_wp2_with fail
            go_round
            case rel => exact ⟨g + 1, by omega, by go_num, F⟩
            case measure => simp [intOf]; omega
      · have F := hide' (show ub = true from KT.out (by have := HG.out; rw [List.take_of_length_le (by rw [M.out]; omega)] at this; exact this))
        rw [F.out] at kU4
        clear KT HG C VL
        go_wp2_with fail
        refine (kC.out _ _ (holdsF_mono HV.out B4.out)).mono ?_
        rintro e w5 ⟨u5, rfl, ho⟩
        obtain ⟨oa5, oc5, _, _, eo, -⟩ := holdsF_parts (holdsF_own ho)
        have hx := holdsF_own ho
        rw [N.out] at eo
        rw [eo] at hx ⊢
        have B5 := hide' (bt' B4.out ho.2)
        have cU := hide' (kU4.out _ _ ho.2 hx)
        clear ho hx eo i0 i1 i2 i3 iz kU4 kC
        go_wp2_with fail
        refine cU.out.mono ?_
        rintro e w6 ⟨rfl, b6⟩
        have B6 := hide' (bt' B5.out b6)
        clear b6 cU
        go_wp2_with fail
        go_ret
        exact ⟨rfl, B6.out⟩
end Go.Proofs.YtikokjclhpgocaaDoor
