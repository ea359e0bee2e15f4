/- The contracts of second and Ask. -/
import Derived.Test.YtikokjclhpgocabDoorVaT
import Derived.Test.YtikokjclhpgocabDoorBo
import Derived.Test.YtikokjclhpgocabDoorFdG
import Derived.Test.YtikokjclhpgocabDoorBr
import Derived.Test.YtikokjclhpgocabDoorDtT
import Derived.Test.YtikokjclhpgocabDoorBm
import Derived.Test.YtikokjclhpgocabDoorBk
namespace Go.Proofs.YtikokjclhpgocabDoor
open Go.RowKit
theorem getJ_eq (fs : FL) (n : List UInt8) : joinOf (valsOf fs n) = getJ fs n := rfl
theorem vals_low2 (fs : FL) {a b : List UInt8} (h : lows a = lows b) : valsOf fs a = valsOf fs b := by unfold valsOf; rw [h]
theorem getJ_low (fs : FL) {a b : List UInt8} (h : lows a = lows b) : getJ fs a = getJ fs b := by unfold getJ; rw [vals_low2 fs h]
def etU : List UInt8 := [69, 84, 97, 103]
def lmU : List UInt8 := [76, 97, 115, 116, 45, 77, 111, 100, 105, 102, 105, 101, 100]
theorem getJ_et (fs : FL) : getJ fs etU = getJ fs etN := getJ_low fs (by decide)
theorem getJ_lm (fs : FL) : getJ fs lmU = getJ fs lmN := getJ_low fs (by decide)
theorem getJ_len (fs : FL) (n : List UInt8) : (getJ fs n).length ≤ 2 * bulkF fs := by
  have h1 := join_len (valsOf fs n)
  have h2 := bulk_vals fs n
  show (joinOf (valsOf fs n)).length ≤ _
  omega
theorem put_nil (n x : List UInt8) : putOf [] n x = [(n, x)] := rfl
theorem put_ask (y x : List UInt8) : putOf [(inN, y)] imN x = [(inN, y), (imN, x)] := by
  have ne : ¬ lows inN = lows imN := by decide
  unfold putOf withoutOf
  simp [ne]
/-- what Ask makes, step by step -/
theorem ask_step (D : List UInt8 → Int) (fs : FL) : askOf D fs = if 0 ≤ D (getJ fs lmN) then putOf (askT fs) imN (getJ fs lmN) else askT fs := by
  unfold askOf askD
  split
  · unfold askT
    split
    · rw [put_ask]; rfl
    · rw [put_nil]; rfl
  · rw [List.append_nil]
theorem blk4 {b : Nat} {W : World} {x0 x1 x2 x3 : Value} (h : Blk b W [x0, x1, x2, x3]) : W.cell? ⟨b, 0, none⟩ = some x0 ∧ W.cell? ⟨b, 1, none⟩ = some x1 ∧ W.cell? ⟨b, 2, none⟩ = some x2 ∧ W.cell? ⟨b, 3, none⟩ = some x3 ∧ b < W.heap.size :=
  ⟨(h.1 0 (by simp)).1, (h.1 1 (by simp)).1, (h.1 2 (by simp)).1, (h.1 3 (by simp)).1, h.2⟩
theorem fit_one {n x : List UInt8} (hn : n.length ≤ 140737488351232) (hx : x.length ≤ 140737488351232) : Fit [(n, x)] := by
  intro f hf
  obtain rfl := List.mem_singleton.1 hf
  exact ⟨hn, hx⟩
set_option maxHeartbeats 4000000 in
set_option maxRecDepth 20000 in
theorem askC (s k : Int) (r : List UInt8) (lv : Value) (fs : FL) (D : List UInt8 → Int) (w : World) (hv : HoldsF w lv fs) (hb : bulkF fs ≤ 1048576) (E : EvD w) (hD : DtP (getJ fs lmN) (D (getJ fs lmN))) :
    Calls Tryd.prog 6 #[.agg #[.int .i64 s, .string ⟨r.toArray⟩, .int .i64 k, lv]] w fun e w' => ∃ u, e = .returned u ∧ OwnF w u (askOf D fs) w' := by
  have AS := hide' (ask_step D fs)
  obtain ⟨res, eres⟩ : ∃ res, res = askOf D fs := ⟨_, rfl⟩
  rw [← eres]
  have RS := hide' (show res = if 0 ≤ D (getJ fs lmN) then putOf (if tagB (getJ fs etN) = true then [(inN, getJ fs etN)] else []) imN (getJ fs lmN) else (if tagB (getJ fs etN) = true then [(inN, getJ fs etN)] else []) from by rw [eres, AS.out]; rfl)
  clear eres
  obtain ⟨d0, d1, vd, er, hve, cA⟩ := hD
  have g1 := getJ_len fs etN
  have g2 := getJ_len fs lmN
  have CT := hide' (fun W => tagC (getJ fs etN) W (by omega))
  have CG := fun W (h : Below w.heap.size w W) => getTok lv fs etU W (holdsF_mono hv h) hb (by decide)
  have CL := fun W (h : Below w.heap.size w W) => getTok lv fs lmU W (holdsF_mono hv h) hb (by decide)
  simp only [getJ_eq, getJ_et] at CG
  simp only [getJ_eq, getJ_lm] at CL
  replace CG := hide' CG
  replace CL := hide' CL
  have CA := hide' (fun W (h : Below w.heap.size w W) => cA W (E.1.below h) (E.2.below h))
  have CP := hide' (fun (qv : Value) (qs : FL) (n x : List UInt8) (W : World) (hq : HoldsF W qv qs) (hf : Fit qs) (hn : n.length ≤ 1000) (hx : x.length ≤ 2 * bulkF fs) (hl : qs.length ≤ 1) => putTok qv qs n x W hq hf (by omega) (by omega) (by omega))
  obtain ⟨la, lc, _, _, el, -⟩ := holdsF_parts hv
  subst el
  clear hv cA E AS
  generalize decide (0 < (valsOf fs etU).length) = p1 at CG
  generalize decide (0 < (valsOf fs lmU).length) = p2 at CL
  generalize D (getJ fs lmN) = d at hve d0 d1 RS
  generalize getJ fs etN = je at CT CG g1 RS
  generalize getJ fs lmN = jm at CA CL g2 RS
  generalize fs.length = n at CG CL ⊢
  generalize bulkF fs = bk at CP g1 g2 hb
  generalize (⟨r.toArray⟩ : ByteArray) = R
  have P0 := hide' (show Blk w.heap.size (w.alloc (.cells #[.int .i64 s, .string R, .int .i64 k, .slice la n lc] 24)) [.int .i64 s, .string R, .int .i64 k, .slice la n lc] from cells_lit w _ _)
  have B0 := hide' (below_alloc' w (.cells #[.int .i64 s, .string R, .int .i64 k, .slice la n lc] 24))
  go_enter Tryd.func6, Tryd.ntmps6
  go_wp2_with fail
  refine (CG.out _ B0.out).mono ?_
  rintro e w1 ⟨rfl, b1⟩
  have B1 := hide' (bt' B0.out b1)
  have P1 := hide' (cells_below P0.out b1)
  clear b1 CG B0 P0
  go_wp2_with fail
  refine (CT.out _).mono ?_
  rintro e w2 ⟨rfl, b2⟩
  have B2 := hide' (bt' B1.out b2)
  have P2 := hide' (cells_below P1.out b2)
  clear b2 CT B1 P1
  cases ht : tagB je with
  | true =>
    simp only [ht, if_true] at RS
    go_wp2_with fail
    refine (CP.out _ [] inN je _ (holdsF_lit0 _) (fun f hf => by cases hf) (by decide) g1 (by simp)).mono ?_
    rintro e w3 ⟨u3, rfl, ho3⟩
    rw [put_nil] at ho3
    have O3 := hide' (ownF_base ho3 B2.out)
    have P3 := hide' (cells_below P2.out ho3.2)
    obtain ⟨a3, c3, _, _, e3, -⟩ := holdsF_parts (holdsF_own O3.out)
    rw [e3] at O3 ⊢
    clear ho3 B2 P2 e3 ht
    obtain ⟨i0, i1, i2, i3, iz⟩ := blk4 P3.out
    go_wp2_with fail
    refine (CL.out _ O3.out.2).mono ?_
    rintro e w4 ⟨rfl, b4⟩
    have O4 := hide' (ownF_mono O3.out b4)
    clear b4 CL O3 i0 i1 i2 i3 iz P3
    go_wp2_with fail
    refine (CA.out _ O4.out.2).mono ?_
    rintro e w5 ⟨rfl, b5⟩
    have O5 := hide' (ownF_mono O4.out b5)
    clear b5 CA O4
    rcases hve with ⟨hd, rfl, rfl⟩ | ⟨hd, rfl, rfl⟩
    · rw [if_neg (by omega)] at RS
      clear CP
      go_wp2_with fail
      go_ret
      exact ⟨_, rfl, by rw [RS.out]; exact O5.out⟩
    · rw [if_pos hd] at RS
      go_wp2_with fail
      refine (CP.out _ _ imN jm _ (holdsF_own O5.out) (fit_one (by decide) (by omega)) (by decide) g2 (by simp)).mono ?_
      rintro e w6 ⟨u6, rfl, ho6⟩
      have O6 := hide' (ownF_base ho6 O5.out.2)
      obtain ⟨a6, c6, _, _, e6, -⟩ := holdsF_parts (holdsF_own O6.out)
      rw [e6] at O6 ⊢
      clear ho6 CP e6 O5
      go_wp2_with fail
      go_ret
      exact ⟨_, rfl, by rw [RS.out]; exact O6.out⟩
  | false =>
    simp only [ht, Bool.false_eq_true, if_false] at RS
    obtain ⟨w3, ew⟩ : ∃ w3, w3 = w2 := ⟨_, rfl⟩
    subst ew
    have O3 := hide' (ownF_nil w w3 B2.out)
    have P3 := hide' P2.out
    clear B2 P2 ht
    obtain ⟨i0, i1, i2, i3, iz⟩ := blk4 P3.out
    go_wp2_with fail
    refine (CL.out _ O3.out.2).mono ?_
    rintro e w4 ⟨rfl, b4⟩
    have O4 := hide' (ownF_mono O3.out b4)
    clear b4 CL O3 i0 i1 i2 i3 iz P3
    go_wp2_with fail
    refine (CA.out _ O4.out.2).mono ?_
    rintro e w5 ⟨rfl, b5⟩
    have O5 := hide' (ownF_mono O4.out b5)
    clear b5 CA O4
    rcases hve with ⟨hd, rfl, rfl⟩ | ⟨hd, rfl, rfl⟩
    · rw [if_neg (by omega)] at RS
      clear CP
      go_wp2_with fail
      go_ret
      exact ⟨_, rfl, by rw [RS.out]; exact O5.out⟩
    · rw [if_pos hd] at RS
      go_wp2_with fail
      refine (CP.out _ _ imN jm _ (holdsF_own O5.out) (fun f hf => by cases hf) (by decide) g2 (by simp)).mono ?_
      rintro e w6 ⟨u6, rfl, ho6⟩
      have O6 := hide' (ownF_base ho6 O5.out.2)
      obtain ⟨a6, c6, _, _, e6, -⟩ := holdsF_parts (holdsF_own O6.out)
      rw [e6] at O6 ⊢
      clear ho6 CP e6 O5
      go_wp2_with fail
      go_ret
      exact ⟨_, rfl, by rw [RS.out]; exact O6.out⟩
end Go.Proofs.YtikokjclhpgocabDoor
