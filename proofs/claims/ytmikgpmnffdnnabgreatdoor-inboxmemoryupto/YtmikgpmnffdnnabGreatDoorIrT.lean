/- The contract of inbox.Response. -/
import Derived.Test.YtmikgpmnffdnnabGreatDoorIrR
import Derived.Test.YtmikgpmnffdnnabGreatDoorIrN
namespace Go.Proofs.YtmikgpmnffdnnabGreatDoor
open Go.RowKit
set_option maxRecDepth 20000 in
set_option maxHeartbeats 8000000 in
theorem msrC (v : Value) (bs : List UInt8) (me : List UInt8) (ended : Bool) (w : World) (hv : HoldsB w v bs) (E : Env w) (R : Er w) (hs : bs.length < 4294967281) :
    Calls Tryz.prog 6 #[v, .string ⟨me.toArray⟩, .bool ended] w fun e w' => AnsR w (msgR bs me ended) e w' := by
  have b0 := below_alloc' w (.cells #[.string ⟨#[]⟩, .string ⟨#[]⟩, .int .i64 0, .slice none 0 0, .int .i64 0, .string ⟨#[]⟩, .int .i64 0, .slice none 0 0, .slice none 0 0, .slice none 0 0] 30)
  have Z0 := hide' (cells_lit w #[.string ⟨#[]⟩, .string ⟨#[]⟩, .int .i64 0, .slice none 0 0, .int .i64 0, .string ⟨#[]⟩, .int .i64 0, .slice none 0 0, .slice none 0 0, .slice none 0 0] 30)
  have B0 := hide' b0
  have sz0 := hide' (show (w.alloc (.cells #[.string ⟨#[]⟩, .string ⟨#[]⟩, .int .i64 0, .slice none 0 0, .int .i64 0, .string ⟨#[]⟩, .int .i64 0, .slice none 0 0, .slice none 0 0, .slice none 0 0] 30)).heap.size = w.heap.size + 1 by simp)
  have C := hide' (resC v bs me ended _ (holdsB_mono hv b0) (env_below E b0) (er_below R b0) hs)
  have HM := hide' (msgR_inner bs me ended)
  generalize respI bs me ended = X at C HM
  obtain ⟨⟨s, rs, k, fs⟩, bd, tl, n, er⟩ := X
  simp only at HM
  obtain ⟨ao, cap, rfl, _⟩ := hv
  clear b0 E R
  go_enter Tryz.func6, Tryz.ntmps6
  go_wp2_with fail
  refine C.out.mono ?_
  intro e w2 h
  obtain ⟨la, lc, ba, bc, ta, tc, rfl, _, b2, oL, oB, oF⟩ := ansR_open h
  simp only at oL oB oF ⊢
  have b3 := below_alloc' w2 (.cells #[.string ⟨#[]⟩, .string ⟨#[]⟩, .int .i64 0, .slice none 0 0, .int .i64 s, .string ⟨rs.toArray⟩, .int .i64 k, .slice la fs.length lc, .slice ba bd.length bc, .slice ta tl.length tc] 30)
  have P3 := hide' (cells_lit w2 #[.string ⟨#[]⟩, .string ⟨#[]⟩, .int .i64 0, .slice none 0 0, .int .i64 s, .string ⟨rs.toArray⟩, .int .i64 k, .slice la fs.length lc, .slice ba bd.length bc, .slice ta tl.length tc] 30)
  have Z3 := hide' (cells_below (cells_below Z0.out b2) b3)
  have B3 := hide' (bt' (bt' B0.out b2) b3)
  have OL := hide' (row_below oL.1 b3)
  have OB := hide' (row_below oB.1 b3)
  have OF := hide' (row_below oF.1 b3)
  clear h b2 b3 oL oB oF C Z0 B0
  obtain ⟨⟨pc0, pc1, pc2, pc3, pc4, pc5, pc6, pc7, pc8, pc9⟩, _⟩ := cells_ten P3.out
  obtain ⟨⟨zc0, zc1, zc2, zc3, zc4, zc5, zc6, zc7, zc8, zc9⟩, ⟨zf0, zf1, zf2, zf3, zf4, zf5, zf6, zf7, zf8, zf9⟩⟩ := cells_ten Z3.out
  by_cases h1 : n = 0
  · subst h1
    by_cases h2 : er = 0
    · subst h2
      cases ended with
      | true =>
        go_wp2_with fail
        have q := cells_put Z3.out [.string ⟨#[]⟩, .string ⟨#[]⟩, .int .i64 0, .slice none 0 0, .int .i64 0, .string ⟨#[]⟩, .int .i64 0, .slice none 0 0, .slice none 0 0, .slice none 0 0] rfl
        have qb := put_below (Nat.le_refl w.heap.size) [.string ⟨#[]⟩, .string ⟨#[]⟩, .int .i64 0, .slice none 0 0, .int .i64 0, .string ⟨#[]⟩, .int .i64 0, .slice none 0 0, .slice none 0 0, .slice none 0 0] 0 _ B3.out
        rw [put_ten] at q qb
        obtain ⟨⟨yc0, yc1, yc2, yc3, yc4, yc5, yc6, yc7, yc8, yc9⟩, _⟩ := cells_ten q
        refine bodyPost_ret (v := tellV mzV 0 80) (by simp [results, Tryz.results6, go_sem, tellV, mzV, yc0, yc1, yc2, yc3, yc4, yc5, yc6, yc7, yc8, yc9]) rfl ?_
        rw [HM.out, if_pos (by simp)]
        exact ansR_none 80 qb
      | false =>
        go_wp2_with fail
        have q := cells_put Z3.out [.string ⟨#[]⟩, .string ⟨#[]⟩, .int .i64 0, .slice none 0 0, .int .i64 s, .string ⟨rs.toArray⟩, .int .i64 k, .slice la fs.length lc, .slice ba bd.length bc, .slice ta tl.length tc] rfl
        have qb := put_below (Nat.le_refl w.heap.size) [.string ⟨#[]⟩, .string ⟨#[]⟩, .int .i64 0, .slice none 0 0, .int .i64 s, .string ⟨rs.toArray⟩, .int .i64 k, .slice la fs.length lc, .slice ba bd.length bc, .slice ta tl.length tc] 0 _ B3.out
        have qL := row_putFrom (b := w.heap.size) (by rw [sz0.out]; omega) [.string ⟨#[]⟩, .string ⟨#[]⟩, .int .i64 0, .slice none 0 0, .int .i64 s, .string ⟨rs.toArray⟩, .int .i64 k, .slice la fs.length lc, .slice ba bd.length bc, .slice ta tl.length tc] 0 _ OL.out
        have qB := row_putFrom (b := w.heap.size) (by rw [sz0.out]; omega) [.string ⟨#[]⟩, .string ⟨#[]⟩, .int .i64 0, .slice none 0 0, .int .i64 s, .string ⟨rs.toArray⟩, .int .i64 k, .slice la fs.length lc, .slice ba bd.length bc, .slice ta tl.length tc] 0 _ OB.out
        have qF := row_putFrom (b := w.heap.size) (by rw [sz0.out]; omega) [.string ⟨#[]⟩, .string ⟨#[]⟩, .int .i64 0, .slice none 0 0, .int .i64 s, .string ⟨rs.toArray⟩, .int .i64 k, .slice la fs.length lc, .slice ba bd.length bc, .slice ta tl.length tc] 0 _ OF.out
        rw [put_ten] at q qb qL qB qF
        obtain ⟨⟨yc0, yc1, yc2, yc3, yc4, yc5, yc6, yc7, yc8, yc9⟩, _⟩ := cells_ten q
        refine bodyPost_ret (v := tellV (mrV ⟨s, rs, k, fs⟩ (.slice la fs.length lc) (.slice ba bd.length bc) (.slice ta tl.length tc)) 0 0) (by simp [results, Tryz.results6, go_sem, tellV, mrV, yc0, yc1, yc2, yc3, yc4, yc5, yc6, yc7, yc8, yc9]) rfl ?_
        rw [HM.out, if_neg (by simp)]
        exact ⟨_, _, _, rfl, ⟨row_base qL (by rw [sz0.out]; omega), qb⟩, ⟨row_base qB (by rw [sz0.out]; omega), qb⟩, ⟨row_base qF (by rw [sz0.out]; omega), qb⟩⟩
    · have h2' : (er == 0) = false := by simpa using h2
      go_wp2_with fail
      have q := cells_put Z3.out [.string ⟨#[]⟩, .string ⟨#[]⟩, .int .i64 0, .slice none 0 0, .int .i64 s, .string ⟨rs.toArray⟩, .int .i64 k, .slice la fs.length lc, .slice ba bd.length bc, .slice ta tl.length tc] rfl
      have qb := put_below (Nat.le_refl w.heap.size) [.string ⟨#[]⟩, .string ⟨#[]⟩, .int .i64 0, .slice none 0 0, .int .i64 s, .string ⟨rs.toArray⟩, .int .i64 k, .slice la fs.length lc, .slice ba bd.length bc, .slice ta tl.length tc] 0 _ B3.out
      have qL := row_putFrom (b := w.heap.size) (by rw [sz0.out]; omega) [.string ⟨#[]⟩, .string ⟨#[]⟩, .int .i64 0, .slice none 0 0, .int .i64 s, .string ⟨rs.toArray⟩, .int .i64 k, .slice la fs.length lc, .slice ba bd.length bc, .slice ta tl.length tc] 0 _ OL.out
      have qB := row_putFrom (b := w.heap.size) (by rw [sz0.out]; omega) [.string ⟨#[]⟩, .string ⟨#[]⟩, .int .i64 0, .slice none 0 0, .int .i64 s, .string ⟨rs.toArray⟩, .int .i64 k, .slice la fs.length lc, .slice ba bd.length bc, .slice ta tl.length tc] 0 _ OB.out
      have qF := row_putFrom (b := w.heap.size) (by rw [sz0.out]; omega) [.string ⟨#[]⟩, .string ⟨#[]⟩, .int .i64 0, .slice none 0 0, .int .i64 s, .string ⟨rs.toArray⟩, .int .i64 k, .slice la fs.length lc, .slice ba bd.length bc, .slice ta tl.length tc] 0 _ OF.out
      rw [put_ten] at q qb qL qB qF
      obtain ⟨⟨yc0, yc1, yc2, yc3, yc4, yc5, yc6, yc7, yc8, yc9⟩, _⟩ := cells_ten q
      refine bodyPost_ret (v := tellV (mrV ⟨s, rs, k, fs⟩ (.slice la fs.length lc) (.slice ba bd.length bc) (.slice ta tl.length tc)) 0 er) (by simp [results, Tryz.results6, go_sem, tellV, mrV, yc0, yc1, yc2, yc3, yc4, yc5, yc6, yc7, yc8, yc9]) rfl ?_
      rw [HM.out, if_neg (by intro h; exact h2 h.1.2)]
      exact ⟨_, _, _, rfl, ⟨row_base qL (by rw [sz0.out]; omega), qb⟩, ⟨row_base qB (by rw [sz0.out]; omega), qb⟩, ⟨row_base qF (by rw [sz0.out]; omega), qb⟩⟩
  · have h1' : ((n : Int) == 0) = false := by simp; omega
    go_wp2_with fail
    have q := cells_put Z3.out [.string ⟨#[]⟩, .string ⟨#[]⟩, .int .i64 0, .slice none 0 0, .int .i64 s, .string ⟨rs.toArray⟩, .int .i64 k, .slice la fs.length lc, .slice ba bd.length bc, .slice ta tl.length tc] rfl
    have qb := put_below (Nat.le_refl w.heap.size) [.string ⟨#[]⟩, .string ⟨#[]⟩, .int .i64 0, .slice none 0 0, .int .i64 s, .string ⟨rs.toArray⟩, .int .i64 k, .slice la fs.length lc, .slice ba bd.length bc, .slice ta tl.length tc] 0 _ B3.out
    have qL := row_putFrom (b := w.heap.size) (by rw [sz0.out]; omega) [.string ⟨#[]⟩, .string ⟨#[]⟩, .int .i64 0, .slice none 0 0, .int .i64 s, .string ⟨rs.toArray⟩, .int .i64 k, .slice la fs.length lc, .slice ba bd.length bc, .slice ta tl.length tc] 0 _ OL.out
    have qB := row_putFrom (b := w.heap.size) (by rw [sz0.out]; omega) [.string ⟨#[]⟩, .string ⟨#[]⟩, .int .i64 0, .slice none 0 0, .int .i64 s, .string ⟨rs.toArray⟩, .int .i64 k, .slice la fs.length lc, .slice ba bd.length bc, .slice ta tl.length tc] 0 _ OB.out
    have qF := row_putFrom (b := w.heap.size) (by rw [sz0.out]; omega) [.string ⟨#[]⟩, .string ⟨#[]⟩, .int .i64 0, .slice none 0 0, .int .i64 s, .string ⟨rs.toArray⟩, .int .i64 k, .slice la fs.length lc, .slice ba bd.length bc, .slice ta tl.length tc] 0 _ OF.out
    rw [put_ten] at q qb qL qB qF
    obtain ⟨⟨yc0, yc1, yc2, yc3, yc4, yc5, yc6, yc7, yc8, yc9⟩, _⟩ := cells_ten q
    refine bodyPost_ret (v := tellV (mrV ⟨s, rs, k, fs⟩ (.slice la fs.length lc) (.slice ba bd.length bc) (.slice ta tl.length tc)) n er) (by simp [results, Tryz.results6, go_sem, tellV, mrV, yc0, yc1, yc2, yc3, yc4, yc5, yc6, yc7, yc8, yc9]) rfl ?_
    rw [HM.out, if_neg (by intro h; exact h1 h.1.1)]
    exact ⟨_, _, _, rfl, ⟨row_base qL (by rw [sz0.out]; omega), qb⟩, ⟨row_base qB (by rw [sz0.out]; omega), qb⟩, ⟨row_base qF (by rw [sz0.out]; omega), qb⟩⟩
end Go.Proofs.YtmikgpmnffdnnabGreatDoor
