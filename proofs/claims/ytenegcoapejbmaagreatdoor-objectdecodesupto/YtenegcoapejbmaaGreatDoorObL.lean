/- The contracts of CopyEntry and SameEntry. -/
import Derived.Test.YtenegcoapejbmaaGreatDoorObD
import Derived.Test.YtenegcoapejbmaaGreatDoorBa
namespace Go.Proofs.YtenegcoapejbmaaGreatDoor
open Go.RowKit
set_option maxRecDepth 20000 in
set_option maxHeartbeats 4000000 in
theorem sameEC (e : En) (lva lvb bva bvb : Value) (w : World) (hFa : HoldsF w lva e.r.fs) (hFb : HoldsF w lvb e.r.fs) (hBa : HoldsB w bva e.body) (hBb : HoldsB w bvb e.body) (hl : e.r.fs.length ≤ 2000000) (hb : e.body.length ≤ 1000000000000000) :
    Calls Tryz.prog 8 #[entV e lva bva, entV e lvb bvb] w fun x w' => x = .returned (.bool true) ∧ Below w.heap.size w w' := by
  have c1 := hide' (fun W (h : Below w.heap.size w W) => sameRs e.r.s e.r.k e.r.r e.r.fs lva lvb W (holdsF_mono hFa h) (holdsF_mono hFb h) hl)
  have c2 := hide' (fun W (h : Below w.heap.size w W) => sameBe bva bvb e.body W (holdsB_mono hBa h) (holdsB_mono hBb h) hb)
  obtain ⟨la, lc, _, _, e1, _⟩ := holdsF_parts hFa
  obtain ⟨lb, ld, _, _, e2, _⟩ := holdsF_parts hFb
  obtain ⟨ba, bc, e3, _⟩ := holdsB_parts hBa
  obtain ⟨bb, bd, e4, _⟩ := holdsB_parts hBb
  subst e1 e2 e3 e4
  unfold entV
  obtain ⟨key, vary, ⟨s, r, k, fs⟩, body, a0, g0⟩ := e
  dsimp only at *
  have b1 := below_alloc' w (.cells #[.string ⟨key.toArray⟩, .string ⟨vary.toArray⟩, .int .i64 s, .string ⟨r.toArray⟩, .int .i64 k, .slice la fs.length lc, .slice ba body.length bc, .int .i64 a0, .int .i64 g0] 29)
  have b2 := below_alloc' (w.alloc (.cells #[.string ⟨key.toArray⟩, .string ⟨vary.toArray⟩, .int .i64 s, .string ⟨r.toArray⟩, .int .i64 k, .slice la fs.length lc, .slice ba body.length bc, .int .i64 a0, .int .i64 g0] 29)) (.cells #[.string ⟨key.toArray⟩, .string ⟨vary.toArray⟩, .int .i64 s, .string ⟨r.toArray⟩, .int .i64 k, .slice lb fs.length ld, .slice bb body.length bd, .int .i64 a0, .int .i64 g0] 29)
  have q1 := cells_below (cells_lit w #[.string ⟨key.toArray⟩, .string ⟨vary.toArray⟩, .int .i64 s, .string ⟨r.toArray⟩, .int .i64 k, .slice la fs.length lc, .slice ba body.length bc, .int .i64 a0, .int .i64 g0] 29) b2
  have q2 := cells_lit (w.alloc (.cells #[.string ⟨key.toArray⟩, .string ⟨vary.toArray⟩, .int .i64 s, .string ⟨r.toArray⟩, .int .i64 k, .slice la fs.length lc, .slice ba body.length bc, .int .i64 a0, .int .i64 g0] 29)) #[.string ⟨key.toArray⟩, .string ⟨vary.toArray⟩, .int .i64 s, .string ⟨r.toArray⟩, .int .i64 k, .slice lb fs.length ld, .slice bb body.length bd, .int .i64 a0, .int .i64 g0] 29
  have z1 : (w.alloc (.cells #[.string ⟨key.toArray⟩, .string ⟨vary.toArray⟩, .int .i64 s, .string ⟨r.toArray⟩, .int .i64 k, .slice la fs.length lc, .slice ba body.length bc, .int .i64 a0, .int .i64 g0] 29)).heap.size = w.heap.size + 1 := by simp
  rw [z1] at q2
  have B2 := hide' (bt' b1 b2)
  have Q2 := hide' q1
  have R2 := hide' q2
  clear b1 b2 q1 q2 z1 hFa hFb hBa hBb hl hb
  go_enter Tryz.func8, Tryz.ntmps8
  go_wp2_with fail
  refine (c1.out _ B2.out).mono ?_
  rintro x w3 ⟨rfl, b3⟩
  have B3 := hide' (bt' B2.out b3)
  have Q3 : Hid (Blk w.heap.size w3 [.string ⟨key.toArray⟩, .string ⟨vary.toArray⟩, .int .i64 s, .string ⟨r.toArray⟩, .int .i64 k, .slice la fs.length lc, .slice ba body.length bc, .int .i64 a0, .int .i64 g0]) := cells_below Q2.out b3
  have R3 : Hid (Blk (w.heap.size + 1) w3 [.string ⟨key.toArray⟩, .string ⟨vary.toArray⟩, .int .i64 s, .string ⟨r.toArray⟩, .int .i64 k, .slice lb fs.length ld, .slice bb body.length bd, .int .i64 a0, .int .i64 g0]) := cells_below R2.out b3
  clear b3 Q2 R2
  obtain ⟨⟨c0, c1', c2', c3, c4, c5, c6, c7, c8⟩, -⟩ := cells_nine Q3.out
  obtain ⟨⟨d0, d1, d2, d3, d4, d5, d6, d7, d8⟩, -⟩ := cells_nine R3.out
  go_wp2_with fail
  clear c0 c1' c2' c3 c4 c5 c6 c7 c8 d0 d1 d2 d3 d4 d5 d6 d7 d8
  refine (c2.out _ B3.out).mono ?_
  rintro x w4 ⟨rfl, b4⟩
  have B4 := hide' (bt' B3.out b4)
  obtain ⟨⟨c0, c1', c2', c3, c4, c5, c6, c7, c8⟩, -⟩ := cells_nine (show Blk w.heap.size w4 [.string ⟨key.toArray⟩, .string ⟨vary.toArray⟩, .int .i64 s, .string ⟨r.toArray⟩, .int .i64 k, .slice la fs.length lc, .slice ba body.length bc, .int .i64 a0, .int .i64 g0] from cells_below Q3.out b4)
  obtain ⟨⟨d0, d1, d2, d3, d4, d5, d6, d7, d8⟩, -⟩ := cells_nine (show Blk (w.heap.size + 1) w4 [.string ⟨key.toArray⟩, .string ⟨vary.toArray⟩, .int .i64 s, .string ⟨r.toArray⟩, .int .i64 k, .slice lb fs.length ld, .slice bb body.length bd, .int .i64 a0, .int .i64 g0] from cells_below R3.out b4)
  clear b4 Q3 R3
  go_wp2_with fail
  go_ret
  exact ⟨rfl, B4.out⟩
end Go.Proofs.YtenegcoapejbmaaGreatDoor
