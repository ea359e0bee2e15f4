/- The walk of UriRound. -/
import Derived.Test.YtjnkpfjkmgcmlaaDoorUaW
import Derived.Test.YtjnkpfjkmgcmlaaDoorUaY
import Derived.Test.YtjnkpfjkmgcmlaaDoorUaI
namespace Go.Proofs.YtjnkpfjkmgcmlaaDoor.uriRound
open Go.RowKit
theorem tg_eta (an : Tgt × Int) (H P : ByteArray) (e1 : H.data.toList = an.1.host) (e2 : P.data.toList = an.1.path) : (⟨H.data.toList, an.1.port, P.data.toList⟩ : Tgt) = an.1 := by rw [e1, e2]
set_option maxRecDepth 20000 in
set_option maxHeartbeats 4000000 in
theorem walk (s : ByteArray) (w : World) (hs : s.size ≤ 140737488351232) (T : Tab w) (hsh : w.ShapedOpen Tryd.prog) :
    Calls Tryd.prog 5 #[.string s] w fun e w' => e = .returned (.bool true) ∧ Below w.heap.size w w' := by
  have M := hide (maxV_of hsh)
  clear hsh
  have cl := hide (aliveCode w M.out)
  have cp := fun w M => parseCode s w hs M
  simp only [show ansV (parseP s.data.toList) = .tuple #[.agg #[.string ⟨(parseP s.data.toList).1.host.toArray⟩, .int .i64 (parseP s.data.toList).1.port, .string ⟨(parseP s.data.toList).1.path.toArray⟩], .int .i64 (parseP s.data.toList).2] from rfl] at cp
  rcases parse_cases s.data.toList with ⟨he, ht⟩ | ⟨he, hg⟩
  · have q1 : ((parseP s.data.toList).2 != 0) = true := by simpa using he
    rw [ht, show (⟨Tgt.none.host.toArray⟩ : ByteArray) = ⟨#[]⟩ from rfl, show (⟨Tgt.none.path.toArray⟩ : ByteArray) = ⟨#[]⟩ from rfl, show Tgt.none.port = 0 from rfl] at cp
    clear he ht T
    generalize (parseP s.data.toList).2 = n at cp q1
    replace cp := hide cp
    go_enter Tryd.func5, Tryd.ntmps5
    go_wp2_with fail
    refine cl.out.mono ?_
    rintro e w1 ⟨rfl, b1⟩
    have M1 := hide (maxV_below M.out b1)
    have B1 := hide b1
    clear b1
    go_wp2_with fail
    refine (cp.out _ M1.out).mono ?_
    rintro e w2 ⟨rfl, b2⟩
    have B2 : Hid (Below w.heap.size w w2) := B1.out.trans (b2.mono B1.out.size)
    clear b2
    go_wp2_with fail
    go_ret
    exact ⟨rfl, B2.out.alloc B2.out.size _⟩
  · rw [he] at cp
    have pl := parse_len s.data.toList
    have p1 := hg.lo
    have p2 := hg.hi
    have rp := fun hl => round_parse _ hg hl
    have ra := round_auth _ hg
    clear he hg
    generalize parseP s.data.toList = an at cp p1 p2 pl rp ra
    obtain ⟨H, eH⟩ : ∃ H : ByteArray, H = ⟨an.1.host.toArray⟩ := ⟨_, rfl⟩
    obtain ⟨P, eP⟩ : ∃ P : ByteArray, P = ⟨an.1.path.toArray⟩ := ⟨_, rfl⟩
    have lH : H.data.toList = an.1.host := by rw [eH]
    have lP : P.data.toList = an.1.path := by rw [eP]
    have et := tg_eta an H P lH lP
    rw [← eH, ← eP] at cp
    have zH : H.size ≤ 255 := by rw [size_list, lH]; exact pl.2
    have zP : P.size ≤ 4098 := by rw [size_list, lP]; exact pl.1
    have hp64 : In64 an.1.port := ⟨by omega, by omega⟩
    have cS := hide (fun w T => showCode H P an.1.port hp64 (by omega) (by omega) w T)
    have cO := fun w T => originCode H P an.1.port hp64 (by omega) w T
    simp only [show H ++ ⟨#[58]⟩ ++ itoaT an.1.port = originT H an.1.port from rfl] at cO
    have zn := show_size H an.1.port P hp64
    have zo := originT_size H an.1.port hp64
    have ln := show_list H an.1.port P
    have lo := origin_list H an.1.port P.data.toList
    rw [et] at ln lo
    have cA := fun w M => authCode (originT H an.1.port) w (by omega) M
    rw [lo, ra, show ansV (⟨an.1.host, an.1.port, []⟩, 0) = .tuple #[.agg #[.string ⟨an.1.host.toArray⟩, .int .i64 an.1.port, .string ⟨#[]⟩], .int .i64 0] from rfl, ← eH] at cA
    have cN := fun w M => parseCode (showT H an.1.port P) w (by omega) M
    rw [ln] at cN
    by_cases hl : 4096 < (showT H an.1.port P).size
    · rw [show parseP (showP an.1) = (Tgt.none, 101) by rw [← ln]; exact parse_long _ hl, ans_none] at cN
      have hl' : (4096 : Int) < (showT H an.1.port P).size := by omega
      replace hl := hl'
      clear hl'
      clear rp ra
      generalize an.1.port = p at cp cS cO cA cN p1 p2 hp64 zn zo hl
      generalize showT H p P = n at cS cN zn hl
      generalize originT H p = o at cO cA zo
      replace cp := hide cp
      replace cO := hide cO
      replace cA := hide cA
      replace cN := hide cN
      clear et eH eP lH lP ln lo pl hp64
      go_enter Tryd.func5, Tryd.ntmps5
      go_wp2_with fail
      refine cl.out.mono ?_
      rintro e w1 ⟨rfl, b1⟩
      have M1 := hide (maxV_below M.out b1)
      have T1 := hide (tab_below T b1)
      have B1 := hide b1
      clear b1 M T cl
      go_wp2_with fail
      refine (cp.out _ M1.out).mono ?_
      rintro e w2 ⟨rfl, b2⟩
      have B2 : Hid (Below w.heap.size w w2) := B1.out.trans (b2.mono B1.out.size)
      have A2 := hide (alloc_below w2 (.cells #[.string H, .int .i64 p, .string P] 24))
      have M2 := hide (maxV_below (maxV_below M1.out b2) A2.out)
      have T2 := hide (tab_below (tab_below T1.out b2) A2.out)
      clear b2 M1 T1 B1 cp
      go_wp2_with fail
      refine (cS.out _ T2.out).mono ?_
      rintro e w3 ⟨rfl, b3⟩
      have C3 := hide (cells_below (lit_cells w2 H P p) (by simp) b3)
      have M3 := hide (maxV_below M2.out b3)
      have T3 := hide (tab_below T2.out b3)
      have B3 : Hid (Below w.heap.size w w3) := (B2.out.trans (A2.out.mono B2.out.size)).trans (b3.mono (by have := B2.out.size; simp; omega))
      have L3 : w2.heap.size < w3.heap.size := by have := b3.size; simp at this; omega
      clear b3 M2 T2 B2 A2
      go_wp2_with fail
      refine (cN.out _ M3.out).mono ?_
      rintro e w4 ⟨rfl, b4⟩
      have C4 := cells_below C3.out L3 b4
      have L4 : w2.heap.size < w4.heap.size := by have := b4.size; omega
      have B4 : Hid (Below w.heap.size w w4) := B3.out.trans (b4.mono B3.out.size)
      have A4 := hide (alloc_below w4 (.cells #[.string ⟨#[]⟩, .int .i64 0, .string ⟨#[]⟩] 24))
      have M4 := hide (maxV_below (maxV_below M3.out b4) A4.out)
      have T4 := hide (tab_below (tab_below T3.out b4) A4.out)
      clear b4 M3 T3 B3 C3 L3 cN
      obtain ⟨c0, c1, c2⟩ := C4
      go_wp2_with fail
      refine (cO.out _ T4.out).mono ?_
      rintro e w5 ⟨rfl, b5⟩
      have C5 := hide (cells_below (cells_below ⟨c0, c1, c2⟩ L4 A4.out) (by simp; omega) b5)
      have D5 := hide (cells_below (lit_cells w4 ⟨#[]⟩ ⟨#[]⟩ 0) (by simp) b5)
      have M5 := hide (maxV_below M4.out b5)
      have T5 := hide (tab_below T4.out b5)
      have L5 : w4.heap.size < w5.heap.size := by have := b5.size; simp at this; omega
      have B5 : Hid (Below w.heap.size w w5) := (B4.out.trans (A4.out.mono B4.out.size)).trans (b5.mono (by have := B4.out.size; simp; omega))
      clear b5 M4 T4 B4 A4 c0 c1 c2 cO
      go_wp2_with fail
      refine (cA.out _ M5.out).mono ?_
      rintro e w6 ⟨rfl, b6⟩
      have C6 := cells_below C5.out (by omega) b6
      have D6 := cells_below D5.out L5 b6
      have L6 : w4.heap.size < w6.heap.size := by have := b6.size; omega
      have L7 : w2.heap.size < w6.heap.size := by omega
      have B6 : Hid (Below w.heap.size w w6) := B5.out.trans (b6.mono B5.out.size)
      have A6 := hide (alloc_below w6 (.cells #[.string H, .int .i64 p, .string ⟨#[]⟩] 24))
      have T6 := hide (tab_below (tab_below T5.out b6) A6.out)
      clear b6 M5 T5 C5 D5 L5 B5 cA
      clear C6 D6
      go_wp2_with fail
      go_ret
      exact ⟨rfl, B6.out.trans (A6.out.mono B6.out.size)⟩
    · rw [rp (by rw [← ln, len_list]; omega), show ansV (an.1, 0) = .tuple #[.agg #[.string ⟨an.1.host.toArray⟩, .int .i64 an.1.port, .string ⟨an.1.path.toArray⟩], .int .i64 0] from rfl, ← eH, ← eP] at cN
      have hl' : ((showT H an.1.port P).size : Int) ≤ 4096 := by omega
      replace hl := hl'
      clear hl'
      clear rp ra
      generalize an.1.port = p at cp cS cO cA cN p1 p2 hp64 zn zo hl
      generalize showT H p P = n at cS cN zn hl
      generalize originT H p = o at cO cA zo
      replace cp := hide cp
      replace cO := hide cO
      replace cA := hide cA
      replace cN := hide cN
      clear et eH eP lH lP ln lo pl hp64
      go_enter Tryd.func5, Tryd.ntmps5
      go_wp2_with fail
      refine cl.out.mono ?_
      rintro e w1 ⟨rfl, b1⟩
      have M1 := hide (maxV_below M.out b1)
      have T1 := hide (tab_below T b1)
      have B1 := hide b1
      clear b1 M T cl
      go_wp2_with fail
      refine (cp.out _ M1.out).mono ?_
      rintro e w2 ⟨rfl, b2⟩
      have B2 : Hid (Below w.heap.size w w2) := B1.out.trans (b2.mono B1.out.size)
      have A2 := hide (alloc_below w2 (.cells #[.string H, .int .i64 p, .string P] 24))
      have M2 := hide (maxV_below (maxV_below M1.out b2) A2.out)
      have T2 := hide (tab_below (tab_below T1.out b2) A2.out)
      clear b2 M1 T1 B1 cp
      go_wp2_with fail
      refine (cS.out _ T2.out).mono ?_
      rintro e w3 ⟨rfl, b3⟩
      have C3 := hide (cells_below (lit_cells w2 H P p) (by simp) b3)
      have M3 := hide (maxV_below M2.out b3)
      have T3 := hide (tab_below T2.out b3)
      have B3 : Hid (Below w.heap.size w w3) := (B2.out.trans (A2.out.mono B2.out.size)).trans (b3.mono (by have := B2.out.size; simp; omega))
      have L3 : w2.heap.size < w3.heap.size := by have := b3.size; simp at this; omega
      clear b3 M2 T2 B2 A2
      go_wp2_with fail
      refine (cN.out _ M3.out).mono ?_
      rintro e w4 ⟨rfl, b4⟩
      have C4 := cells_below C3.out L3 b4
      have L4 : w2.heap.size < w4.heap.size := by have := b4.size; omega
      have B4 : Hid (Below w.heap.size w w4) := B3.out.trans (b4.mono B3.out.size)
      have A4 := hide (alloc_below w4 (.cells #[.string H, .int .i64 p, .string P] 24))
      have M4 := hide (maxV_below (maxV_below M3.out b4) A4.out)
      have T4 := hide (tab_below (tab_below T3.out b4) A4.out)
      clear b4 M3 T3 B3 C3 L3 cN
      obtain ⟨c0, c1, c2⟩ := C4
      go_wp2_with fail
      refine (cO.out _ T4.out).mono ?_
      rintro e w5 ⟨rfl, b5⟩
      have C5 := hide (cells_below (cells_below ⟨c0, c1, c2⟩ L4 A4.out) (by simp; omega) b5)
      have D5 := hide (cells_below (lit_cells w4 H P p) (by simp) b5)
      have M5 := hide (maxV_below M4.out b5)
      have T5 := hide (tab_below T4.out b5)
      have L5 : w4.heap.size < w5.heap.size := by have := b5.size; simp at this; omega
      have B5 : Hid (Below w.heap.size w w5) := (B4.out.trans (A4.out.mono B4.out.size)).trans (b5.mono (by have := B4.out.size; simp; omega))
      clear b5 M4 T4 B4 A4 c0 c1 c2 cO
      go_wp2_with fail
      refine (cA.out _ M5.out).mono ?_
      rintro e w6 ⟨rfl, b6⟩
      have C6 := cells_below C5.out (by omega) b6
      have D6 := cells_below D5.out L5 b6
      have L6 : w4.heap.size < w6.heap.size := by have := b6.size; omega
      have L7 : w2.heap.size < w6.heap.size := by omega
      have B6 : Hid (Below w.heap.size w w6) := B5.out.trans (b6.mono B5.out.size)
      have A6 := hide (alloc_below w6 (.cells #[.string H, .int .i64 p, .string ⟨#[]⟩] 24))
      have T6 := hide (tab_below (tab_below T5.out b6) A6.out)
      clear b6 M5 T5 C5 D5 L5 B5 cA
      obtain ⟨c0, c1, c2⟩ := C6
      obtain ⟨d0, d1, d2⟩ := D6
      go_wp2_with fail
      refine (cS.out _ T6.out).mono ?_
      rintro e w7 ⟨rfl, b7⟩
      obtain ⟨e0, e1, e2⟩ := cells_below (cells_below ⟨c0, c1, c2⟩ L7 A6.out) (by simp; omega) b7
      obtain ⟨f0, f1, f2⟩ := cells_below (lit_cells w6 H ⟨#[]⟩ p) (by simp) b7
      have B7 : Hid (Below w.heap.size w w7) := (B6.out.trans (A6.out.mono B6.out.size)).trans (b7.mono (by have := B6.out.size; simp; omega))
      clear b7 c0 c1 c2 d0 d1 d2 A6 B6 T6 cS
      go_wp2_with fail
      go_ret
      exact ⟨rfl, B7.out⟩
end Go.Proofs.YtjnkpfjkmgcmlaaDoor.uriRound
