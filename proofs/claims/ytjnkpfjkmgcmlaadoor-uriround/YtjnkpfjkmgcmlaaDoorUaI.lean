/- The contract of strings.Cut at a colon, and of Authority. -/
import Derived.Test.YtjnkpfjkmgcmlaaDoorUaH
import Derived.Test.YtjnkpfjkmgcmlaaDoorFoldT
import Derived.Test.YtjnkpfjkmgcmlaaDoorUaT
import Derived.Test.YtjnkpfjkmgcmlaaDoorShelf
namespace Go.Proofs.YtjnkpfjkmgcmlaaDoor
open Go.RowKit
theorem cutColon (s : ByteArray) (hs : s.size ≤ 4096) (w : World) (M : MaxV w) :
    Calls Tryd.prog 20 #[.string s, .string ⟨#[58]⟩] w fun e w' => e = .returned (.tuple #[.string (hostT s), .string (digsT s), .bool (! s.data.toList.all noCol)]) ∧ Below w.heap.size w w' := by
  obtain ⟨m, hm⟩ := M
  refine (Any.strings_Cut Tryd.lays145 s ⟨#[58]⟩ m w (by omega) hm).mono ?_
  rintro e w' ⟨rfl, n, rfl⟩
  refine ⟨?_, below_draw w n⟩
  rw [show (⟨#[58]⟩ : ByteArray).data.toList = [58] from rfl, cut_one noCol 58 noCol_iff]
  rfl
set_option maxHeartbeats 1000000 in
theorem authCode (s : ByteArray) (w : World) (hs : s.size ≤ 140737488351232) (M : MaxV w) :
    Calls Tryd.prog 15 #[.string s] w fun e w' => e = .returned (ansV (authP s.data.toList)) ∧ Below w.heap.size w w' := by
  by_cases hl : 4096 < s.size
  · have R : Hid (authP s.data.toList = (Tgt.none, 101)) := auth_long s hl
    have hl' : (4096 : Int) < s.size := by omega
    have S1 := hide (tri_new w)
    have B1 := hide (alloc_below w (.cells #[.string ⟨#[]⟩, .int .i64 0, .string ⟨#[]⟩] 24))
    clear M hl
    go_enter Tryd.func15, Tryd.ntmps15
    go_wp2_with fail
    exact bodyPost_ret (v := ansV (Tgt.none, 101)) (by simp [results, Tryd.results15, go_sem, ansV, tgV, Tgt.none]) rfl ⟨by rw [R.out], B1.out⟩
  · have hl' : (s.size : Int) ≤ 4096 := by omega
    have z1 := hostT_size s
    have z2 := digsT_size s
    have c1 := hide (cutColon s (by omega) _ (maxV_below M (alloc_below w (.cells #[.string ⟨#[]⟩, .int .i64 0, .string ⟨#[]⟩] 24))))
    have c2 := isHostCode (hostT s) (by omega)
    have c3 := readPortCode (digsT s) (by omega)
    have c4 := hide (fun w => foldTok (hostT s) w (by omega))
    clear M
    generalize (! s.data.toList.all noCol) = bb at c1
    cases hh : isHost (hostT s).data.toList with
    | false =>
      have R : Hid (authP s.data.toList = (Tgt.none, 32)) := auth_host s hl hh
      simp only [hh] at c2
      replace c2 := hide c2
      clear c3 c4 hh hl z1 z2
      generalize hostT s = hx at c1 c2
      generalize digsT s = dx at c1
      go_enter Tryd.func15, Tryd.ntmps15
      go_wp2_with fail
      refine c1.out.mono ?_
      rintro e w1 ⟨rfl, b1⟩
      have B1 : Hid (Below w.heap.size w w1) := (alloc_below w _).trans (b1.mono (by simp))
      have S1 := hide (tri_below (tri_new w) b1)
      clear c1 b1
      go_wp2_with fail
      refine (c2.out _).mono ?_
      rintro e w2 ⟨rfl, rfl⟩
      obtain ⟨⟨x0, h0⟩, ⟨x1, h1⟩, ⟨x2, h2⟩, f0, f1, f2, hz⟩ := S1.out
      go_wp2_with fail
      obtain ⟨q0, q1, q2⟩ := tri_store S1.out (.string ⟨#[]⟩) (.int .i64 0) (.string ⟨#[]⟩)
      have qb := put3_below B1.out (Nat.le_refl _) (.string ⟨#[]⟩) (.int .i64 0) (.string ⟨#[]⟩)
      unfold put3 at q0 q1 q2 qb
      exact bodyPost_ret (v := .tuple #[.agg #[(.string ⟨#[]⟩), (.int .i64 0), (.string ⟨#[]⟩)], .int .i64 32]) (by simp [results, Tryd.results15, go_sem, q0, q1, q2]) rfl ⟨by rw [R.out]; rfl, qb⟩
    | true =>
      by_cases hp : portOf (digsT s).data.toList = 0
      · have R : Hid (authP s.data.toList = (Tgt.none, 33)) := auth_port s hl hh hp
        simp only [hh] at c2
        simp only [hp] at c3
        replace c2 := hide c2
        replace c3 := hide c3
        clear c4 hh hp hl z1 z2
        generalize hostT s = hx at c1 c2
        generalize digsT s = dx at c1 c3
        go_enter Tryd.func15, Tryd.ntmps15
        go_wp2_with fail
        refine c1.out.mono ?_
        rintro e w1 ⟨rfl, b1⟩
        have B1 : Hid (Below w.heap.size w w1) := (alloc_below w _).trans (b1.mono (by simp))
        have S1 := hide (tri_below (tri_new w) b1)
        clear c1 b1
        go_wp2_with fail
        refine (c2.out _).mono ?_
        rintro e w2 ⟨rfl, rfl⟩
        go_wp2_with fail
        refine (c3.out _).mono ?_
        rintro e w2 ⟨rfl, rfl⟩
        obtain ⟨⟨x0, h0⟩, ⟨x1, h1⟩, ⟨x2, h2⟩, f0, f1, f2, hz⟩ := S1.out
        go_wp2_with fail
        obtain ⟨q0, q1, q2⟩ := tri_store S1.out (.string ⟨#[]⟩) (.int .i64 0) (.string ⟨#[]⟩)
        have qb := put3_below B1.out (Nat.le_refl _) (.string ⟨#[]⟩) (.int .i64 0) (.string ⟨#[]⟩)
        unfold put3 at q0 q1 q2 qb
        exact bodyPost_ret (v := .tuple #[.agg #[(.string ⟨#[]⟩), (.int .i64 0), (.string ⟨#[]⟩)], .int .i64 33]) (by simp [results, Tryd.results15, go_sem, q0, q1, q2]) rfl ⟨by rw [R.out]; rfl, qb⟩
      · have R : Hid (authP s.data.toList = (⟨lows (hostT s).data.toList, portOf (digsT s).data.toList, []⟩, 0)) := auth_ok s hl hh _ rfl hp
        simp only [hh] at c2
        generalize portOf (digsT s).data.toList = p at hp c3 R
        have q1 : (p == 0) = false := by simpa using hp
        replace c2 := hide c2
        replace c3 := hide c3
        clear hh hp hl z1 z2
        generalize hostT s = hx at c1 c2 c4 R
        generalize digsT s = dx at c1 c3
        generalize lows hx.data.toList = lx at c4 R
        go_enter Tryd.func15, Tryd.ntmps15
        go_wp2_with fail
        refine c1.out.mono ?_
        rintro e w1 ⟨rfl, b1⟩
        have B1 : Hid (Below w.heap.size w w1) := (alloc_below w _).trans (b1.mono (by simp))
        have S1 := hide (tri_below (tri_new w) b1)
        clear c1 b1
        go_wp2_with fail
        refine (c2.out _).mono ?_
        rintro e w2 ⟨rfl, rfl⟩
        go_wp2_with fail
        refine (c3.out _).mono ?_
        rintro e w2 ⟨rfl, rfl⟩
        go_wp2_with fail
        refine (c4.out _).mono ?_
        rintro e w3 ⟨rfl, b3⟩
        have B3 : Hid (Below w.heap.size w w3) := B1.out.trans (b3.mono B1.out.size)
        have S3 := hide (tri_below S1.out b3)
        clear b3
        obtain ⟨⟨x0, h0⟩, ⟨x1, h1⟩, ⟨x2, h2⟩, f0, f1, f2, hz⟩ := S3.out
        go_wp2_with fail
        obtain ⟨q0, q1, q2⟩ := tri_store S3.out (.string ⟨lx.toArray⟩) (.int .i64 p) (.string ⟨#[]⟩)
        have qb := put3_below B3.out (Nat.le_refl _) (.string ⟨lx.toArray⟩) (.int .i64 p) (.string ⟨#[]⟩)
        unfold put3 at q0 q1 q2 qb
        exact bodyPost_ret (v := .tuple #[.agg #[(.string ⟨lx.toArray⟩), (.int .i64 p), (.string ⟨#[]⟩)], .int .i64 0]) (by simp [results, Tryd.results15, go_sem, q0, q1, q2]) rfl ⟨by rw [R.out]; rfl, qb⟩
end Go.Proofs.YtjnkpfjkmgcmlaaDoor
