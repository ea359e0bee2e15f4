/- The contract of Parse, behind the scheme. -/
import Derived.Test.YtaijnphodjdedaaDoorUaO
namespace Go.Proofs.YtaijnphodjdedaaDoor
open Go.RowKit
set_option maxRecDepth 20000 in
set_option maxHeartbeats 2000000 in
theorem parseTail (s : ByteArray) (w : World) (hl : ¬ 4096 < s.size) (M : Hid (MaxV w)) (ha : allAddr s.data.toList = true) (h7 : 7 ≤ s.size) (hm : lows (s.data.toList.take 7) = http) :
    Calls Tryd.prog 6 #[.string s] w fun e w' => e = .returned (ansV (parseP s.data.toList)) ∧ Below w.heap.size w w' := by
  have hl' : (s.size : Int) ≤ 4096 := by omega
  have h7' : (7 : Int) ≤ s.size := by omega
  have R0 := parse_read s hl ha hm
  have c1 := addressCode s (by omega)
  rw [ha] at c1
  replace c1 := hide c1
  have zt : (s.extract 0 7).size = 7 := by rw [size_list, ext_to, List.length_take, len_list]; omega
  have c2 := fun w => foldTok (s.extract 0 7) w (by omega)
  rw [ext_to, hm, show (⟨http.toArray⟩ : ByteArray) = ⟨#[104, 116, 116, 112, 58, 47, 47]⟩ from rfl] at c2
  replace c2 := hide c2
  have zx : (s.extract 7 s.size).size ≤ 4096 := by rw [size_list, ext_from, List.length_drop, len_list]; omega
  have hax : (s.extract 7 s.size).data.toList.all addrB = true := by
    rw [ext_from, List.all_eq_true]
    intro c hc
    exact List.all_eq_true.1 ha c (List.mem_of_mem_drop hc)
  have c3 := hide (cutAuCode (s.extract 7 s.size) zx hax)
  have hrh : ∀ c l, (restT (s.extract 7 s.size)).data.toList = c :: l → c = 47 ∨ c = 63 := by
    intro c l e
    rw [restT_list] at e
    exact (noEnd_iff c).1 (drop_head noEnd _ c l e)
  have z1 := auT_size (s.extract 7 s.size)
  have z2 := restT_size (s.extract 7 s.size)
  clear hax ha hm zt
  obtain ⟨X, eX⟩ : ∃ X, X = s.extract 7 s.size := ⟨_, rfl⟩
  rw [← eX] at R0 c3 hrh z1 z2 zx
  generalize hA : auT X = A at R0 c3 z1
  generalize hB : restT X = B at R0 c3 hrh z2
  clear hA hB
  have z3 := hostT_size A
  have z4 := digsT_size A
  have c4 := hide (fun w M => cutColon A (by omega) w M)
  generalize (! A.data.toList.all noCol) = bb at c4
  have c5 := isHostCode (hostT A) (by omega)
  have c6 := readPortCode (digsT A) (by omega)
  have c7 := recodeCode B (by omega)
  have c8 := fun w => foldTok (hostT A) w (by omega)
  cases hh : isHost (hostT A).data.toList with
  | false =>
    have R : Hid (parseP s.data.toList = (Tgt.none, 32)) := by unfold Hid; rw [R0, read_host A B hh]
    simp only [hh] at c5
    replace c5 := hide c5
    clear c6 c7 c8 hh R0 hrh z1 z2 z3 z4 zx hl
    generalize hostT A = hx at c4 c5
    generalize digsT A = dx at c4
    rw [eX] at c3
    clear eX
    have B0 := hide (alloc_below w (.cells #[.string ⟨#[]⟩, .int .i64 0, .string ⟨#[]⟩] 24))
    have S0 := hide (tri_new w)
    have M0 := hide (maxV_below M.out B0.out)
    clear M
    go_enter Tryd.func6, Tryd.ntmps6
    go_wp2_with fail
    refine (c1.out _).mono ?_
    rintro e w9 ⟨rfl, rfl⟩
    go_wp2_with fail
    refine (c2.out _).mono ?_
    rintro e w1 ⟨rfl, b1⟩
    have B1 : Hid (Below w.heap.size w w1) := B0.out.trans (b1.mono B0.out.size)
    have S1 := hide (tri_below S0.out b1)
    have M1 := hide (maxV_below M0.out b1)
    clear b1
    go_wp2_with fail
    refine (c3.out _).mono ?_
    rintro e w2 ⟨rfl, b2⟩
    have B2 : Hid (Below w.heap.size w w2) := B1.out.trans (b2.mono B1.out.size)
    have S2 := hide (tri_below S1.out b2)
    have M2 := hide (maxV_below M1.out b2)
    clear b2
    go_wp2_with fail
    refine (c4.out _ M2.out).mono ?_
    rintro e w3 ⟨rfl, b3⟩
    have B3 : Hid (Below w.heap.size w w3) := B2.out.trans (b3.mono B2.out.size)
    have S3 := hide (tri_below S2.out b3)
    have M3 := hide (maxV_below M2.out b3)
    clear b3
    go_wp2_with fail
    refine (c5.out _).mono ?_
    rintro e w9 ⟨rfl, rfl⟩
    obtain ⟨⟨x0, h0⟩, ⟨x1, h1⟩, ⟨x2, h2⟩, f0, f1, f2, hz⟩ := S3.out
    go_wp2_with fail
    obtain ⟨q0, q1, q2⟩ := tri_store S3.out (.string ⟨#[]⟩) (.int .i64 0) (.string ⟨#[]⟩)
    have qb := put3_below B3.out (Nat.le_refl _) (.string ⟨#[]⟩) (.int .i64 0) (.string ⟨#[]⟩)
    unfold put3 at q0 q1 q2 qb
    exact bodyPost_ret (v := .tuple #[.agg #[(.string ⟨#[]⟩), (.int .i64 0), (.string ⟨#[]⟩)], .int .i64 32]) (by simp [results, Tryd.results6, go_sem, q0, q1, q2]) rfl ⟨by rw [R.out]; rfl, qb⟩
  | true =>
    simp only [hh] at c5
    replace c5 := hide c5
    by_cases hd : (digsT A).size = 0
    · have ed : digsT A = ⟨#[]⟩ := ba_ext (show (digsT A).data.toList = [] from List.eq_nil_of_length_eq_zero (by rw [len_list]; exact hd))
      rw [ed] at c4
      have hp : portSaid (digsT A).data.toList = 80 := by rw [ed]; rfl
      clear hd ed c6 z3 z4
      have R1 := (R0.trans (read_rest A B hh 80 hp (by decide)))
      clear R0 hh hp
      cases hr : recode B.data.toList with
      | none =>
        have R : Hid (parseP s.data.toList = (Tgt.none, 30)) := by unfold Hid; rw [R1, hr]; rfl
        simp only [hr, recV] at c7
        replace c7 := hide c7
        clear c8 hr R1 hrh hl z1 z2 zx
        generalize hostT A = hx at c4 c5
        rw [eX] at c3
        clear eX
        have B0 := hide (alloc_below w (.cells #[.string ⟨#[]⟩, .int .i64 0, .string ⟨#[]⟩] 24))
        have S0 := hide (tri_new w)
        have M0 := hide (maxV_below M.out B0.out)
        clear M
        go_enter Tryd.func6, Tryd.ntmps6
        go_wp2_with fail
        refine (c1.out _).mono ?_
        rintro e w9 ⟨rfl, rfl⟩
        go_wp2_with fail
        refine (c2.out _).mono ?_
        rintro e w1 ⟨rfl, b1⟩
        have B1 : Hid (Below w.heap.size w w1) := B0.out.trans (b1.mono B0.out.size)
        have S1 := hide (tri_below S0.out b1)
        have M1 := hide (maxV_below M0.out b1)
        clear b1
        go_wp2_with fail
        refine (c3.out _).mono ?_
        rintro e w2 ⟨rfl, b2⟩
        have B2 : Hid (Below w.heap.size w w2) := B1.out.trans (b2.mono B1.out.size)
        have S2 := hide (tri_below S1.out b2)
        have M2 := hide (maxV_below M1.out b2)
        clear b2
        go_wp2_with fail
        refine (c4.out _ M2.out).mono ?_
        rintro e w3 ⟨rfl, b3⟩
        have B3 : Hid (Below w.heap.size w w3) := B2.out.trans (b3.mono B2.out.size)
        have S3 := hide (tri_below S2.out b3)
        have M3 := hide (maxV_below M2.out b3)
        clear b3
        go_wp2_with fail
        refine (c5.out _).mono ?_
        rintro e w9 ⟨rfl, rfl⟩
        go_wp2_with fail
        refine (c7.out _).mono ?_
        rintro e w4 ⟨rfl, b4⟩
        have B4 : Hid (Below w.heap.size w w4) := B3.out.trans (b4.mono B3.out.size)
        have S4 := hide (tri_below S3.out b4)
        have M4 := hide (maxV_below M3.out b4)
        clear b4
        obtain ⟨⟨x0, h0⟩, ⟨x1, h1⟩, ⟨x2, h2⟩, f0, f1, f2, hz⟩ := S4.out
        go_wp2_with fail
        obtain ⟨q0, q1, q2⟩ := tri_store S4.out (.string ⟨#[]⟩) (.int .i64 0) (.string ⟨#[]⟩)
        have qb := put3_below B4.out (Nat.le_refl _) (.string ⟨#[]⟩) (.int .i64 0) (.string ⟨#[]⟩)
        unfold put3 at q0 q1 q2 qb
        exact bodyPost_ret (v := .tuple #[.agg #[(.string ⟨#[]⟩), (.int .i64 0), (.string ⟨#[]⟩)], .int .i64 30]) (by simp [results, Tryd.results6, go_sem, q0, q1, q2]) rfl ⟨by rw [R.out]; rfl, qb⟩
      | some r =>
        obtain ⟨rb, er⟩ : ∃ rb : ByteArray, rb = ⟨r.toArray⟩ := ⟨_, rfl⟩
        have erl : rb.data.toList = r := by rw [er]
        have zr : rb.size ≤ 4096 := by rw [size_list, erl]; have := recode_len _ B.data.toList r (Nat.le_refl _) hr; rw [len_list] at this; omega
        have hrr := recode_head _ r hr hrh
        rw [← erl] at hrr
        have c9 := hide (fun w M => normalCode rb zr hrr w M)
        have R : Hid (parseP s.data.toList = (⟨lows (hostT A).data.toList, 80, normal rb.data.toList⟩, 0)) := by unfold Hid; rw [R1, hr, erl]; rfl
        simp only [hr, recV] at c7
        rw [← er] at c7
        replace c7 := hide c7
        clear hr R1 hrh hrr erl er hl z1 z2 zx
        generalize normal rb.data.toList = nr at c9 R
        generalize lows (hostT A).data.toList = lx at c8 R
        replace c8 := hide c8
        generalize hostT A = hx at c4 c5 c8
        rw [eX] at c3
        clear eX
        have B0 := hide (alloc_below w (.cells #[.string ⟨#[]⟩, .int .i64 0, .string ⟨#[]⟩] 24))
        have S0 := hide (tri_new w)
        have M0 := hide (maxV_below M.out B0.out)
        clear M
        go_enter Tryd.func6, Tryd.ntmps6
        go_wp2_with fail
        refine (c1.out _).mono ?_
        rintro e w9 ⟨rfl, rfl⟩
        go_wp2_with fail
        refine (c2.out _).mono ?_
        rintro e w1 ⟨rfl, b1⟩
        have B1 : Hid (Below w.heap.size w w1) := B0.out.trans (b1.mono B0.out.size)
        have S1 := hide (tri_below S0.out b1)
        have M1 := hide (maxV_below M0.out b1)
        clear b1
        go_wp2_with fail
        refine (c3.out _).mono ?_
        rintro e w2 ⟨rfl, b2⟩
        have B2 : Hid (Below w.heap.size w w2) := B1.out.trans (b2.mono B1.out.size)
        have S2 := hide (tri_below S1.out b2)
        have M2 := hide (maxV_below M1.out b2)
        clear b2
        go_wp2_with fail
        refine (c4.out _ M2.out).mono ?_
        rintro e w3 ⟨rfl, b3⟩
        have B3 : Hid (Below w.heap.size w w3) := B2.out.trans (b3.mono B2.out.size)
        have S3 := hide (tri_below S2.out b3)
        have M3 := hide (maxV_below M2.out b3)
        clear b3
        go_wp2_with fail
        refine (c5.out _).mono ?_
        rintro e w9 ⟨rfl, rfl⟩
        go_wp2_with fail
        refine (c7.out _).mono ?_
        rintro e w4 ⟨rfl, b4⟩
        have B4 : Hid (Below w.heap.size w w4) := B3.out.trans (b4.mono B3.out.size)
        have S4 := hide (tri_below S3.out b4)
        have M4 := hide (maxV_below M3.out b4)
        clear b4
        go_wp2_with fail
        refine (c8.out _).mono ?_
        rintro e w5 ⟨rfl, b5⟩
        have B5 : Hid (Below w.heap.size w w5) := B4.out.trans (b5.mono B4.out.size)
        have S5 := hide (tri_below S4.out b5)
        have M5 := hide (maxV_below M4.out b5)
        clear b5
        go_wp2_with fail
        refine (c9.out _ M5.out).mono ?_
        rintro e w6 ⟨rfl, b6⟩
        have B6 : Hid (Below w.heap.size w w6) := B5.out.trans (b6.mono B5.out.size)
        have S6 := hide (tri_below S5.out b6)
        have M6 := hide (maxV_below M5.out b6)
        clear b6
        obtain ⟨⟨x0, h0⟩, ⟨x1, h1⟩, ⟨x2, h2⟩, f0, f1, f2, hz⟩ := S6.out
        go_wp2_with fail
        obtain ⟨q0, q1, q2⟩ := tri_store S6.out (.string ⟨lx.toArray⟩) (.int .i64 80) (.string ⟨nr.toArray⟩)
        have qb := put3_below B6.out (Nat.le_refl _) (.string ⟨lx.toArray⟩) (.int .i64 80) (.string ⟨nr.toArray⟩)
        unfold put3 at q0 q1 q2 qb
        exact bodyPost_ret (v := .tuple #[.agg #[(.string ⟨lx.toArray⟩), (.int .i64 80), (.string ⟨nr.toArray⟩)], .int .i64 0]) (by simp [results, Tryd.results6, go_sem, q0, q1, q2]) rfl ⟨by rw [R.out]; rfl, qb⟩
    · have q0 := ne_empty (digsT A) (by omega)
      have hp : portSaid (digsT A).data.toList = portOf (digsT A).data.toList := by unfold portSaid; rw [if_neg (fun e => hd (by rw [size_list, e]; rfl))]
      clear hd z3 z4
      by_cases hz : portOf (digsT A).data.toList = 0
      · have R : Hid (parseP s.data.toList = (Tgt.none, 33)) := by unfold Hid; rw [R0, read_port A B hh (by rw [hp]; exact hz)]
        simp only [hz] at c6
        replace c6 := hide c6
        clear c7 c8 hh R0 hrh hl hp hz z1 z2 zx
        generalize hostT A = hx at c4 c5
        generalize digsT A = dx at c4 c6 q0
        rw [eX] at c3
        clear eX
        have B0 := hide (alloc_below w (.cells #[.string ⟨#[]⟩, .int .i64 0, .string ⟨#[]⟩] 24))
        have S0 := hide (tri_new w)
        have M0 := hide (maxV_below M.out B0.out)
        clear M
        go_enter Tryd.func6, Tryd.ntmps6
        go_wp2_with fail
        refine (c1.out _).mono ?_
        rintro e w9 ⟨rfl, rfl⟩
        go_wp2_with fail
        refine (c2.out _).mono ?_
        rintro e w1 ⟨rfl, b1⟩
        have B1 : Hid (Below w.heap.size w w1) := B0.out.trans (b1.mono B0.out.size)
        have S1 := hide (tri_below S0.out b1)
        have M1 := hide (maxV_below M0.out b1)
        clear b1
        go_wp2_with fail
        refine (c3.out _).mono ?_
        rintro e w2 ⟨rfl, b2⟩
        have B2 : Hid (Below w.heap.size w w2) := B1.out.trans (b2.mono B1.out.size)
        have S2 := hide (tri_below S1.out b2)
        have M2 := hide (maxV_below M1.out b2)
        clear b2
        go_wp2_with fail
        refine (c4.out _ M2.out).mono ?_
        rintro e w3 ⟨rfl, b3⟩
        have B3 : Hid (Below w.heap.size w w3) := B2.out.trans (b3.mono B2.out.size)
        have S3 := hide (tri_below S2.out b3)
        have M3 := hide (maxV_below M2.out b3)
        clear b3
        go_wp2_with fail
        refine (c5.out _).mono ?_
        rintro e w9 ⟨rfl, rfl⟩
        go_wp2_with fail
        refine (c6.out _).mono ?_
        rintro e w9 ⟨rfl, rfl⟩
        obtain ⟨⟨x0, h0⟩, ⟨x1, h1⟩, ⟨x2, h2⟩, f0, f1, f2, hz⟩ := S3.out
        go_wp2_with fail
        obtain ⟨q0, q1, q2⟩ := tri_store S3.out (.string ⟨#[]⟩) (.int .i64 0) (.string ⟨#[]⟩)
        have qb := put3_below B3.out (Nat.le_refl _) (.string ⟨#[]⟩) (.int .i64 0) (.string ⟨#[]⟩)
        unfold put3 at q0 q1 q2 qb
        exact bodyPost_ret (v := .tuple #[.agg #[(.string ⟨#[]⟩), (.int .i64 0), (.string ⟨#[]⟩)], .int .i64 33]) (by simp [results, Tryd.results6, go_sem, q0, q1, q2]) rfl ⟨by rw [R.out]; rfl, qb⟩
      · have R1 := (R0.trans (read_rest A B hh _ hp hz))
        clear R0 hh hp
        generalize portOf (digsT A).data.toList = p at c6 R1 hz
        have q1 : (p == 0) = false := by simpa using hz
        clear hz
        replace c6 := hide c6
        cases hr : recode B.data.toList with
        | none =>
          have R : Hid (parseP s.data.toList = (Tgt.none, 30)) := by unfold Hid; rw [R1, hr]; rfl
          simp only [hr, recV] at c7
          replace c7 := hide c7
          clear c8 hr R1 hrh hl z1 z2 zx
          generalize hostT A = hx at c4 c5
          generalize digsT A = dx at c4 c6 q0
          rw [eX] at c3
          clear eX
          have B0 := hide (alloc_below w (.cells #[.string ⟨#[]⟩, .int .i64 0, .string ⟨#[]⟩] 24))
          have S0 := hide (tri_new w)
          have M0 := hide (maxV_below M.out B0.out)
          clear M
          go_enter Tryd.func6, Tryd.ntmps6
          go_wp2_with fail
          refine (c1.out _).mono ?_
          rintro e w9 ⟨rfl, rfl⟩
          go_wp2_with fail
          refine (c2.out _).mono ?_
          rintro e w1 ⟨rfl, b1⟩
          have B1 : Hid (Below w.heap.size w w1) := B0.out.trans (b1.mono B0.out.size)
          have S1 := hide (tri_below S0.out b1)
          have M1 := hide (maxV_below M0.out b1)
          clear b1
          go_wp2_with fail
          refine (c3.out _).mono ?_
          rintro e w2 ⟨rfl, b2⟩
          have B2 : Hid (Below w.heap.size w w2) := B1.out.trans (b2.mono B1.out.size)
          have S2 := hide (tri_below S1.out b2)
          have M2 := hide (maxV_below M1.out b2)
          clear b2
          go_wp2_with fail
          refine (c4.out _ M2.out).mono ?_
          rintro e w3 ⟨rfl, b3⟩
          have B3 : Hid (Below w.heap.size w w3) := B2.out.trans (b3.mono B2.out.size)
          have S3 := hide (tri_below S2.out b3)
          have M3 := hide (maxV_below M2.out b3)
          clear b3
          go_wp2_with fail
          refine (c5.out _).mono ?_
          rintro e w9 ⟨rfl, rfl⟩
          go_wp2_with fail
          refine (c6.out _).mono ?_
          rintro e w9 ⟨rfl, rfl⟩
          go_wp2_with fail
          refine (c7.out _).mono ?_
          rintro e w4 ⟨rfl, b4⟩
          have B4 : Hid (Below w.heap.size w w4) := B3.out.trans (b4.mono B3.out.size)
          have S4 := hide (tri_below S3.out b4)
          have M4 := hide (maxV_below M3.out b4)
          clear b4
          obtain ⟨⟨x0, h0⟩, ⟨x1, h1⟩, ⟨x2, h2⟩, f0, f1, f2, hz⟩ := S4.out
          go_wp2_with fail
          obtain ⟨q0, q1, q2⟩ := tri_store S4.out (.string ⟨#[]⟩) (.int .i64 0) (.string ⟨#[]⟩)
          have qb := put3_below B4.out (Nat.le_refl _) (.string ⟨#[]⟩) (.int .i64 0) (.string ⟨#[]⟩)
          unfold put3 at q0 q1 q2 qb
          exact bodyPost_ret (v := .tuple #[.agg #[(.string ⟨#[]⟩), (.int .i64 0), (.string ⟨#[]⟩)], .int .i64 30]) (by simp [results, Tryd.results6, go_sem, q0, q1, q2]) rfl ⟨by rw [R.out]; rfl, qb⟩
        | some r =>
          obtain ⟨rb, er⟩ : ∃ rb : ByteArray, rb = ⟨r.toArray⟩ := ⟨_, rfl⟩
          have erl : rb.data.toList = r := by rw [er]
          have zr : rb.size ≤ 4096 := by rw [size_list, erl]; have := recode_len _ B.data.toList r (Nat.le_refl _) hr; rw [len_list] at this; omega
          have hrr := recode_head _ r hr hrh
          rw [← erl] at hrr
          have c9 := hide (fun w M => normalCode rb zr hrr w M)
          have R : Hid (parseP s.data.toList = (⟨lows (hostT A).data.toList, p, normal rb.data.toList⟩, 0)) := by unfold Hid; rw [R1, hr, erl]; rfl
          simp only [hr, recV] at c7
          rw [← er] at c7
          replace c7 := hide c7
          clear hr R1 hrh hrr erl er hl z1 z2 zx
          generalize normal rb.data.toList = nr at c9 R
          generalize lows (hostT A).data.toList = lx at c8 R
          replace c8 := hide c8
          generalize hostT A = hx at c4 c5 c8
          generalize digsT A = dx at c4 c6 q0
          rw [eX] at c3
          clear eX
          have B0 := hide (alloc_below w (.cells #[.string ⟨#[]⟩, .int .i64 0, .string ⟨#[]⟩] 24))
          have S0 := hide (tri_new w)
          have M0 := hide (maxV_below M.out B0.out)
          clear M
          go_enter Tryd.func6, Tryd.ntmps6
          go_wp2_with fail
          refine (c1.out _).mono ?_
          rintro e w9 ⟨rfl, rfl⟩
          go_wp2_with fail
          refine (c2.out _).mono ?_
          rintro e w1 ⟨rfl, b1⟩
          have B1 : Hid (Below w.heap.size w w1) := B0.out.trans (b1.mono B0.out.size)
          have S1 := hide (tri_below S0.out b1)
          have M1 := hide (maxV_below M0.out b1)
          clear b1
          go_wp2_with fail
          refine (c3.out _).mono ?_
          rintro e w2 ⟨rfl, b2⟩
          have B2 : Hid (Below w.heap.size w w2) := B1.out.trans (b2.mono B1.out.size)
          have S2 := hide (tri_below S1.out b2)
          have M2 := hide (maxV_below M1.out b2)
          clear b2
          go_wp2_with fail
          refine (c4.out _ M2.out).mono ?_
          rintro e w3 ⟨rfl, b3⟩
          have B3 : Hid (Below w.heap.size w w3) := B2.out.trans (b3.mono B2.out.size)
          have S3 := hide (tri_below S2.out b3)
          have M3 := hide (maxV_below M2.out b3)
          clear b3
          go_wp2_with fail
          refine (c5.out _).mono ?_
          rintro e w9 ⟨rfl, rfl⟩
          go_wp2_with fail
          refine (c6.out _).mono ?_
          rintro e w9 ⟨rfl, rfl⟩
          go_wp2_with fail
          refine (c7.out _).mono ?_
          rintro e w4 ⟨rfl, b4⟩
          have B4 : Hid (Below w.heap.size w w4) := B3.out.trans (b4.mono B3.out.size)
          have S4 := hide (tri_below S3.out b4)
          have M4 := hide (maxV_below M3.out b4)
          clear b4
          go_wp2_with fail
          refine (c8.out _).mono ?_
          rintro e w5 ⟨rfl, b5⟩
          have B5 : Hid (Below w.heap.size w w5) := B4.out.trans (b5.mono B4.out.size)
          have S5 := hide (tri_below S4.out b5)
          have M5 := hide (maxV_below M4.out b5)
          clear b5
          go_wp2_with fail
          refine (c9.out _ M5.out).mono ?_
          rintro e w6 ⟨rfl, b6⟩
          have B6 : Hid (Below w.heap.size w w6) := B5.out.trans (b6.mono B5.out.size)
          have S6 := hide (tri_below S5.out b6)
          have M6 := hide (maxV_below M5.out b6)
          clear b6
          obtain ⟨⟨x0, h0⟩, ⟨x1, h1⟩, ⟨x2, h2⟩, f0, f1, f2, hz⟩ := S6.out
          go_wp2_with fail
          obtain ⟨q0, q1, q2⟩ := tri_store S6.out (.string ⟨lx.toArray⟩) (.int .i64 p) (.string ⟨nr.toArray⟩)
          have qb := put3_below B6.out (Nat.le_refl _) (.string ⟨lx.toArray⟩) (.int .i64 p) (.string ⟨nr.toArray⟩)
          unfold put3 at q0 q1 q2 qb
          exact bodyPost_ret (v := .tuple #[.agg #[(.string ⟨lx.toArray⟩), (.int .i64 p), (.string ⟨nr.toArray⟩)], .int .i64 0]) (by simp [results, Tryd.results6, go_sem, q0, q1, q2]) rfl ⟨by rw [R.out]; rfl, qb⟩
end Go.Proofs.YtaijnphodjdedaaDoor
