/- The contract of Read. -/
import Derived.Test.YtaklfiipkjfjdaaDlA
namespace Go.Proofs.Ytaklfiipkjfjdaa
open Go.RowKit Go.Maps
theorem own_drew {w w' : World} {v : Value} {bs : List UInt8} {n : Nat} (h : Own (w.drewN n) v bs w') : Own w v bs w' := own_base h (below_drewN w n)
set_option maxRecDepth 20000 in
set_option maxHeartbeats 2000000 in
theorem readC {o : Ow} {g : Nat} {s : Dk} {W : World} (h : Dsk o g s W) (nm : ByteArray) (hs : nm.size ≤ 140737488351232) (hB : Bd 1000000000 s) :
    Calls Try.prog 15 #[.pointer (some ⟨g, 0, none⟩), .string nm] W fun e W' => ∃ v, e = .returned (.tuple #[v, .int .i64 (s.read nm.data.toList).2]) ∧ Own W v (s.read nm.data.toList).1 W' := by
  have CD := hide' (downC h)
  obtain ⟨m0, m1, m2, pv, fb, cs, v⟩ := h
  have V := hide' v
  cases hd : s.down with
  | true =>
    have R : Hid (s.read nm.data.toList = ([], 93)) := by unfold Hid Dk.read; rw [if_pos hd]
    rw [hd] at CD
    clear v hd
    go_enter Try.func15, Try.ntmps15
    go_wp2_with (go_at_call 25; refine CD.out.mono ?_; rintro e w1 ⟨rfl, n, rfl⟩)
    go_ret2
    rw [R.out]
    exact ⟨_, rfl, own_nil _ _ (below_drewN _ _)⟩
  | false =>
    rw [hd] at CD
    cases hg : goodN nm.data.toList with
    | false =>
      have R : Hid (s.read nm.data.toList = ([], 95)) := by unfold Hid Dk.read; rw [if_neg (by rw [hd]; decide), if_pos hg]
      have CG : Hid (∀ w, Calls Try.prog 41 #[.string nm] w fun e w' => e = .returned (.bool false) ∧ w' = w) := fun w => by have := goodNameC nm w hs; rw [hg] at this; exact this
      clear v hd hg
      go_enter Try.func15, Try.ntmps15
      go_wp2_with (first
        | (go_at_call 25; refine CD.out.mono ?_; rintro e w1 ⟨rfl, n, rfl⟩)
        | (go_at_call 41; refine (CG.out _).mono ?_; rintro e w2 ⟨rfl, rfl⟩))
      go_ret2
      rw [R.out]
      exact ⟨_, rfl, own_nil _ _ (below_drewN _ _)⟩
    | true =>
      have CG : Hid (∀ w, Calls Try.prog 41 #[.string nm] w fun e w' => e = .returned (.bool true) ∧ w' = w) := fun w => by have := goodNameC nm w hs; rw [hg] at this; exact this
      have CF : Hid (∀ n, Calls Try.prog 42 #[.pointer (some ⟨g, 0, none⟩), .string nm] (W.drewN n) fun e W' => e = .returned (findV fb s.now nm.data.toList) ∧ W' = W.drewN n) := fun n => findC (dkV_drew V.out n) nm hs
      cases ha : atN s.now nm.data.toList with
      | none =>
        have R : Hid (s.read nm.data.toList = ([], 90)) := by unfold Hid Dk.read; rw [if_neg (by rw [hd]; decide), if_neg (by rw [hg]; decide), ha]
        have F : findV fb s.now nm.data.toList = .tuple #[.pointer none, .int .i64 90] := by unfold findV; rw [ha]
        rw [F] at CF
        clear v hd hg ha F
        go_enter Try.func15, Try.ntmps15
        go_wp2_with (first
          | (go_at_call 25; refine CD.out.mono ?_; rintro e w1 ⟨rfl, n, rfl⟩)
          | (go_at_call 41; refine (CG.out _).mono ?_; rintro e w2 ⟨rfl, rfl⟩)
          | (go_at_call 42; refine (CF.out _).mono ?_; rintro e w2 ⟨rfl, rfl⟩))
        go_ret2
        rw [R.out]
        exact ⟨_, rfl, own_nil _ _ (below_drewN _ _)⟩
      | some k =>
        have R : Hid (s.read nm.data.toList = (s.data.getD k [], 0)) := by unfold Hid Dk.read; rw [if_neg (by rw [hd]; decide), if_neg (by rw [hg]; decide), ha]
        have F : findV fb s.now nm.data.toList = .tuple #[.pointer (some ⟨fb k, 0, none⟩), .int .i64 0] := by unfold findV; rw [ha]
        rw [F] at CF
        have hk := (v.wf.now.2 _ (at_some ha)).1
        obtain ⟨ao, ca, fB, fR, fo, fw⟩ := file_slice (v.files k hk)
        have hlb := hB.2.2.2.2.2 k
        have CC : Hid (∀ n, Calls Try.prog 28 #[.slice ao (s.data.getD k []).length ca] (W.drewN n) fun e w' => ∃ u, e = .returned u ∧ Own (W.drewN n) u (s.data.getD k []) w') := fun n => bcloneC _ _ _ (holdsB_mono (row_holds0 fR) (below_drewN W n)) (by omega)
        have c1 := (cells_3 fB).1.2.1
        generalize (s.data.getD k []).length = L at c1 CC
        clear v hd hg ha F fB fR fo fw
        go_enter Try.func15, Try.ntmps15
        go_wp2_with (first
          | (go_at_call 25; refine CD.out.mono ?_; rintro e w1 ⟨rfl, n, rfl⟩)
          | (go_at_call 41; refine (CG.out _).mono ?_; rintro e w2 ⟨rfl, rfl⟩)
          | (go_at_call 42; refine (CF.out _).mono ?_; rintro e w2 ⟨rfl, rfl⟩)
          | (go_at_call 28; refine (CC.out _).mono ?_; rintro e w2 ⟨u, rfl, ho⟩; have HO := hide' ho; clear ho))
        go_ret2
        rw [R.out]
        exact ⟨_, rfl, own_drew HO.out⟩
end Go.Proofs.Ytaklfiipkjfjdaa
