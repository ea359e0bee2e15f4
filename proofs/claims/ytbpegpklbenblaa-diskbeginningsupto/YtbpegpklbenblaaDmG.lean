/- The contract of begin: a disk of copies. -/
import Derived.Test.YtbpegpklbenblaaDmF
namespace Go.Proofs.Ytbpegpklbenblaa
open Go.RowKit
theorem newPost_base {fs : FilL} {room : Int} {fails : List Int} {power : Int} {w W W' : World} {e : Ending} (h : NewPost fs room fails power W e W') (hb : Below w.heap.size w W) : NewPost fs room fails power w e W' := by
  refine ⟨hb.trans (h.1.mono hb.size), ?_⟩
  rcases h.2 with h1 | ⟨h1, g, o, h2, h3, h4⟩
  · exact .inl h1
  · exact .inr ⟨h1, g, o, h2, h3, fun k hk => Nat.le_trans hb.size (h4 k hk)⟩
set_option maxRecDepth 20000 in
set_option maxHeartbeats 8000000 in
theorem beginC (fv : Value) (fs : FL) (room : Int) (zv : Value) (fails : List Int) (power : Int) (w : World) (hf : HoldsFi w fv fs) (hz : HoldsI w zv fails) (hl : ∀ f ∈ fs, f.1.length ≤ 140737488351232 ∧ f.2.length ≤ 1000000000) (hn : fs.length ≤ 1000000000) (hzn : fails.length ≤ 1000000000) (hzb : ∀ z ∈ fails, -9223372036854775808 ≤ z ∧ z ≤ 9223372036854775807) :
    Calls Try.prog 10 #[.agg #[fv, .int .i64 room, zv, .int .i64 power]] w fun e W' => NewPost fs room fails power w e W' := by
  obtain ⟨fa, fc, hfv, _⟩ := id hf
  obtain ⟨za, zc, hzv, _⟩ := id hz
  subst hfv hzv
  have b0 := below_alloc' w (.cells #[.slice fa fs.length fc, .int .i64 room, .slice za fails.length zc, .int .i64 power] 25)
  have B0 := hide' b0
  have F0 : Blk w.heap.size (w.alloc (.cells #[.slice fa fs.length fc, .int .i64 room, .slice za fails.length zc, .int .i64 power] 25)) [.slice fa fs.length fc, .int .i64 room, .slice za fails.length zc, .int .i64 power] := by simpa using cells_lit w #[.slice fa fs.length fc, .int .i64 room, .slice za fails.length zc, .int .i64 power] 25
  have z0 : (w.alloc (.cells #[.slice fa fs.length fc, .int .i64 room, .slice za fails.length zc, .int .i64 power] 25)).heap.size = w.heap.size + 1 := by simp
  have KP : Hid (∀ Wx, Below (w.heap.size + 1) (w.alloc (.cells #[.slice fa fs.length fc, .int .i64 room, .slice za fails.length zc, .int .i64 power] 25)) Wx → Wx.cell? ⟨w.heap.size, 0, none⟩ = some (.slice fa fs.length fc) ∧ Wx.cell? ⟨w.heap.size, 1, none⟩ = some (.int .i64 room) ∧ Wx.cell? ⟨w.heap.size, 2, none⟩ = some (.slice za fails.length zc) ∧ Wx.cell? ⟨w.heap.size, 3, none⟩ = some (.int .i64 power)) := fun Wx hb => by
    have := cells_base F0 hb (by omega)
    exact ⟨(this.1 0 (by simp)).1, (this.1 1 (by simp)).1, (this.1 2 (by simp)).1, (this.1 3 (by simp)).1⟩
  have CF : Hid (∀ Wx, Below (w.heap.size + 1) (w.alloc (.cells #[.slice fa fs.length fc, .int .i64 room, .slice za fails.length zc, .int .i64 power] 25)) Wx → Calls Try.prog 39 #[.slice fa fs.length fc] Wx fun e w' => ∃ ua ul uc, e = .returned (.slice ua ul uc) ∧ Hid (Below (w.heap.size + 1) (w.alloc (.cells #[.slice fa fs.length fc, .int .i64 room, .slice za fails.length zc, .int .i64 power] 25)) w' ∧ HoldsFi w' (.slice ua ul uc) fs ∧ Below Wx.heap.size Wx w') ∧ w'.cell? ⟨w.heap.size, 0, none⟩ = some (.slice fa fs.length fc) ∧ w'.cell? ⟨w.heap.size, 1, none⟩ = some (.int .i64 room) ∧ w'.cell? ⟨w.heap.size, 2, none⟩ = some (.slice za fails.length zc) ∧ w'.cell? ⟨w.heap.size, 3, none⟩ = some (.int .i64 power)) := fun Wx hb => by
    have hb' : Below w.heap.size w Wx := B0.out.trans (hb.mono (by omega))
    refine (copyFi _ fs Wx (holdsFi_mono hf hb') hn (fun f h => by have := (hl f h).2; omega)).mono ?_
    rintro e w' ⟨u, rfl, h1, h2⟩
    obtain ⟨ua, uc, hu, _⟩ := id h1
    subst hu
    have hb2 := hb.trans (h2.mono (by have := hb.size; omega))
    exact ⟨ua, _, uc, rfl, ⟨hb2, holdsFi_sub (mask_sub _ _) h1, h2⟩, KP.out w' hb2⟩
  have CI : Hid (∀ Wx, Below (w.heap.size + 1) (w.alloc (.cells #[.slice fa fs.length fc, .int .i64 room, .slice za fails.length zc, .int .i64 power] 25)) Wx → Calls Try.prog 40 #[.slice za fails.length zc] Wx fun e w' => ∃ ua ul uc, e = .returned (.slice ua ul uc) ∧ Hid (Below (w.heap.size + 1) (w.alloc (.cells #[.slice fa fs.length fc, .int .i64 room, .slice za fails.length zc, .int .i64 power] 25)) w' ∧ HoldsI w' (.slice ua ul uc) fails ∧ Below Wx.heap.size Wx w') ∧ w'.cell? ⟨w.heap.size, 0, none⟩ = some (.slice fa fs.length fc) ∧ w'.cell? ⟨w.heap.size, 1, none⟩ = some (.int .i64 room) ∧ w'.cell? ⟨w.heap.size, 2, none⟩ = some (.slice za fails.length zc) ∧ w'.cell? ⟨w.heap.size, 3, none⟩ = some (.int .i64 power)) := fun Wx hb => by
    have hb' : Below w.heap.size w Wx := B0.out.trans (hb.mono (by omega))
    refine (copyIntsC _ fails Wx (holdsI_mono hz hb') hzn).mono ?_
    rintro e w' ⟨u, rfl, h1⟩
    have h2 := holdsI_own h1
    obtain ⟨ua, uc, hu, _⟩ := id h2
    subst hu
    have hb2 := hb.trans (h1.2.mono (by have := hb.size; omega))
    exact ⟨ua, _, uc, rfl, ⟨hb2, h2, h1.2⟩, KP.out w' hb2⟩
  have CN : Hid (∀ Wx fv' zv', Below (w.heap.size + 1) (w.alloc (.cells #[.slice fa fs.length fc, .int .i64 room, .slice za fails.length zc, .int .i64 power] 25)) Wx → HoldsFi Wx fv' fs → HoldsI Wx zv' fails → Calls Try.prog 38 #[fv', .int .i64 room, zv', .int .i64 power] Wx fun e w' => ∃ pv er, e = .returned (.tuple #[.pointer pv, .int .i64 er]) ∧ Hid (NewPost fs room fails power w (.returned (.tuple #[.pointer pv, .int .i64 er])) w') ∧ w'.cell? ⟨w.heap.size, 0, none⟩ = some (.slice fa fs.length fc) ∧ w'.cell? ⟨w.heap.size, 1, none⟩ = some (.int .i64 room) ∧ w'.cell? ⟨w.heap.size, 2, none⟩ = some (.slice za fails.length zc) ∧ w'.cell? ⟨w.heap.size, 3, none⟩ = some (.int .i64 power)) := fun Wx fv' zv' hb h1 h2 => by
    have hb' : Below w.heap.size w Wx := B0.out.trans (hb.mono (by omega))
    refine (newC fv' fs room zv' fails power Wx h1 h2 hl hn hzn hzb).mono ?_
    rintro e w' hp
    have kk := KP.out w' (hb.trans (hp.1.mono (by have := hb.size; omega)))
    have hp2 := newPost_base hp hb'
    rcases hp.2 with ⟨_, rfl⟩ | ⟨_, g, o, rfl, _⟩
    · exact ⟨_, _, rfl, hp2, kk⟩
    · exact ⟨_, _, rfl, hp2, kk⟩
  rename_i r1 r2
  have S0 : Hid (Below (w.heap.size + 1) (w.alloc (.cells #[.slice fa fs.length fc, .int .i64 room, .slice za fails.length zc, .int .i64 power] 25)) (w.alloc (.cells #[.slice fa fs.length fc, .int .i64 room, .slice za fails.length zc, .int .i64 power] 25))) := by unfold Hid; exact Below.refl _ _
  obtain ⟨i0, i1, i2, i3⟩ := KP.out _ S0.out
  obtain ⟨nf, hnf⟩ : ∃ n, n = fs.length := ⟨_, rfl⟩
  obtain ⟨nz, hnz⟩ : ∃ n, n = fails.length := ⟨_, rfl⟩
  have HNF := hide' hnf
  have HNZ := hide' hnz
  rw [← hnf, ← hnz] at CF CI CN S0 i0 i1 i2 i3 ⊢
  clear hf hz hl hn hzn hzb F0 z0 KP r1 r2 b0 B0 hnf hnz
  go_enter Try.func10, Try.ntmps10
  go_wp2_with fail
  go_region_held3 (fun w' => w'.cell? ⟨w.heap.size, 0, none⟩ = some (.slice fa nf fc) ∧ w'.cell? ⟨w.heap.size, 1, none⟩ = some (.int .i64 room) ∧ w'.cell? ⟨w.heap.size, 2, none⟩ = some (.slice za nz zc) ∧ w'.cell? ⟨w.heap.size, 3, none⟩ = some (.int .i64 power)) (go_keep)
    (first
      | (go_at_call 39; refine (CF.out _ ?_).mono ?_; (first | exact S0.out.drew | exact S0.out | exact B2.out.1.drew | exact B2.out.1); rintro e w1 ⟨ua, ul, uc, rfl, B1, j0, j1, j2, j3⟩)
      | (go_at_call 40; refine (CI.out _ ?_).mono ?_; (first | exact S0.out.drew | exact S0.out | exact B1.out.1.drew | exact B1.out.1); rintro e w2 ⟨va, vl, vc, rfl, B2, k0, k1, k2, k3⟩)
      | (go_at_call 38; (first | (refine (CN.out _ _ _ B2.out.1 (holdsFi_mono B1.out.2.1 B2.out.2.2) B2.out.2.1).mono ?_) | (refine (CN.out _ _ _ B1.out.1 B1.out.2.1 (holdsI_mono B2.out.2.1 B1.out.2.2)).mono ?_)); rintro e w3 ⟨pv, er, rfl, B3, l0, l1, l2, l3⟩))
  all_goals
    go_wp2_with fail
    go_ret2
    exact B3.out
end Go.Proofs.Ytbpegpklbenblaa
