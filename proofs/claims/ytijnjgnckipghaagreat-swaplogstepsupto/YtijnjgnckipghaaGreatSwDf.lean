/- The contracts of begin and cut, as SwaplogSteps calls them. -/
import Derived.Test.YtijnjgnckipghaaGreatBdE
import Derived.Test.YtijnjgnckipghaaGreatBdB
import Derived.Test.YtijnjgnckipghaaGreatOpnZ
import Derived.Deep.RegionHeld3
import Derived.Deep.DeepCutAuto
namespace Go.Proofs.YtijnjgnckipghaaGreat
open Go.RowKit
set_option maxRecDepth 20000 in
set_option maxHeartbeats 8000000 in
theorem begin11C (fa : Option Addr) (fc : Nat) (fs : FL) (room : Int) (za : Option Addr) (zc : Nat) (fails : List Int) (power : Int) (w : World) (hf : HoldsFi w (.slice fa fs.length fc) fs) (hz : HoldsI w (.slice za fails.length zc) fails) (hl : ∀ f ∈ fs, f.1.length ≤ 140737488351232 ∧ f.2.length ≤ 1000000000) (hn : fs.length ≤ 1000000000) (hzn : fails.length ≤ 1000000000) (hzb : ∀ z ∈ fails, -9223372036854775808 ≤ z ∧ z ≤ 9223372036854775807) :
    Calls Tryz.prog 5 #[.agg #[.slice fa fs.length fc, .int .i64 room, .slice za fails.length zc, .int .i64 power]] w fun e W' => NewPost fs room fails power w e W' := by
  obtain ⟨nf, hnf⟩ : ∃ n, n = fs.length := ⟨_, rfl⟩
  obtain ⟨nz, hnz⟩ : ∃ n, n = fails.length := ⟨_, rfl⟩
  rw [← hnf, ← hnz]
  rw [← hnf] at hf
  rw [← hnz] at hz
  obtain ⟨W1, hW1⟩ : ∃ W1, W1 = w.alloc (.cells #[.slice fa nf fc, .int .i64 room, .slice za nz zc, .int .i64 power] 25) := ⟨_, rfl⟩
  have B0 : Hid (Below w.heap.size w W1) := by rw [hW1]; exact below_alloc' _ _
  have F0 : Hid (Blk w.heap.size W1 [.slice fa nf fc, .int .i64 room, .slice za nz zc, .int .i64 power]) := by rw [hW1]; exact cells_lit w #[.slice fa nf fc, .int .i64 room, .slice za nz zc, .int .i64 power] 25
  have HW1 := hide' hW1
  have z1 : W1.heap.size = w.heap.size + 1 := by rw [hW1]; simp
  have OI := ownI_empty W1
  rw [z1] at OI
  have OE := hide' OI
  have HV := hide' (holdsI_mono hz (B0.out.trans ((below_alloc' W1 (.cells #[] 3)).mono B0.out.size)))
  have HF := hide' hf
  have HL := hide' hl
  have HZB := hide' hzb
  obtain ⟨i0, i1, i2, i3⟩ := (cells_4 (cells_below F0.out (below_alloc' W1 (.cells #[] 3)))).1
  have LZ := hide' hzn
  have LF := hide' hn
  clear hW1 hf hz hl hzb z1 OI hn hzn
  have HNF := hide' hnf
  have HNZ := hide' hnz
  clear hnf hnz
  go_enter Tryz.func5, Tryz.ntmps5
  go_upto_region 2 with fail
  rw [← HW1.out]
  go_wp2_with (at_builtin; refine appAllI rfl (.tmp 6) (.tmp 8) rfl W1 _ [] rfl OE.out (.slice za nz zc) fails rfl HV.out (by simp; have := LZ.out; omega) ?_; intro v2 w2 hown2 _; have OW := hide' hown2; clear hown2)
  have F2 := hide' (cells_below F0.out OW.out.2)
  have B2 := hide' (B0.out.trans (OW.out.2.mono B0.out.size))
  have V2 := hide' (holdsI_own OW.out)
  clear F0 B0 OW OE HV HW1 i0 i1 i2 i3
  have KP : Hid (∀ Wx, Below w2.heap.size w2 Wx → Wx.cell? ⟨w.heap.size, 0, none⟩ = some (.slice fa nf fc) ∧ Wx.cell? ⟨w.heap.size, 1, none⟩ = some (.int .i64 room) ∧ Wx.cell? ⟨w.heap.size, 2, none⟩ = some (.slice za nz zc) ∧ Wx.cell? ⟨w.heap.size, 3, none⟩ = some (.int .i64 power)) := fun Wx hb => (cells_4 (cells_below F2.out hb)).1
  have CF : Hid (∀ Wx, Below w2.heap.size w2 Wx → Calls Tryz.prog 21 #[.slice fa nf fc] Wx fun e w' => ∃ ua ul uc, e = .returned (.slice ua ul uc) ∧ Hid (HoldsFi w' (.slice ua ul uc) fs ∧ Below w2.heap.size w2 w') ∧ w'.cell? ⟨w.heap.size, 0, none⟩ = some (.slice fa nf fc) ∧ w'.cell? ⟨w.heap.size, 1, none⟩ = some (.int .i64 room) ∧ w'.cell? ⟨w.heap.size, 2, none⟩ = some (.slice za nz zc) ∧ w'.cell? ⟨w.heap.size, 3, none⟩ = some (.int .i64 power)) := fun Wx hb => by
    have hbw := B2.out.trans (hb.mono B2.out.size)
    refine (copyFi _ fs Wx (holdsFi_mono HF.out hbw) LF.out (fun f h => by have := (HL.out f h).2; omega)).mono ?_
    rintro e w' ⟨u, rfl, h1, h2⟩
    obtain ⟨ua, uc, hu, _⟩ := id h1
    subst hu
    have hb2 := hb.trans (h2.mono hb.size)
    exact ⟨ua, _, uc, rfl, ⟨holdsFi_sub (mask_sub _ _) h1, hb2⟩, KP.out w' hb2⟩
  have CN : Hid (∀ Wx fv', Hid (HoldsFi Wx fv' fs ∧ Below w2.heap.size w2 Wx) → Calls Tryz.prog 18 #[fv', .int .i64 room, v2, .int .i64 power] Wx fun e w' => ∃ pv er, e = .returned (.tuple #[.pointer pv, .int .i64 er]) ∧ Hid (NewPost fs room fails power w (.returned (.tuple #[.pointer pv, .int .i64 er])) w') ∧ w'.cell? ⟨w.heap.size, 0, none⟩ = some (.slice fa nf fc) ∧ w'.cell? ⟨w.heap.size, 1, none⟩ = some (.int .i64 room) ∧ w'.cell? ⟨w.heap.size, 2, none⟩ = some (.slice za nz zc) ∧ w'.cell? ⟨w.heap.size, 3, none⟩ = some (.int .i64 power)) := fun Wx fv' hh => by
    refine (newC fv' fs room v2 fails power Wx hh.out.1 (holdsI_mono V2.out hh.out.2) HL.out LF.out LZ.out HZB.out).mono ?_
    rintro e w' hp
    have kk := KP.out w' (hh.out.2.trans (hp.1.mono hh.out.2.size))
    have hp2 := newPost_base hp (B2.out.trans (hh.out.2.mono B2.out.size))
    rcases hp.2 with ⟨_, rfl⟩ | ⟨_, g, o, rfl, _⟩
    · exact ⟨_, _, rfl, hp2, kk⟩
    · exact ⟨_, _, rfl, hp2, kk⟩
  obtain ⟨i0, i1, i2, i3⟩ := KP.out w2 (Below.refl _ _)
  go_region_held3 (fun w' => w'.cell? ⟨w.heap.size, 0, none⟩ = some (.slice fa nf fc) ∧ w'.cell? ⟨w.heap.size, 1, none⟩ = some (.int .i64 room) ∧ w'.cell? ⟨w.heap.size, 2, none⟩ = some (.slice za nz zc) ∧ w'.cell? ⟨w.heap.size, 3, none⟩ = some (.int .i64 power)) (go_keep)
    (first
      | (go_at_call 21; refine (CF.out _ ?_).mono ?_; (first | exact (Below.refl _ _).drew | exact Below.refl _ _); rintro e w5 ⟨ua, ul, uc, rfl, B5, j0, j1, j2, j3⟩)
      | (go_at_call 18; refine (CN.out _ _ B5).mono ?_; rintro e w6 ⟨pv, er, rfl, B6, l0, l1, l2, l3⟩))
  all_goals
    go_wp2_with fail
    go_ret2
    exact B6.out
theorem takeSt_run (x : Option Addr) (n cap : Nat) (hi : 100 ≤ n) (hc : n ≤ cap) (hn : x = none → n = 0) (w : World) : Sem.run Tryz.prog (Instr.slice 26 (.slice x n cap) none (some (.int .i64 100)) none) w = .ok (.slice x 100 cap) w := by
  have hel : Tryz.prog.elem 26 = 55 := by kernel_rfl
  have hh := run_slice_h (P := Tryz.prog) w 26 x n cap (by rw [hel]; exact Tryz.underlying26) .i64 100 (by omega) (by omega)
  have h3 : ((100 : Int)).toNat = 100 := rfl
  rw [hel, Tryz.sizeOf55] at hh
  simp only [Result.andThen, sliced, h3] at hh
  rw [hh]
  cases x with
  | none => have := hn rfl; omega
  | some a => simp [Addr.add]
theorem holdsSt_take {w : World} {ao : Option Addr} {cap : Nat} {os : List StT} (h : HoldsSt w (.slice ao os.length cap) os) (i : Nat) (hi : i ≤ os.length) : HoldsSt w (.slice ao i cap) (os.take i) := by
  obtain ⟨ao', cap', e, h0, hcp, hc⟩ := h
  simp only [Value.slice.injEq] at e
  obtain ⟨rfl, _, rfl⟩ := e
  have hl : (os.take i).length = i := by rw [List.length_take]; omega
  refine ⟨ao, cap, by rw [hl], h0, by omega, fun hne => ?_⟩
  obtain ⟨b, off, rfl, hlt, hcell⟩ := hc (fun e => hne (by rw [e]; simp))
  exact ⟨b, off, rfl, hlt, fun j hj => by
    have := hcell j (by omega)
    simpa using this⟩
set_option maxHeartbeats 400000 in
theorem cut11C (v : Value) (os : List StT) (w : World) (hv : HoldsSt w v os) (hl : os.length ≤ 1000000000) :
    Calls Tryz.prog 11 #[v] w fun e w' => ∃ u, e = .returned u ∧ (∀ V, HoldsSt V v os → HoldsSt V u (os.take 100)) ∧ w' = w := by
  obtain ⟨ao, cap, rfl, h0, hcp, hc⟩ := id hv
  by_cases hn : os.length ≤ 100
  · have E : Hid (os.take 100 = os) := List.take_of_length_le hn
    have q : decide ((100 : Int) < (os.length : Int)) = false := by simp; omega
    have HV : Hid (∀ V, HoldsSt V (.slice ao os.length cap) os → HoldsSt V (.slice ao os.length cap) (os.take 100)) := fun V h => by rw [E.out]; exact h
    clear hv hc h0
    go_enter Tryz.func11, Tryz.ntmps11
    go_wp2_with fail
    go_ret
    exact ⟨_, rfl, HV.out, rfl⟩
  · have q : decide ((100 : Int) < (os.length : Int)) = true := by simp; omega
    have hs := takeSt_run ao os.length cap (by omega) hcp (fun e => by have := h0 e; omega)
    have HV : Hid (∀ V, HoldsSt V (.slice ao os.length cap) os → HoldsSt V (.slice ao 100 cap) (os.take 100)) := fun V h => holdsSt_take h 100 (by omega)
    clear hv hc h0
    go_enter Tryz.func11, Tryz.ntmps11
    go_wp2_with fail
    go_ret
    exact ⟨_, rfl, HV.out, rfl⟩
end Go.Proofs.YtijnjgnckipghaaGreat
