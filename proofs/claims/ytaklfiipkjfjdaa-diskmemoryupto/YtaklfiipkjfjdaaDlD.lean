/- The contract of a file's left. -/
import Derived.Test.YtaklfiipkjfjdaaDlC
import Derived.Test.YtaklfiipkjfjdaaOpnI
namespace Go.Proofs.Ytaklfiipkjfjdaa
open Go.RowKit Go.Maps
theorem takeB_run (x o n cap i : Nat) (hi : i ≤ n) (hc : n ≤ cap) (w : World) : Sem.run Try.prog (Instr.slice 41 (.slice (some ⟨x, o, none⟩) n cap) none (some (.int .i64 (i : Int))) none) w = .ok (.slice (some ⟨x, o, none⟩) i cap) w := by
  have hel : Try.prog.elem 41 = 5 := by kernel_rfl
  have hh := run_slice_h (P := Try.prog) w 41 (some ⟨x, o, none⟩) n cap (by rw [hel]; exact Try.underlying41) .i64 i (by omega) (by omega)
  rw [hel, Try.sizeOf5] at hh
  simp only [Result.andThen, Int.toNat_natCast, sliced] at hh
  rw [hh]
  simp [Addr.add]
theorem takeB_none (w : World) : Sem.run Try.prog (Instr.slice 41 (.slice none 0 0) none (some (.int .i64 0)) none) w = .ok (.slice none 0 0) w := by
  have hel : Try.prog.elem 41 = 5 := by kernel_rfl
  have hh := run_slice_h (P := Try.prog) w 41 none 0 0 (by rw [hel]; exact Try.underlying41) .i64 0 (by omega) (by omega)
  rw [hel, Try.sizeOf5] at hh
  simp only [Result.andThen, sliced] at hh
  exact hh
/-- a slice of bytes cut at its end: what the cut is, and what it holds -/
theorem takeBd (W : World) (ao : Option Addr) (n cap : Nat) (bs : List UInt8) (h : HoldsB W (.slice ao n cap) bs) (hn : n = bs.length) (had : ∀ ad, ao = some ad → ∃ x, ad = ⟨x, 0, none⟩) (i : Nat) (hi : i ≤ n) :
    ∃ pa pc, (∀ w, Sem.run Try.prog (Instr.slice 41 (.slice ao n cap) none (some (.int .i64 (i : Int))) none) w = .ok (.slice pa i pc) w) ∧ HoldsB W (.slice pa i pc) (bs.take i) := by
  subst hn
  obtain ⟨ao', cap', e, h0, hcp, hc⟩ := id h
  simp only [Value.slice.injEq, true_and] at e
  obtain ⟨rfl, rfl⟩ := e
  refine ⟨ao, cap, fun w => ?_, holdsB_pre h i hi⟩
  cases ao with
  | none =>
    have hb : bs = [] := by
      apply Classical.byContradiction
      intro h
      obtain ⟨b, off, e, _⟩ := hc h
      cases e
    have hc0 := h0 rfl
    subst hc0 hb
    have : i = 0 := by simpa using hi
    subst this
    exact takeB_none w
  | some ad =>
    obtain ⟨x, rfl⟩ := had ad rfl
    exact takeB_run x 0 bs.length cap i hi hcp w
theorem own_addr {W : World} {ao : Option Addr} {n cap : Nat} {t : TypeId} {m : Nat} {xs : List Value} (h : W.ownsRow 0 t 1 (.slice ao n cap) m xs) : ∀ ad, ao = some ad → ∃ x, ad = ⟨x, 0, none⟩ := by
  intro ad e
  rcases h.2 with ⟨e1, _⟩ | ⟨x, c, cur, e1, _⟩
  · cases e1; cases e
  · cases e1
    exact ⟨x, (Option.some.inj e).symm⟩
set_option maxRecDepth 20000 in
set_option maxHeartbeats 4000000 in
theorem fleftC {o : Ow} {W : World} {b i : Nat} {bs : List UInt8} {sf : Nat} (h : FileAt o W b i bs sf) (hsf : sf ≤ bs.length) (kv : Value) (keep : List Int) (hk : HoldsI W kv keep) (hkb : ∀ z ∈ keep, -9223372036854775808 ≤ z ∧ z ≤ 9223372036854775807) (hl : bs.length ≤ 1000000000) (hi : i ≤ 1000000000) :
    Calls Try.prog 45 #[.pointer (some ⟨b, 0, none⟩), kv] W fun e W' => ∃ u, e = .returned u ∧ Own W u (bs.take (min bs.length (sf + (keep.getD i 0).toNat))) W' := by
  obtain ⟨ao, ca, fB, fR, fo, fw⟩ := file_slice h
  obtain ⟨⟨c0, c1, c2⟩, _⟩ := cells_3 fB
  have HH := hide' (row_holds0 fR)
  have HA := hide' (own_addr fR)
  obtain ⟨L, hL⟩ : ∃ L, L = bs.length := ⟨_, rfl⟩
  have HL := hide' hL
  obtain ⟨ka, kc, rfl, k0, kcp, kcell⟩ := hk
  obtain ⟨N, hN⟩ : ∃ N, N = keep.length := ⟨_, rfl⟩
  have HN := hide' hN
  rw [← hL] at c1 HH hsf hl fB
  have FB := hide' fB
  -- the end, whatever the number is
  have CC : Hid (∀ m : Nat, m ≤ L → ∃ pa pc, (∀ w, Sem.run Try.prog (Instr.slice 41 (.slice ao L ca) none (some (.int .i64 (m : Int))) none) w = .ok (.slice pa m pc) w) ∧ ∀ Wx, Below W.heap.size W Wx → Calls Try.prog 28 #[.slice pa m pc] Wx fun e w' => ∃ u, e = .returned u ∧ Hid (Own W u (bs.take m) w') ∧ w'.cell? ⟨b, 1, none⟩ = some (.slice ao L ca) ∧ w'.cell? ⟨b, 2, none⟩ = some (.int .i64 (sf : Int))) := by
    intro m hm
    obtain ⟨pa, pc, h1, h2⟩ := takeBd W ao L ca bs HH.out HL.out (by intro ad e; exact HA.out ad e) m hm
    refine ⟨pa, pc, h1, fun Wx hb => ?_⟩
    refine (bcloneC _ _ Wx (holdsB_mono h2 hb) (by rw [List.length_take]; omega)).mono ?_
    rintro e w' ⟨u, rfl, ho⟩
    have q := own_base ho hb
    obtain ⟨⟨_, q1, q2⟩, _⟩ := cells_3 (cells_below FB.out q.2)
    exact ⟨u, rfl, q, q1, q2⟩
  clear fR fB fo fw h
  by_cases hik : i < N
  · have hik' : i < keep.length := by rw [← HN.out]; exact hik
    obtain ⟨kb, ko, rfl, klt, kc2⟩ := kcell (fun e => by rw [e] at hik'; simp at hik')
    have kx := kc2 i hik'
    have kr := hkb _ (List.getElem_mem hik')
    have eg : keep.getD i 0 = keep[i]'hik' := by simp [List.getD, hik']
    have hmx : ∃ mm : Nat, ((mm : Nat) : Int) = max 0 (min (keep[i]'hik') ((L : Int) - (sf : Int))) ∧ sf + mm = min L (sf + (keep.getD i 0).toNat) := by
      refine ⟨(max 0 (min (keep[i]'hik') ((L : Int) - (sf : Int)))).toNat, by omega, ?_⟩
      rw [eg]
      omega
    obtain ⟨mm, hm1, hm2⟩ := hmx
    have hle : sf + mm ≤ L := by rw [hm2]; exact Nat.min_le_left _ _
    obtain ⟨M, hM⟩ : ∃ M, M = sf + mm := ⟨_, rfl⟩
    rw [← hM] at hle
    obtain ⟨pa, pc, sl, CL⟩ := CC.out M hle
    have E : Hid (bs.take (min bs.length (sf + (keep.getD i 0).toNat)) = bs.take M) := by unfold Hid; rw [← HL.out, ← hm2, hM]
    have CLH := hide' CL
    rw [← hN]
    generalize keep[i]'hik' = kk at kx kr hm1
    have CU : Hid (∀ n, Calls Try.prog 44 #[.int .i64 kk, .int .i64 ((L : Int) - (sf : Int))] (W.drewN n) fun e w' => e = .returned (.int .i64 (mm : Int)) ∧ w' = W.drewN n) := fun n => by have := upToC kk ((L : Int) - (sf : Int)) (W.drewN n); rw [← hm1] at this; exact this
    have qi : ((i : Nat) : Int) < ((N : Nat) : Int) := by omega
    have qw : IntKind.i64.wrap ((L : Int) - (sf : Int)) = (L : Int) - (sf : Int) := wrap_small _ (by omega) (by omega)
    have qw2 : IntKind.i64.wrap ((sf : Int) + (mm : Int)) = (M : Int) := by rw [wrap_small _ (by omega) (by omega)]; omega
    have q0 : (0 : Int) ≤ (i : Int) := by omega
    clear kcell kc2 hkb hm1 hm2 CL eg hN hL k0 kcp hM
    go_enter Try.func45, Try.ntmps45
    go_wp2_with fail
    go_quiet (first | (go_at_call 44; refine Calls.quiet_of_same (CU.out _)))
    go_wp2_with fail
    go_region_held3 (fun w' => w'.cell? ⟨b, 1, none⟩ = some (.slice ao L ca) ∧ w'.cell? ⟨b, 2, none⟩ = some (.int .i64 (sf : Int))) (go_keep) (first | (go_at_call 28; refine (CLH.out _ ?_).mono ?_; (first | exact below_drewN _ _ | exact (below_drewN _ _).drew); rintro e w2 ⟨u, rfl, HO, k1, k2⟩))
    all_goals
      go_wp2_with fail
      go_ret
      rw [E.out]
      exact ⟨u, rfl, HO.out⟩
  · have eg : keep.getD i 0 = 0 := by
      have : keep.length ≤ i := by rw [← HN.out]; omega
      simp [List.getD, List.getElem?_eq_none this]
    have E : Hid (bs.take (min bs.length (sf + (keep.getD i 0).toNat)) = bs.take sf) := by unfold Hid; rw [eg, ← HL.out]; congr 1; omega
    obtain ⟨pa, pc, sl, CL⟩ := CC.out sf hsf
    have CLH := hide' CL
    rw [← hN]
    have qi : ¬ ((i : Nat) : Int) < ((N : Nat) : Int) := by omega
    have qw2 : IntKind.i64.wrap (sf : Int) = (sf : Int) := wrap_small _ (by omega) (by omega)
    clear kcell hkb CL eg hN hL k0 kcp
    go_enter Try.func45, Try.ntmps45
    go_wp2_with fail
    go_region_held3 (fun w' => w'.cell? ⟨b, 1, none⟩ = some (.slice ao L ca) ∧ w'.cell? ⟨b, 2, none⟩ = some (.int .i64 (sf : Int))) (go_keep) (first | (go_at_call 28; refine (CLH.out _ ?_).mono ?_; (first | exact Below.refl _ _ | exact (Below.refl _ _).drew); rintro e w2 ⟨u, rfl, HO, k1, k2⟩))
    all_goals
      go_wp2_with fail
      go_ret
      rw [E.out]
      exact ⟨u, rfl, HO.out⟩
end Go.Proofs.Ytaklfiipkjfjdaa
