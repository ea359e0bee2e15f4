/- The contract of Matches. -/
import Derived.Test.YtmibgcbolnpffaaDoorVrK
import Derived.Test.YtmibgcbolnpffaaDoorBk
import Derived.Test.YtmibgcbolnpffaaDoorBm
import Derived.Deep.RegionHeld3
namespace Go.Proofs.YtmibgcbolnpffaaDoor
open Go.RowKit
set_option maxHeartbeats 4000000 in
set_option maxRecDepth 20000 in
theorem matchC (e : En) (lv bv av : Value) (fs : FL) (w : World) (hF : HoldsF w lv e.r.fs) (hB : HoldsB w bv e.body) (ha : HoldsF w av fs) (hb : bulkF e.r.fs ≤ 1048576) (hb2 : bulkF fs ≤ 1048576) :
    Calls Tryd.prog 19 #[entV e lv bv, av] w fun x w' => x = .returned (.bool (matchV e.r.fs e.vary fs)) ∧ Below w.heap.size w w' := by
  obtain ⟨key, vary, ⟨s, r, k, es⟩, body, a, g⟩ := e
  dsimp only at hb hF hB
  have CN := hide' (fun W (h : Below w.heap.size w W) => namesC lv es W (holdsF_mono hF h) hb)
  have BN := bulk_names es
  have CK := hide' (fun nv W (h : Below w.heap.size w W) (hn : Holds W nv (namesV es)) => keyC nv av (namesV es) fs W hn (holdsF_mono ha h) hb2 (by omega))
  obtain ⟨la, lc, _, _, el, _⟩ := holdsF_parts hF
  subst el
  obtain ⟨ba, bc, el, _⟩ := holdsB_parts hB
  subst el
  obtain ⟨aa, ac, _, _, el, _⟩ := holdsF_parts ha
  subst el
  unfold entV matchV
  dsimp only
  clear hF ha BN hB
  generalize (⟨key.toArray⟩ : ByteArray) = K
  generalize (⟨r.toArray⟩ : ByteArray) = R
  generalize keyV (namesV es) fs = KV at CK ⊢
  generalize es.length = n at CN ⊢
  generalize body.length = m
  generalize fs.length = q at CK ⊢
  have C1 := hide' (cells_lit w #[.string K, .string ⟨vary.toArray⟩, .int .i64 s, .string R, .int .i64 k, .slice la n lc, .slice ba m bc, .int .i64 a, .int .i64 g] 38)
  have W1 := hide' (below_alloc' w (.cells #[.string K, .string ⟨vary.toArray⟩, .int .i64 s, .string R, .int .i64 k, .slice la n lc, .slice ba m bc, .int .i64 a, .int .i64 g] 38))
  have CN1 := hide' (CN.out _ W1.out)
  have fin : ∀ (b : Bool) W', Below (w.alloc (.cells #[.string K, .string ⟨vary.toArray⟩, .int .i64 s, .string R, .int .i64 k, .slice la n lc, .slice ba m bc, .int .i64 a, .int .i64 g] 38)).heap.size (w.alloc (.cells #[.string K, .string ⟨vary.toArray⟩, .int .i64 s, .string R, .int .i64 k, .slice la n lc, .slice ba m bc, .int .i64 a, .int .i64 g] 38)) W' → W'.cell? ⟨w.heap.size, 1, none⟩ = some (.string ⟨vary.toArray⟩) ∧ Below w.heap.size w W' ∧ w.heap.size < W'.heap.size := by
    intro b W' hb'
    have c := cells_below C1.out hb'
    exact ⟨(c.1 1 (by simp)).1, W1.out.trans (hb'.mono W1.out.size), c.2⟩
  have FIN := hide' fin
  clear fin CN
  by_cases hok : namesB es = true
  · rw [hok] at CN1 ⊢
    go_enter Tryd.func19, Tryd.ntmps19
    go_wp2_with fail
    refine CN1.out.mono ?_
    rintro e w2 ⟨u, rfl, ho⟩
    obtain ⟨d1, b2, zl⟩ := FIN.out true w2 ho.2
    have CK2 := hide' (fun W (hW : Below w2.heap.size w2 W) => CK.out u W (b2.trans (hW.mono b2.size)) (holds_mono (holds_own ho) hW))
    have B2 := hide' b2
    obtain ⟨ua, uc, _, _, hu, _⟩ := holds_parts (holds_own ho)
    rw [hu] at CK2 ⊢
    clear b2 ho hu CN1 CK FIN
    go_wp2_with fail
    obtain ⟨z, ez⟩ : ∃ z, z = w.heap.size := ⟨_, rfl⟩
    have EZ : Hid (w.heap.size = z) := ez.symm
    rw [EZ.out] at d1 zl ⊢
    clear ez
    have D1 := hide' d1
    have ZL := hide' zl
    by_cases he : KV = vary
    · subst he
      go_region_held3 (fun w' => w'.cell? ⟨z, 1, none⟩ = some (.string ⟨KV.toArray⟩)) (go_keep) (first | (go_at_call 16; refine (CK2.out _ ((Below.refl _ _).drew)).mono ?_; rintro e w3 ⟨rfl, b3⟩; have B3 := hide' (((Below.refl _ w2).drew).trans b3); have d3 := (B3.out.cell (p := ⟨z, 1, none⟩) ZL.out).trans D1.out; clear b3))
      go_wp2_with fail
      go_ret
      exact ⟨rfl, B2.out.trans (B3.out.mono B2.out.size)⟩
    · have HE : Hid (decide (KV = vary) = false) := by unfold Hid; simpa using he
      have hne := ba_eqlC _ _ he
      have hne2 : (KV == vary) = false := by simpa using he
      clear he
      go_region_held3 (fun w' => w'.cell? ⟨z, 1, none⟩ = some (.string ⟨vary.toArray⟩)) (go_keep) (first | (go_at_call 16; refine (CK2.out _ ((Below.refl _ _).drew)).mono ?_; rintro e w3 ⟨rfl, b3⟩; have B3 := hide' (((Below.refl _ w2).drew).trans b3); have d3 := (B3.out.cell (p := ⟨z, 1, none⟩) ZL.out).trans D1.out; clear b3))
      go_wp2_with fail
      go_ret
      exact ⟨by rw [HE.out]; rfl, B2.out.trans (B3.out.mono B2.out.size)⟩
  · have HO : Hid (namesB es = false) := by unfold Hid; simpa using hok
    rw [HO.out] at CN1 ⊢
    clear hok
    go_enter Tryd.func19, Tryd.ntmps19
    go_wp2_with fail
    refine CN1.out.mono ?_
    rintro e w2 ⟨u, rfl, ho⟩
    obtain ⟨d1, b2, zl⟩ := FIN.out true w2 ho.2
    have B2 := hide' b2
    obtain ⟨ua, uc, _, _, hu, _⟩ := holds_parts (holds_own ho)
    rw [hu]
    clear b2 ho hu CN1 CK FIN zl
    go_wp2_with fail
    go_quiet (fail)
    go_wp2_with fail
    go_ret
    exact ⟨rfl, B2.out.trans ((below_drewN _ _).mono B2.out.size)⟩
end Go.Proofs.YtmibgcbolnpffaaDoor
