/- The walk of ValidMerges. -/
import Derived.Test.YtikokjclhpgocaaVaV
import Derived.Test.YtikokjclhpgocaaVaMr
namespace Go.Proofs.Ytikokjclhpgocaa
open Go.RowKit
theorem mergeM_len (s u : FL) : (mergeM s u).length ≤ s.length + u.length := by
  have h := join_len_le s u
  unfold mergeM
  split <;> omega
set_option maxHeartbeats 4000000 in
set_option maxRecDepth 20000 in
theorem mergesW (v vu : Value) (s u : FL) (w : World) (hv : HoldsF w v s) (hu : HoldsF w vu u) (hb : bulkF s + bulkF u ≤ 1048576) :
    Calls Try.prog 4 #[v, vu] w fun e w' => e = .returned (.bool true) ∧ Below w.heap.size w w' := by
  have hs := bulkF_len s
  have hq := bulkF_len u
  have fs : Fit s := fit_bulk (n := 1048576) (by omega) (by omega)
  have fu : Fit u := fit_bulk (n := 1048576) (by omega) (by omega)
  have c0 := hide' (aliveVa w)
  have C1 := hide' (fun W (h : Below w.heap.size w W) => copyF v s W (holdsF_mono hv h) (by omega))
  have C2 := hide' (fun W (h : Below w.heap.size w W) => copyF vu u W (holdsF_mono hu h) (by omega))
  have CM := hide' (fun x y W (hx : HoldsF W x s) (hy : HoldsF W y u) => mergeC x y s u W hx hy fs fu (by omega))
  have CR := hide' (fun W (h : Below w.heap.size w W) => mergeRC v vu s u W (holdsF_mono hv h) (holdsF_mono hu h) fs fu (by omega))
  have HV := hide' hv
  have HU := hide' hu
  have ml := mergeM_len s u
  obtain ⟨sa, sc, _, _, es, _⟩ := holdsF_parts hv
  obtain ⟨ua, uc, _, _, eu, _⟩ := holdsF_parts hu
  subst es eu
  generalize mergeM s u = mg at CM CR ml
  clear hv hu fs fu
  go_enter Try.func4, Try.ntmps4
  go_wp2_with fail
  refine c0.out.mono ?_
  rintro e w1 ⟨rfl, b1⟩
  have B1 := hide' b1
  clear c0 b1
  go_wp2_with fail
  refine (C1.out _ B1.out).mono ?_
  rintro e w2 ⟨u2, rfl, ho2⟩
  have B2 := hide' (bt' B1.out ho2.2)
  have H2 := hide' (holdsF_own ho2)
  obtain ⟨a2, c2, _, _, e2, _⟩ := holdsF_parts (holdsF_own ho2)
  rw [e2] at H2 ⊢
  clear ho2 e2 B1 C1
  go_wp2_with fail
  refine (C2.out _ B2.out).mono ?_
  rintro e w3 ⟨u3, rfl, ho3⟩
  have B3 := hide' (bt' B2.out ho3.2)
  have H3 := hide' (holdsF_mono H2.out ho3.2)
  have K3 := hide' (holdsF_own ho3)
  obtain ⟨a3, c3, _, _, e3, _⟩ := holdsF_parts (holdsF_own ho3)
  rw [e3] at K3 ⊢
  clear ho3 e3 B2 H2 C2
  go_wp2_with fail
  refine (CM.out _ _ _ H3.out K3.out).mono ?_
  rintro e w4 ⟨u4, rfl, ho4⟩
  have B4 := hide' (bt' B3.out ho4.2)
  have H4 := hide' (holdsF_mono H3.out ho4.2)
  have K4 := hide' (holdsF_mono K3.out ho4.2)
  have M4 := hide' (holdsF_own ho4)
  obtain ⟨a4, c4, _, _, e4, _⟩ := holdsF_parts (holdsF_own ho4)
  rw [e4] at M4 ⊢
  clear ho4 e4 B3 H3 K3 CM
  go_wp2_with fail
  refine (CR.out _ B4.out).mono ?_
  rintro e w5 ⟨u5, rfl, ho5⟩
  have B5 := hide' (bt' B4.out ho5.2)
  have H5 := hide' (holdsF_mono H4.out ho5.2)
  have K5 := hide' (holdsF_mono K4.out ho5.2)
  have M5 := hide' (holdsF_mono M4.out ho5.2)
  have N5 := hide' (holdsF_own ho5)
  obtain ⟨a5, c5, _, _, e5, _⟩ := holdsF_parts (holdsF_own ho5)
  rw [e5] at N5 ⊢
  clear ho5 e5 B4 H4 K4 M4 CR
  have cS := hide' (sameFv _ _ mg w5 M5.out N5.out (by omega))
  go_wp2_with fail
  refine cS.out.mono ?_
  rintro e w6 ⟨rfl, b6⟩
  have B6 := hide' (bt' B5.out b6)
  have K6 := hide' (holdsF_mono K5.out b6)
  have cS2 := hide' (sameFv _ _ s w6 (holdsF_mono H5.out b6) (holdsF_mono HV.out B6.out) (by omega))
  clear b6 B5 H5 K5 M5 N5 cS
  go_wp2_with fail
  refine cS2.out.mono ?_
  rintro e w7 ⟨rfl, b7⟩
  have B7 := hide' (bt' B6.out b7)
  have cS3 := hide' (sameFv _ _ u w7 (holdsF_mono K6.out b7) (holdsF_mono HU.out B7.out) (by omega))
  clear b7 B6 K6 cS2
  go_wp2_with fail
  refine cS3.out.mono ?_
  rintro e w8 ⟨rfl, b8⟩
  have B8 := hide' (bt' B7.out b8)
  clear b8 B7 cS3
  go_wp2_with fail
  go_ret
  exact ⟨rfl, B8.out⟩
end Go.Proofs.Ytikokjclhpgocaa
