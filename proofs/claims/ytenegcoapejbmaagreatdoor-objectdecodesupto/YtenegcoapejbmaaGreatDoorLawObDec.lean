/- The walk of ObjectDecodes. -/
import Derived.Test.YtenegcoapejbmaaGreatDoorObN
import Derived.Test.YtenegcoapejbmaaGreatDoorObR
import Derived.Test.YtenegcoapejbmaaGreatDoorBi
namespace Go.Proofs.YtenegcoapejbmaaGreatDoor
open Go.RowKit
theorem bnd_dec (bs : List UInt8) : Bnd (decO bs).1 := by
  rcases dec_two bs with h | h
  · exact bnd_obj (dec_ok' h)
  · rw [h]; exact ⟨fun f hf => absurd hf (List.not_mem_nil), by decide, by decide, by decide, by decide, by decide, by decide⟩
set_option maxRecDepth 20000 in
set_option maxHeartbeats 8000000 in
theorem decodesOW (v : Value) (bs : List UInt8) (w : World) (hv : HoldsB w v bs) (hl : bs.length ≤ 1048576) (E : Env w) (T : Tab w) :
    Calls Tryz.prog 3 #[v] w fun e w' => e = .returned (.bool true) ∧ Below w.heap.size w w' := by
  have HV := hide' hv
  obtain ⟨ao, cap, rfl, _, hcp, _⟩ := hv
  obtain ⟨n, hn⟩ : ∃ n, n = bs.length := ⟨_, rfl⟩
  have N1 : Hid (bs.length = n) := hn.symm
  have ln : n ≤ 1048576 := by omega
  rw [N1.out] at HV hcp ⊢
  have EE := hide' E
  have TT := hide' T
  have cA := hide' (aliveOC w T)
  have HN := hide' (bnd_dec bs)
  have cP : Hid (∀ (v : Value) (W : World), HoldsB W v bs → Below w.heap.size w W → Calls Tryz.prog 6 #[v] W fun e w' => DecA W (decO bs) e w') := fun v W h hb => decOC v bs W h (by rw [N1.out]; omega) (env_below E hb) (tab_below T hb)
  have cR : Hid (∀ (v : Value) (W : World), HoldsB W v bs → Calls Tryz.prog 7 #[v] W fun e w' => DecA W (decO bs) e w') := fun v W h => decRC v bs W h (by rw [N1.out]; omega)
  clear hl hn E T
  generalize decO bs = D at *
  obtain ⟨f, de⟩ := D
  dsimp only at *
  go_enter Tryz.func3, Tryz.ntmps3
  go_wp2_with fail
  refine cA.out.mono ?_
  rintro x w1 ⟨rfl, b1⟩
  have BB := hide' b1
  clear b1 cA
  go_wp2_with fail
  refine (spareC _ bs w1 (holdsB_mono HV.out BB.out) (by rw [N1.out]; omega)).mono ?_
  rintro x w2 ⟨u, rfl, ho⟩
  replace BB := hide' (bt' BB.out ho.2)
  have U2 := hide' (holdsB_own ho)
  obtain ⟨pv, hs, hp⟩ := takeB U2.out n (by rw [List.length_append, N1.out]; omega)
  rw [List.take_left' N1.out] at hp
  have P2 := hide' hp
  clear ho hp
  go_wp2_with fail
  refine (cP.out pv w2 P2.out BB.out).mono ?_
  rintro x w3 ⟨lx, bx, rfl, hfx, hbx⟩
  dsimp only at hfx hbx
  obtain ⟨xa, xc, _, _, e5, _⟩ := holdsF_parts (holdsF_own hfx)
  obtain ⟨ya, yc, e6, _⟩ := holdsB_parts (holdsB_own hbx)
  subst e5 e6
  replace BB := hide' (bt' BB.out hfx.2)
  replace U2 := hide' (holdsB_mono U2.out hfx.2)
  have FX := hide' (holdsF_own hfx)
  have BX := hide' (holdsB_own hbx)
  clear hfx hbx hs P2 cP
  unfold entV
  have bf := below_alloc' w3 (.cells #[.string ⟨f.key.toArray⟩, .string ⟨f.vary.toArray⟩, .int .i64 f.r.s, .string ⟨f.r.r.toArray⟩, .int .i64 f.r.k, .slice xa f.r.fs.length xc, .slice ya f.body.length yc, .int .i64 f.a, .int .i64 f.g] 29)
  have PX : Hid (Blk w3.heap.size (w3.alloc (.cells #[.string ⟨f.key.toArray⟩, .string ⟨f.vary.toArray⟩, .int .i64 f.r.s, .string ⟨f.r.r.toArray⟩, .int .i64 f.r.k, .slice xa f.r.fs.length xc, .slice ya f.body.length yc, .int .i64 f.a, .int .i64 f.g] 29)) [.string ⟨f.key.toArray⟩, .string ⟨f.vary.toArray⟩, .int .i64 f.r.s, .string ⟨f.r.r.toArray⟩, .int .i64 f.r.k, .slice xa f.r.fs.length xc, .slice ya f.body.length yc, .int .i64 f.a, .int .i64 f.g]) := cells_lit w3 #[.string ⟨f.key.toArray⟩, .string ⟨f.vary.toArray⟩, .int .i64 f.r.s, .string ⟨f.r.r.toArray⟩, .int .i64 f.r.k, .slice xa f.r.fs.length xc, .slice ya f.body.length yc, .int .i64 f.a, .int .i64 f.g] 29
  replace BB := hide' (bt' BB.out bf)
  replace U2 := hide' (holdsB_mono U2.out bf)
  replace FX := hide' (holdsF_mono FX.out bf)
  replace BX := hide' (holdsB_mono BX.out bf)
  clear bf
  go_wp2_with fail
  generalize hw4 : w3.alloc (.cells #[.string ⟨f.key.toArray⟩, .string ⟨f.vary.toArray⟩, .int .i64 f.r.s, .string ⟨f.r.r.toArray⟩, .int .i64 f.r.k, .slice xa f.r.fs.length xc, .slice ya f.body.length yc, .int .i64 f.a, .int .i64 f.g] 29) = w4 at *
  generalize hp : w3.heap.size = p at *
  clear hw4 hp
  refine (cR.out _ w4 (holdsB_mono HV.out BB.out)).mono ?_
  rintro x w5 ⟨ly, by', rfl, hfy, hby⟩
  dsimp only at hfy hby
  obtain ⟨ra, rc, _, _, e5, _⟩ := holdsF_parts (holdsF_own hfy)
  obtain ⟨ta, tc, e6, _⟩ := holdsB_parts (holdsB_own hby)
  subst e5 e6
  replace BB := hide' (bt' BB.out hfy.2)
  replace U2 := hide' (holdsB_mono U2.out hfy.2)
  replace FX := hide' (holdsF_mono FX.out hfy.2)
  replace BX := hide' (holdsB_mono BX.out hfy.2)
  replace PX : Hid (Blk p w5 [.string ⟨f.key.toArray⟩, .string ⟨f.vary.toArray⟩, .int .i64 f.r.s, .string ⟨f.r.r.toArray⟩, .int .i64 f.r.k, .slice xa f.r.fs.length xc, .slice ya f.body.length yc, .int .i64 f.a, .int .i64 f.g]) := cells_below PX.out hfy.2
  have FY := hide' (holdsF_own hfy)
  have BY := hide' (holdsB_own hby)
  clear hfy hby cR
  unfold entV
  have bf := below_alloc' w5 (.cells #[.string ⟨f.key.toArray⟩, .string ⟨f.vary.toArray⟩, .int .i64 f.r.s, .string ⟨f.r.r.toArray⟩, .int .i64 f.r.k, .slice ra f.r.fs.length rc, .slice ta f.body.length tc, .int .i64 f.a, .int .i64 f.g] 29)
  have PY : Hid (Blk w5.heap.size (w5.alloc (.cells #[.string ⟨f.key.toArray⟩, .string ⟨f.vary.toArray⟩, .int .i64 f.r.s, .string ⟨f.r.r.toArray⟩, .int .i64 f.r.k, .slice ra f.r.fs.length rc, .slice ta f.body.length tc, .int .i64 f.a, .int .i64 f.g] 29)) [.string ⟨f.key.toArray⟩, .string ⟨f.vary.toArray⟩, .int .i64 f.r.s, .string ⟨f.r.r.toArray⟩, .int .i64 f.r.k, .slice ra f.r.fs.length rc, .slice ta f.body.length tc, .int .i64 f.a, .int .i64 f.g]) := cells_lit w5 #[.string ⟨f.key.toArray⟩, .string ⟨f.vary.toArray⟩, .int .i64 f.r.s, .string ⟨f.r.r.toArray⟩, .int .i64 f.r.k, .slice ra f.r.fs.length rc, .slice ta f.body.length tc, .int .i64 f.a, .int .i64 f.g] 29
  replace PX : Hid (Blk p (w5.alloc (.cells #[.string ⟨f.key.toArray⟩, .string ⟨f.vary.toArray⟩, .int .i64 f.r.s, .string ⟨f.r.r.toArray⟩, .int .i64 f.r.k, .slice ra f.r.fs.length rc, .slice ta f.body.length tc, .int .i64 f.a, .int .i64 f.g] 29)) [.string ⟨f.key.toArray⟩, .string ⟨f.vary.toArray⟩, .int .i64 f.r.s, .string ⟨f.r.r.toArray⟩, .int .i64 f.r.k, .slice xa f.r.fs.length xc, .slice ya f.body.length yc, .int .i64 f.a, .int .i64 f.g]) := cells_below PX.out bf
  have cS := hide' (sameEB HN.out (.slice xa f.r.fs.length xc) (.slice ra f.r.fs.length rc) (.slice ya f.body.length yc) (.slice ta f.body.length tc) _ (holdsF_mono FX.out bf) (holdsF_mono FY.out bf) (holdsB_mono BX.out bf) (holdsB_mono BY.out bf))
  unfold entV at cS
  replace BB := hide' (bt' BB.out bf)
  replace U2 := hide' (holdsB_mono U2.out bf)
  clear bf FX BX FY BY
  obtain ⟨⟨c0, c1, c2, c3, c4, c5, c6, c7, c8⟩, -⟩ := cells_nine PX.out
  obtain ⟨⟨d0, d1, d2, d3, d4, d5, d6, d7, d8⟩, -⟩ := cells_nine PY.out
  go_wp2_with fail
  clear c0 c1 c2 c3 c4 c5 c6 c7 c8 d0 d1 d2 d3 d4 d5 d6 d7 d8
  refine cS.out.mono ?_
  rintro x w6 ⟨rfl, b6⟩
  replace BB := hide' (bt' BB.out b6)
  replace U2 := hide' (holdsB_mono U2.out b6)
  clear b6 cS
  go_wp2_with fail
  refine (spareC _ bs w6 (holdsB_mono HV.out BB.out) (by rw [N1.out]; omega)).mono ?_
  rintro x w7 ⟨u3, rfl, ho3⟩
  have S3 := hide' (sameBe u u3 (bs ++ mks) w7 (holdsB_mono U2.out ho3.2) (holdsB_own ho3) (by rw [List.length_append, N1.out]; show n + 8 ≤ _; omega))
  replace BB := hide' (bt' BB.out ho3.2)
  clear ho3
  go_wp2_with fail
  refine S3.out.mono ?_
  rintro x w8 ⟨rfl, b8⟩
  replace BB := hide' (bt' BB.out b8)
  clear b8
  go_wp2_with fail
  go_ret
  exact ⟨rfl, BB.out⟩
end Go.Proofs.YtenegcoapejbmaaGreatDoor
