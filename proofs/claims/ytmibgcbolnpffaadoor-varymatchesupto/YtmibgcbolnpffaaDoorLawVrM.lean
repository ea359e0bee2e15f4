/- The walk of VaryMatches. -/
import Derived.Test.YtmibgcbolnpffaaDoorVrE
import Derived.Test.YtmibgcbolnpffaaDoorVrU
import Derived.Deep.RegionHeld3
namespace Go.Proofs.YtmibgcbolnpffaaDoor
open Go.RowKit
set_option maxHeartbeats 8000000 in
set_option maxRecDepth 20000 in
theorem matchesW (e : En) (lv bv av : Value) (fs : FL) (w : World) (hF : HoldsF w lv e.r.fs) (hB : HoldsB w bv e.body) (ha : HoldsF w av fs) (hb : e.key.length + e.vary.length + e.r.r.length + bulkF e.r.fs + e.body.length + bulkF fs ≤ 1048576) :
    Calls Tryd.prog 5 #[entV e lv bv, av] w fun x w' => x = .returned (.bool true) ∧ Below w.heap.size w w' := by
  obtain ⟨key, vary, ⟨s, r, k, es⟩, body, a, g⟩ := e
  dsimp only at hb hF hB
  have hn : es.length ≤ 2000000 := by have := bulkF_len es; omega
  have hq : fs.length ≤ 2000000 := by have := bulkF_len fs; omega
  have c0 := hide' (fun W => aliveV W)
  have cC := hide' (fun W (h : Below w.heap.size w W) => copyEC ⟨key, vary, ⟨s, r, k, es⟩, body, a, g⟩ lv bv W (holdsF_mono hF h) (holdsB_mono hB h) hn (by dsimp only; omega))
  have cF := hide' (fun W (h : Below w.heap.size w W) => copyF av fs W (holdsF_mono ha h) (by omega))
  have cM := hide' (fun l2 b2 u W (h1 : HoldsF W l2 es) (h2 : HoldsB W b2 body) (h3 : HoldsF W u fs) => matchC ⟨key, vary, ⟨s, r, k, es⟩, body, a, g⟩ l2 b2 u fs W h1 h2 h3 (by dsimp only; omega) (by omega))
  have cR := hide' (fun W (h : Below w.heap.size w W) => matchRC ⟨key, vary, ⟨s, r, k, es⟩, body, a, g⟩ lv bv av fs W (holdsF_mono hF h) (holdsB_mono hB h) (holdsF_mono ha h) (by dsimp only; omega) (by omega))
  have cS := hide' (fun l2 b2 W (h : Below w.heap.size w W) (h1 : HoldsF W l2 es) (h2 : HoldsB W b2 body) => sameEC ⟨key, vary, ⟨s, r, k, es⟩, body, a, g⟩ l2 lv b2 bv W h1 (holdsF_mono hF h) h2 (holdsB_mono hB h) hn (by dsimp only; omega))
  obtain ⟨ao, ca, _, _, el, _⟩ := holdsF_parts hF
  obtain ⟨ba, bc, eb, _⟩ := holdsB_parts hB
  obtain ⟨aa, ac, _, _, ea, _⟩ := holdsF_parts ha
  subst el eb ea
  clear hF hB ha
  unfold entV at cC cM cR cS ⊢
  dsimp only at cC cM cR cS ⊢
  generalize matchV es vary fs = mv at cM cR
  generalize (⟨key.toArray⟩ : ByteArray) = K at cC cM cR cS ⊢
  generalize (⟨vary.toArray⟩ : ByteArray) = V at cC cM cR cS ⊢
  generalize (⟨r.toArray⟩ : ByteArray) = R at cC cM cR cS ⊢
  obtain ⟨n, en⟩ : ∃ n, n = es.length := ⟨_, rfl⟩
  have N : Hid (es.length = n) := en.symm
  obtain ⟨m, em⟩ : ∃ m, m = body.length := ⟨_, rfl⟩
  have M : Hid (body.length = m) := em.symm
  obtain ⟨q, eq⟩ : ∃ q, q = fs.length := ⟨_, rfl⟩
  have Q : Hid (fs.length = q) := eq.symm
  rw [N.out, M.out] at cC cR cS
  rw [Q.out] at cF cR
  rw [N.out, M.out, Q.out]
  clear en em eq hb hn hq
  have P0 := hide' (cells_lit w #[.string K, .string V, .int .i64 s, .string R, .int .i64 k, .slice ao n ca, .slice ba m bc, .int .i64 a, .int .i64 g] 38)
  have B0 := hide' (below_alloc' w (.cells #[.string K, .string V, .int .i64 s, .string R, .int .i64 k, .slice ao n ca, .slice ba m bc, .int .i64 a, .int .i64 g] 38))
  go_enter Tryd.func5, Tryd.ntmps5
  go_wp2_with fail
  refine (c0.out _).mono ?_
  rintro e w1 ⟨rfl, b1⟩
  have B1 := hide' (bt' B0.out b1)
  have P1 := hide' (show Blk w.heap.size w1 (EL K V R s k a g ao ba n m ca bc) from cells_below P0.out b1)
  obtain ⟨d0, d1, d2, d3, d4, d5, d6, d7, d8⟩ := eL_cells P1.out
  clear b1 P0 B0 c0
  go_wp2_with fail
  refine (cC.out w1 B1.out).mono ?_
  rintro e w2 ⟨lu, bu, rfl, hu, hbu⟩
  obtain ⟨ao2, ca2, _, _, el2, _⟩ := holdsF_parts (holdsF_own hu)
  obtain ⟨ba2, bc2, eb2, _⟩ := holdsB_parts (holdsB_own hbu)
  rw [N.out] at el2
  rw [M.out] at eb2
  have hx := holdsF_own hu
  have hy := holdsB_own hbu
  rw [el2] at hx ⊢
  rw [eb2] at hy ⊢
  have b3 := below_alloc' w2 (.cells #[.string K, .string V, .int .i64 s, .string R, .int .i64 k, .slice ao2 n ca2, .slice ba2 m bc2, .int .i64 a, .int .i64 g] 38)
  have P3 := hide' (show E2 w w2.heap.size (EL K V R s k a g ao ba n m ca bc) (EL K V R s k a g ao2 ba2 n m ca2 bc2) [(.slice ao2 n ca2, es)] [(.slice ba2 m bc2, body)] (w2.alloc (.cells #[.string K, .string V, .int .i64 s, .string R, .int .i64 k, .slice ao2 n ca2, .slice ba2 m bc2, .int .i64 a, .int .i64 g] 38)) from
    ⟨bt' (bt' B1.out hu.2) b3, cells_below (cells_below P1.out hu.2) b3, cells_lit w2 _ _, fun p hp => by obtain rfl := List.mem_singleton.1 hp; exact holdsF_mono hx b3, fun p hp => by obtain rfl := List.mem_singleton.1 hp; exact holdsB_mono hy b3⟩)
  clear hu hbu el2 eb2 hx hy b3 lu bu d0 d1 d2 d3 d4 d5 d6 d7 d8 P1 B1 cC
  go_wp2_with fail
  --REST
  have C18 := hide' (fun l lb W (h : E2 w w2.heap.size (EL K V R s k a g ao ba n m ca bc) (EL K V R s k a g ao2 ba2 n m ca2 bc2) l lb W) => (show W.cell? ⟨w.heap.size, 0, none⟩ = some (.string K) ∧ W.cell? ⟨w.heap.size, 1, none⟩ = some (.string V) ∧ W.cell? ⟨w.heap.size, 2, none⟩ = some (.int .i64 s) ∧ W.cell? ⟨w.heap.size, 3, none⟩ = some (.string R) ∧ W.cell? ⟨w.heap.size, 4, none⟩ = some (.int .i64 k) ∧ W.cell? ⟨w.heap.size, 5, none⟩ = some (.slice ao n ca) ∧ W.cell? ⟨w.heap.size, 6, none⟩ = some (.slice ba m bc) ∧ W.cell? ⟨w.heap.size, 7, none⟩ = some (.int .i64 a) ∧ W.cell? ⟨w.heap.size, 8, none⟩ = some (.int .i64 g) ∧ W.cell? ⟨w2.heap.size, 0, none⟩ = some (.string K) ∧ W.cell? ⟨w2.heap.size, 1, none⟩ = some (.string V) ∧ W.cell? ⟨w2.heap.size, 2, none⟩ = some (.int .i64 s) ∧ W.cell? ⟨w2.heap.size, 3, none⟩ = some (.string R) ∧ W.cell? ⟨w2.heap.size, 4, none⟩ = some (.int .i64 k) ∧ W.cell? ⟨w2.heap.size, 5, none⟩ = some (.slice ao2 n ca2) ∧ W.cell? ⟨w2.heap.size, 6, none⟩ = some (.slice ba2 m bc2) ∧ W.cell? ⟨w2.heap.size, 7, none⟩ = some (.int .i64 a) ∧ W.cell? ⟨w2.heap.size, 8, none⟩ = some (.int .i64 g) from by
    obtain ⟨d0, d1, d2, d3, d4, d5, d6, d7, d8⟩ := eL_cells h.one
    obtain ⟨f0, f1, f2, f3, f4, f5, f6, f7, f8⟩ := eL_cells h.two
    exact ⟨d0, d1, d2, d3, d4, d5, d6, d7, d8, f0, f1, f2, f3, f4, f5, f6, f7, f8⟩))
  obtain ⟨y, ey⟩ : ∃ y, y = w2.heap.size := ⟨_, rfl⟩
  have Y : Hid (w2.heap.size = y) := ey.symm
  rw [Y.out] at P3 C18 ⊢
  clear ey Y
  generalize w2.alloc (.cells #[.string K, .string V, .int .i64 s, .string R, .int .i64 k, .slice ao2 n ca2, .slice ba2 m bc2, .int .i64 a, .int .i64 g] 38) = w3 at P3 ⊢
  have kF := hide' (fun l lb W (h : E2 w y (EL K V R s k a g ao ba n m ca bc) (EL K V R s k a g ao2 ba2 n m ca2 bc2) l lb W) => (cF.out W h.bel).mono (show ∀ (e : Ending) (W' : World), (∃ u, e = .returned u ∧ OwnF W u fs W') → ∃ a3 c3, e = .returned (.slice a3 q c3) ∧ E2 w y (EL K V R s k a g ao ba n m ca bc) (EL K V R s k a g ao2 ba2 n m ca2 bc2) ((.slice a3 q c3, fs) :: l) lb W' ∧ W'.cell? ⟨w.heap.size, 0, none⟩ = some (.string K) ∧ W'.cell? ⟨w.heap.size, 1, none⟩ = some (.string V) ∧ W'.cell? ⟨w.heap.size, 2, none⟩ = some (.int .i64 s) ∧ W'.cell? ⟨w.heap.size, 3, none⟩ = some (.string R) ∧ W'.cell? ⟨w.heap.size, 4, none⟩ = some (.int .i64 k) ∧ W'.cell? ⟨w.heap.size, 5, none⟩ = some (.slice ao n ca) ∧ W'.cell? ⟨w.heap.size, 6, none⟩ = some (.slice ba m bc) ∧ W'.cell? ⟨w.heap.size, 7, none⟩ = some (.int .i64 a) ∧ W'.cell? ⟨w.heap.size, 8, none⟩ = some (.int .i64 g) ∧ W'.cell? ⟨y, 0, none⟩ = some (.string K) ∧ W'.cell? ⟨y, 1, none⟩ = some (.string V) ∧ W'.cell? ⟨y, 2, none⟩ = some (.int .i64 s) ∧ W'.cell? ⟨y, 3, none⟩ = some (.string R) ∧ W'.cell? ⟨y, 4, none⟩ = some (.int .i64 k) ∧ W'.cell? ⟨y, 5, none⟩ = some (.slice ao2 n ca2) ∧ W'.cell? ⟨y, 6, none⟩ = some (.slice ba2 m bc2) ∧ W'.cell? ⟨y, 7, none⟩ = some (.int .i64 a) ∧ W'.cell? ⟨y, 8, none⟩ = some (.int .i64 g) from by
    rintro e W' ⟨u, rfl, ho⟩
    obtain ⟨a3, c3, _, _, e3, _⟩ := holdsF_parts (holdsF_own ho)
    rw [Q.out] at e3
    have hh := holdsF_own ho
    rw [e3] at hh ⊢
    have h2 := e2_fld (e2_below h ho.2) hh
    exact ⟨a3, c3, rfl, h2, C18.out _ _ _ h2⟩))
  have kM := hide' (fun a3 c3 l lb W (h : E2 w y (EL K V R s k a g ao ba n m ca bc) (EL K V R s k a g ao2 ba2 n m ca2 bc2) l lb W) (h1 : (Value.slice ao2 n ca2, es) ∈ l) (h2 : (Value.slice ba2 m bc2, body) ∈ lb) (h3 : (Value.slice a3 q c3, fs) ∈ l) => (cM.out _ _ _ W (h.fld _ h1) (h.byt _ h2) (h.fld _ h3)).mono (show ∀ (e : Ending) (W' : World), (e = .returned (.bool mv) ∧ Below W.heap.size W W') → e = .returned (.bool mv) ∧ E2 w y (EL K V R s k a g ao ba n m ca bc) (EL K V R s k a g ao2 ba2 n m ca2 bc2) l lb W' ∧ W'.cell? ⟨w.heap.size, 0, none⟩ = some (.string K) ∧ W'.cell? ⟨w.heap.size, 1, none⟩ = some (.string V) ∧ W'.cell? ⟨w.heap.size, 2, none⟩ = some (.int .i64 s) ∧ W'.cell? ⟨w.heap.size, 3, none⟩ = some (.string R) ∧ W'.cell? ⟨w.heap.size, 4, none⟩ = some (.int .i64 k) ∧ W'.cell? ⟨w.heap.size, 5, none⟩ = some (.slice ao n ca) ∧ W'.cell? ⟨w.heap.size, 6, none⟩ = some (.slice ba m bc) ∧ W'.cell? ⟨w.heap.size, 7, none⟩ = some (.int .i64 a) ∧ W'.cell? ⟨w.heap.size, 8, none⟩ = some (.int .i64 g) ∧ W'.cell? ⟨y, 0, none⟩ = some (.string K) ∧ W'.cell? ⟨y, 1, none⟩ = some (.string V) ∧ W'.cell? ⟨y, 2, none⟩ = some (.int .i64 s) ∧ W'.cell? ⟨y, 3, none⟩ = some (.string R) ∧ W'.cell? ⟨y, 4, none⟩ = some (.int .i64 k) ∧ W'.cell? ⟨y, 5, none⟩ = some (.slice ao2 n ca2) ∧ W'.cell? ⟨y, 6, none⟩ = some (.slice ba2 m bc2) ∧ W'.cell? ⟨y, 7, none⟩ = some (.int .i64 a) ∧ W'.cell? ⟨y, 8, none⟩ = some (.int .i64 g) from by
    rintro e W' ⟨rfl, hb⟩
    exact ⟨rfl, e2_below h hb, C18.out _ _ _ (e2_below h hb)⟩))
  have kR := hide' (fun l lb W (h : E2 w y (EL K V R s k a g ao ba n m ca bc) (EL K V R s k a g ao2 ba2 n m ca2 bc2) l lb W) => (cR.out W h.bel).mono (show ∀ (e : Ending) (W' : World), (e = .returned (.bool mv) ∧ Below W.heap.size W W') → e = .returned (.bool mv) ∧ E2 w y (EL K V R s k a g ao ba n m ca bc) (EL K V R s k a g ao2 ba2 n m ca2 bc2) l lb W' ∧ W'.cell? ⟨w.heap.size, 0, none⟩ = some (.string K) ∧ W'.cell? ⟨w.heap.size, 1, none⟩ = some (.string V) ∧ W'.cell? ⟨w.heap.size, 2, none⟩ = some (.int .i64 s) ∧ W'.cell? ⟨w.heap.size, 3, none⟩ = some (.string R) ∧ W'.cell? ⟨w.heap.size, 4, none⟩ = some (.int .i64 k) ∧ W'.cell? ⟨w.heap.size, 5, none⟩ = some (.slice ao n ca) ∧ W'.cell? ⟨w.heap.size, 6, none⟩ = some (.slice ba m bc) ∧ W'.cell? ⟨w.heap.size, 7, none⟩ = some (.int .i64 a) ∧ W'.cell? ⟨w.heap.size, 8, none⟩ = some (.int .i64 g) ∧ W'.cell? ⟨y, 0, none⟩ = some (.string K) ∧ W'.cell? ⟨y, 1, none⟩ = some (.string V) ∧ W'.cell? ⟨y, 2, none⟩ = some (.int .i64 s) ∧ W'.cell? ⟨y, 3, none⟩ = some (.string R) ∧ W'.cell? ⟨y, 4, none⟩ = some (.int .i64 k) ∧ W'.cell? ⟨y, 5, none⟩ = some (.slice ao2 n ca2) ∧ W'.cell? ⟨y, 6, none⟩ = some (.slice ba2 m bc2) ∧ W'.cell? ⟨y, 7, none⟩ = some (.int .i64 a) ∧ W'.cell? ⟨y, 8, none⟩ = some (.int .i64 g) from by
    rintro e W' ⟨rfl, hb⟩
    exact ⟨rfl, e2_below h hb, C18.out _ _ _ (e2_below h hb)⟩))
  have kS := hide' (fun l lb W (h : E2 w y (EL K V R s k a g ao ba n m ca bc) (EL K V R s k a g ao2 ba2 n m ca2 bc2) l lb W) (h1 : (Value.slice ao2 n ca2, es) ∈ l) (h2 : (Value.slice ba2 m bc2, body) ∈ lb) => (cS.out _ _ W h.bel (h.fld _ h1) (h.byt _ h2)).mono (show ∀ (e : Ending) (W' : World), (e = .returned (.bool true) ∧ Below W.heap.size W W') → e = .returned (.bool true) ∧ E2 w y (EL K V R s k a g ao ba n m ca bc) (EL K V R s k a g ao2 ba2 n m ca2 bc2) l lb W' ∧ W'.cell? ⟨w.heap.size, 0, none⟩ = some (.string K) ∧ W'.cell? ⟨w.heap.size, 1, none⟩ = some (.string V) ∧ W'.cell? ⟨w.heap.size, 2, none⟩ = some (.int .i64 s) ∧ W'.cell? ⟨w.heap.size, 3, none⟩ = some (.string R) ∧ W'.cell? ⟨w.heap.size, 4, none⟩ = some (.int .i64 k) ∧ W'.cell? ⟨w.heap.size, 5, none⟩ = some (.slice ao n ca) ∧ W'.cell? ⟨w.heap.size, 6, none⟩ = some (.slice ba m bc) ∧ W'.cell? ⟨w.heap.size, 7, none⟩ = some (.int .i64 a) ∧ W'.cell? ⟨w.heap.size, 8, none⟩ = some (.int .i64 g) ∧ W'.cell? ⟨y, 0, none⟩ = some (.string K) ∧ W'.cell? ⟨y, 1, none⟩ = some (.string V) ∧ W'.cell? ⟨y, 2, none⟩ = some (.int .i64 s) ∧ W'.cell? ⟨y, 3, none⟩ = some (.string R) ∧ W'.cell? ⟨y, 4, none⟩ = some (.int .i64 k) ∧ W'.cell? ⟨y, 5, none⟩ = some (.slice ao2 n ca2) ∧ W'.cell? ⟨y, 6, none⟩ = some (.slice ba2 m bc2) ∧ W'.cell? ⟨y, 7, none⟩ = some (.int .i64 a) ∧ W'.cell? ⟨y, 8, none⟩ = some (.int .i64 g) from by
    rintro e W' ⟨rfl, hb⟩
    exact ⟨rfl, e2_below h hb, C18.out _ _ _ (e2_below h hb)⟩))
  have O := P3
  obtain ⟨ce0, ce1, ce2, ce3, ce4, ce5, ce6, ce7, ce8, ce9, ce10, ce11, ce12, ce13, ce14, ce15, ce16, ce17⟩ := C18.out _ _ _ P3.out
  clear P3 C18 cF cM cR cS
  have BW := hide' (fun l lb W (h : E2 w y (EL K V R s k a g ao ba n m ca bc) (EL K V R s k a g ao2 ba2 n m ca2 bc2) l lb W) => h.bel)
  obtain ⟨z, ez⟩ : ∃ z, z = w.heap.size := ⟨_, rfl⟩
  have Z : Hid (w.heap.size = z) := ez.symm
  rw [Z.out] at ce0 ce1 ce2 ce3 ce4 ce5 ce6 ce7 ce8 kF kM kR kS ⊢
  clear ez
  go_region_held3 (fun w' => w'.cell? ⟨z, 0, none⟩ = some (.string K) ∧ w'.cell? ⟨z, 1, none⟩ = some (.string V) ∧ w'.cell? ⟨z, 2, none⟩ = some (.int .i64 s) ∧ w'.cell? ⟨z, 3, none⟩ = some (.string R) ∧ w'.cell? ⟨z, 4, none⟩ = some (.int .i64 k) ∧ w'.cell? ⟨z, 5, none⟩ = some (.slice ao n ca) ∧ w'.cell? ⟨z, 6, none⟩ = some (.slice ba m bc) ∧ w'.cell? ⟨z, 7, none⟩ = some (.int .i64 a) ∧ w'.cell? ⟨z, 8, none⟩ = some (.int .i64 g) ∧ w'.cell? ⟨y, 0, none⟩ = some (.string K) ∧ w'.cell? ⟨y, 1, none⟩ = some (.string V) ∧ w'.cell? ⟨y, 2, none⟩ = some (.int .i64 s) ∧ w'.cell? ⟨y, 3, none⟩ = some (.string R) ∧ w'.cell? ⟨y, 4, none⟩ = some (.int .i64 k) ∧ w'.cell? ⟨y, 5, none⟩ = some (.slice ao2 n ca2) ∧ w'.cell? ⟨y, 6, none⟩ = some (.slice ba2 m bc2) ∧ w'.cell? ⟨y, 7, none⟩ = some (.int .i64 a) ∧ w'.cell? ⟨y, 8, none⟩ = some (.int .i64 g)) (go_keep)
    (first
      | (go_at_call 10; refine (kF.out _ _ _ (by first | exact O.out | exact e2_drew O.out)).mono ?_; rintro e w8 ⟨a3, c3, rfl, o8, ce0, ce1, ce2, ce3, ce4, ce5, ce6, ce7, ce8, ce9, ce10, ce11, ce12, ce13, ce14, ce15, ce16, ce17⟩; replace O := hide' o8; clear o8)
      | (go_at_call 19; refine (kM.out _ _ _ _ _ (by first | exact O.out | exact e2_drew O.out) (by simp) (by simp) (by simp)).mono ?_; rintro e w8 ⟨rfl, o8, ce0, ce1, ce2, ce3, ce4, ce5, ce6, ce7, ce8, ce9, ce10, ce11, ce12, ce13, ce14, ce15, ce16, ce17⟩; replace O := hide' o8; clear o8)
      | (go_at_call 20; refine (kR.out _ _ _ (by first | exact O.out | exact e2_drew O.out)).mono ?_; rintro e w8 ⟨rfl, o8, ce0, ce1, ce2, ce3, ce4, ce5, ce6, ce7, ce8, ce9, ce10, ce11, ce12, ce13, ce14, ce15, ce16, ce17⟩; replace O := hide' o8; clear o8)
      | (go_at_call 21; refine (kS.out _ _ _ (by first | exact O.out | exact e2_drew O.out) (by simp) (by simp)).mono ?_; rintro e w8 ⟨rfl, o8, ce0, ce1, ce2, ce3, ce4, ce5, ce6, ce7, ce8, ce9, ce10, ce11, ce12, ce13, ce14, ce15, ce16, ce17⟩; replace O := hide' o8; clear o8))
  go_wp2_with fail
  go_ret
  exact ⟨rfl, BW.out _ _ _ O.out⟩
end Go.Proofs.YtmibgcbolnpffaaDoor
