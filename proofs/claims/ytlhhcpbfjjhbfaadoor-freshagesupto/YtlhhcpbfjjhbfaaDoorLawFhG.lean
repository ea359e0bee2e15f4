/- The walk of FreshAges. -/
import Derived.Test.YtlhhcpbfjjhbfaaDoorLawFhA
import Derived.Test.YtlhhcpbfjjhbfaaDoorBr
namespace Go.Proofs.YtlhhcpbfjjhbfaaDoor
open Go.RowKit
set_option maxRecDepth 20000 in
set_option maxHeartbeats 8000000 in
theorem agesW (e : En) (lv bv : Value) (now more : Int) (w : World) (hF : HoldsF w lv e.r.fs) (hB : HoldsB w bv e.body) (hb : e.key.length + e.vary.length + e.r.r.length + bulkF e.r.fs + e.body.length ≤ 1048576) (E : EvD w) :
    Calls Tryd.prog 4 #[entV e lv bv, .int .i64 now, .int .i64 more] w fun e w' => e = .returned (.bool true) ∧ Below w.heap.size w w' := by
  obtain ⟨key, vary, ⟨s, r, k, fs⟩, body, a, g⟩ := e
  dsimp only at hb hF hB
  have hn : fs.length ≤ 2000000 := by have := bulkF_len fs; omega
  have hfs : bulkF fs ≤ 1048576 := by omega
  have hbd : body.length ≤ 2000000 := by omega
  have jb : ∀ nm, (joinOf (valsOf fs nm)).length < 4294967281 := fun nm => by have h1 := join_len (valsOf fs nm); have h2 := bulk_vals fs nm; omega
  obtain ⟨d, D⟩ := dt_ex (joinOf (valsOf fs dab)) (jb dab)
  have cA := hide' (fun W (h : Below w.heap.size w W) => aliveF W (evD_below E h))
  obtain ⟨ao, ca, _, _, el, _⟩ := holdsF_parts hF
  obtain ⟨ba, bc, eb, _⟩ := holdsB_parts hB
  subst el eb
  have cC := fun W (h : Below w.heap.size w W) => copyEC ⟨key, vary, ⟨s, r, k, fs⟩, body, a, g⟩ _ _ W (holdsF_mono hF h) (holdsB_mono hB h) hn (by dsimp only; omega)
  unfold entV at cC ⊢
  dsimp only at cC ⊢
  generalize (⟨key.toArray⟩ : ByteArray) = K at cC ⊢
  generalize (⟨vary.toArray⟩ : ByteArray) = V at cC ⊢
  generalize (⟨r.toArray⟩ : ByteArray) = R at cC ⊢
  have k1 := fun ao2 ca2 ba2 bc2 nw W (h : Below w.heap.size w W) (hx : HoldsF W (.slice ao2 fs.length ca2) fs) => ageFC K V R s k a g ao2 ba2 fs.length body.length ca2 bc2 nw fs d W hx hfs (evD_below E h) D
  have aI := fun nw => ageN_in d (secs (joinOf (valsOf fs agb))) a g nw D.2.1 (secs_in _).2
  have aM := ageN_more d (secs (joinOf (valsOf fs agb))) a g now more
  clear D E jb hb hn hfs hbd hF hB
  have aI1 := aI now
  have aI2 := aI (now + more)
  have k2 := fun ao2 ca2 ba2 bc2 => k1 ao2 ca2 ba2 bc2 now
  have k3 := fun ao2 ca2 ba2 bc2 => k1 ao2 ca2 ba2 bc2 (now + more)
  clear k1 aI
  generalize ageN d (secs (joinOf (valsOf fs agb))) a g now = A at k2 aI1 aM
  generalize ageN d (secs (joinOf (valsOf fs agb))) a g (now + more) = A2 at k3 aI2 aM
  obtain ⟨aI10, aI11⟩ := aI1
  generalize hn' : fs.length = n at cC k2 k3 ⊢
  generalize hm' : body.length = m at cC k2 k3 ⊢
  have HN := hide' hn'
  have HM := hide' hm'
  replace cC := hide' cC
  replace k2 := hide' k2
  replace k3 := hide' k3
  replace aM := hide' aM
  clear hn' hm' aI2
  have A0 := hide' (show AgO w w.heap.size (w.alloc (.cells #[.string K, .string V, .int .i64 s, .string R, .int .i64 k, .slice ao n ca, .slice ba m bc, .int .i64 a, .int .i64 g] 34)) K V R s k a g ao ba n m ca bc from ⟨below_alloc' w _, enC_lit w K V R s k a g ao ba n m ca bc⟩)
  go_enter Tryd.func4, Tryd.ntmps4
  go_wp2_with fail
  refine (cA.out _ A0.out.1).mono ?_
  rintro e w1 ⟨rfl, bw1⟩
  have C1 := hide' (agO_below A0.out bw1)
  clear bw1 A0 cA
  have O0 := C1.out
  obtain ⟨-, i0, i1, i2, i3, i4, i5, i6, i7, i8⟩ := enC_open O0.2
  clear O0
  go_wp2_with fail
  refine (cC.out _ C1.out.1).mono ?_
  rintro e w2 ⟨lu, bu, rfl, hu, hbu⟩
  obtain ⟨ao2, ca2, _, _, el2, _⟩ := holdsF_parts (holdsF_own hu)
  obtain ⟨ba2, bc2, eb2, _⟩ := holdsB_parts (holdsB_own hbu)
  rw [HN.out] at el2
  rw [HM.out] at eb2
  have hx := holdsF_own hu
  rw [el2] at hx ⊢
  rw [eb2]
  have C2 := hide' (agO_below C1.out hu.2)
  have kA := hide' (k2.out ao2 ca2 ba2 bc2 _ C2.out.1 hx)
  clear hu hbu el2 eb2 lu bu i0 i1 i2 i3 i4 i5 i6 i7 i8 C1 k2 hx
  go_wp2_with fail
  refine kA.out.mono ?_
  rintro e w3 ⟨rfl, bw3⟩
  have C3 := hide' (agO_below C2.out bw3)
  clear bw3 C2 kA
  have O0 := C3.out
  obtain ⟨-, i0, i1, i2, i3, i4, i5, i6, i7, i8⟩ := enC_open O0.2
  clear O0
  by_cases h1 : now < 0
  · go_wp2_with fail
    go_ret
    exact ⟨rfl, C3.out.1⟩
  by_cases h2 : now < g
  · go_wp2_with fail
    go_ret
    exact ⟨rfl, C3.out.1⟩
  by_cases h3 : more < 0
  · go_wp2_with fail
    go_ret
    exact ⟨rfl, C3.out.1⟩
  by_cases h4 : 68719476736 < now
  · go_wp2_with fail
    go_ret
    exact ⟨rfl, C3.out.1⟩
  by_cases h5 : 68719476736 < more
  · go_wp2_with fail
    go_ret
    exact ⟨rfl, C3.out.1⟩
  have EA : Hid (A2 = A + more) := aM.out (by omega) (by omega) (by omega) (by omega) (by omega)
  have m0 : 0 ≤ more := by omega
  have m1 : more ≤ 68719476736 := by omega
  have m2 : 0 ≤ now := by omega
  have m3 : now ≤ 68719476736 := by omega
  clear aM
  go_wp2_with fail
  refine (cC.out _ C3.out.1).mono ?_
  rintro e w4 ⟨lu, bu, rfl, hu, hbu⟩
  obtain ⟨ao2, ca2, _, _, el2, _⟩ := holdsF_parts (holdsF_own hu)
  obtain ⟨ba2, bc2, eb2, _⟩ := holdsB_parts (holdsB_own hbu)
  rw [HN.out] at el2
  rw [HM.out] at eb2
  have hx := holdsF_own hu
  rw [el2] at hx ⊢
  rw [eb2]
  have C4 := hide' (agO_below C3.out hu.2)
  have kA := (k3.out ao2 ca2 ba2 bc2 _ C4.out.1 hx)
  rw [EA.out] at kA
  replace kA := hide' kA
  clear hu hbu el2 eb2 lu bu i0 i1 i2 i3 i4 i5 i6 i7 i8 C3 k3 hx EA
  go_wp2_with fail
  refine kA.out.mono ?_
  rintro e w5 ⟨rfl, bw5⟩
  have C5 := hide' (agO_below C4.out bw5)
  clear bw5 C4 kA
  go_wp2_with fail
  go_ret
  exact ⟨rfl, C5.out.1⟩
end Go.Proofs.YtlhhcpbfjjhbfaaDoor
