/- The contracts of the document's find and number. -/
import Derived.Test.YtemmghmacbofaaaDoorKnG
namespace Go.Proofs.YtemmghmacbofaaaDoor
open Go.RowKit
/-- where the first directive of a name stands: k is the number's length where there is none -/
theorem fnd_split (ds : List DV) (nm : List UInt8) : (∃ (k : Nat) (h : k < ds.length), fndD ds nm = some ds[k] ∧ ∀ j (hj : j < ds.length), j < k → ¬ ds[j].1 = nm) ∨ (fndD ds nm = none ∧ ∀ j (hj : j < ds.length), ¬ ds[j].1 = nm) := by
  cases h : fndD ds nm with
  | none =>
    right
    refine ⟨rfl, fun j hj e => ?_⟩
    unfold fndD at h
    rw [List.find?_eq_none] at h
    have := h _ (List.getElem_mem hj)
    simp at this
    exact this e
  | some d =>
    left
    unfold fndD at h
    rw [List.find?_eq_some_iff_getElem] at h
    obtain ⟨_, k, hk, hd, hlt⟩ := h
    refine ⟨k, hk, by rw [hd], fun j hj hjk => ?_⟩
    have := hlt j hjk
    simpa using this
/-- where find ends: at k, or nowhere -/
def AtD (ds : List DV) (nm : List UInt8) (k : Int) : Prop := (∃ (j : Nat) (h : j < ds.length), k = (j : Int) ∧ fndD ds nm = some ds[j]) ∨ (k = -1 ∧ fndD ds nm = none)
set_option maxHeartbeats 1000000 in
theorem findR (v : Value) (ds : List DV) (nm : List UInt8) (w : World) (hv : HoldsD w v ds) (hl : ds.length ≤ 1000000000000) :
    Calls Tryd.prog 23 #[v, .string ⟨nm.toArray⟩] w fun e w' => ∃ k : Int, e = .returned (.int .i64 k) ∧ Hid (AtD ds nm k) ∧ w' = w := by
  obtain ⟨ao, ca, b, rfl, hc⟩ := hv
  have C := hide' hc
  clear hc
  obtain ⟨n, en⟩ : ∃ n, n = ds.length := ⟨_, rfl⟩
  have N : Hid (ds.length = n) := en.symm
  rw [N.out] at hl ⊢
  clear en
  go_enter Tryd.func23, Tryd.ntmps23
  go_wp2_with fail
  go_loop [5] (fun i => ∃ k : Nat, k ≤ n ∧ i = .int .i64 k ∧ Hid (∀ j (hj : j < ds.length), j < k → ¬ ds[j].1 = nm)) (fun i => n - (intOf i).toNat)
  case atStart => exact ⟨0, Nat.zero_le _, rfl, fun j h hj => absurd hj (by omega)⟩
  case round =>
    obtain ⟨k, hk, rfl, A⟩ := hrel
    by_cases hlt : k < n
    · have G : Hid (k < ds.length) := by unfold Hid; rw [N.out]; exact hlt
      obtain ⟨hao, hblt, hcell⟩ := C.out (by have := G.out; omega)
      subst hao
      have c1 := (hcell k G.out).1
      unfold S at c1
      clear hcell
      by_cases he : (ds[k]'G.out).1 = nm
      · have F : Hid (AtD ds nm (k : Int)) := .inl ⟨k, G.out, rfl, fnd_hit ds nm k G.out A.out he⟩
        rw [he] at c1
        clear he
        go_wp2_with fail
        go_ret
        exact ⟨(k : Int), rfl, F, rfl⟩
      · have A2 : Hid (∀ j (hj : j < ds.length), j < k + 1 → ¬ ds[j].1 = nm) := by
          intro j h hj
          by_cases hjk : j = k
          · subst hjk; exact he
          · exact A.out j h (by omega)
        have hne := ba_eql' _ _ he
        have hne2 : ((ds[k]'G.out).1 == nm) = false := by simpa using he
        clear he
        generalize (ds[k]'G.out).1 = p1 at c1 hne hne2
        go_wp2_with fail
        go_round
        case rel => exact ⟨k + 1, by omega, by go_num, A2⟩
        case measure => simp [intOf]; omega
    · have F : Hid (AtD ds nm (-1)) := .inr ⟨rfl, fnd_none ds nm (fun j hj => A.out j hj (by have := N.out; omega))⟩
      go_wp2_with fail
      go_ret
      exact ⟨-1, rfl, F, rfl⟩
set_option maxHeartbeats 1000000 in
theorem numberR (v : Value) (ds : List DV) (nm : List UInt8) (w : World) (hv : HoldsD w v ds) (hl : ds.length ≤ 1000000000000) (hm : ∀ d ∈ ds, d.2.1.length ≤ 4194304) :
    Calls Tryd.prog 22 #[v, .string ⟨nm.toArray⟩] w fun e w' => e = .returned (.int .i64 (numD ds nm)) ∧ w' = w := by
  have c := hide' (findR v ds nm w hv hl)
  obtain ⟨ao, ca, b, rfl, hc⟩ := hv
  have C := hide' hc
  have HM := hide' hm
  obtain ⟨n, en⟩ : ∃ n, n = ds.length := ⟨_, rfl⟩
  have N : Hid (ds.length = n) := en.symm
  rw [N.out] at hl c ⊢
  clear en hc hm
  go_enter Tryd.func22, Tryd.ntmps22
  go_wp2_with fail
  refine c.out.mono ?_
  rintro e w9 ⟨k, rfl, F, ew⟩
  rw [ew]
  clear ew w9 c
  rcases F.out with ⟨j, hj, rfl, hf⟩ | ⟨rfl, hf⟩
  · obtain ⟨hao, hblt, hcell⟩ := C.out (by omega)
    subst hao
    have c2 := (hcell j hj).2.1
    unfold S at c2
    have hjn : j < n := by rw [← N.out]; exact hj
    have hs := HM.out _ (List.getElem_mem hj)
    have hin := secs_in (ds[j]'hj).2.1
    have E : Hid (numD ds nm = max (secs (ds[j]'hj).2.1) 0) := by unfold Hid numD; rw [hf]; rfl
    have cS := hide' (fun W => secondsRef ⟨(ds[j]'hj).2.1.toArray⟩ W (by rw [size_l]; omega))
    simp only at cS
    generalize (ds[j]'hj).2.1 = p2 at c2 cS E hin hs
    generalize secs p2 = x at cS E hin
    clear hcell hf hj F C
    by_cases hx : x < 0
    · have E2 : Hid (numD ds nm = 0) := by unfold Hid; rw [E.out]; omega
      clear E
      go_wp2_with fail
      refine (cS.out _).mono ?_
      rintro e w9 ⟨rfl, ew⟩
      rw [ew]
      clear ew w9
      go_wp2_with fail
      go_ret
      exact ⟨by rw [E2.out]; rfl, rfl⟩
    · have E2 : Hid (numD ds nm = x) := by unfold Hid; rw [E.out]; omega
      clear E
      go_wp2_with fail
      refine (cS.out _).mono ?_
      rintro e w9 ⟨rfl, ew⟩
      rw [ew]
      clear ew w9
      go_wp2_with fail
      go_ret
      exact ⟨by rw [E2.out]; rfl, rfl⟩
  · have E : Hid (numD ds nm = -1) := by unfold Hid numD; rw [hf]; rfl
    clear hf F C
    go_wp2_with fail
    go_ret
    exact ⟨by rw [E.out]; rfl, rfl⟩
end Go.Proofs.YtemmghmacbofaaaDoor
