/- The contract of read. -/
import Derived.Test.YtijnjgnckipghaaGreatSwZ
import Derived.Test.YtijnjgnckipghaaGreatBw16
import Derived.Test.YtijnjgnckipghaaGreatSwR
import Derived.Test.YtijnjgnckipghaaGreatSwY
namespace Go.Proofs.YtijnjgnckipghaaGreat
open Go.RowKit Go.Shelf
set_option maxRecDepth 20000
noncomputable def sndK (bs : List UInt8) : Nat := Classical.choose (stops_ex bs)
theorem sndK_stops (bs : List UInt8) : Stops bs (sndK bs) := Classical.choose_spec (stops_ex bs)
noncomputable def rdT (st : LSt) : (LSt × Int) × RL :=
  if (st.1.read lgN).2 = 90 then (beginT st, [])
  else if (st.1.read lgN).2 ≠ 0 then ((st, (st.1.read lgN).2), [])
  else if atR (st.1.read lgN).1 (sndK (st.1.read lgN).1) = (st.1.read lgN).1.length then ((st, 0), repR (st.1.read lgN).1 (sndK (st.1.read lgN).1))
  else (rewT (repR (st.1.read lgN).1 (sndK (st.1.read lgN).1)) st, repR (st.1.read lgN).1 (sndK (st.1.read lgN).1))
theorem dec_n (l : List UInt8) (h : (decOf l).n ≠ 0) : (decOf l).n = 15 + (decOf l).id.length := by
  obtain ⟨h1, h2, _⟩ := dec_plain l h
  obtain ⟨_, _, _, _, h5⟩ := enc_inv h1
  have := congrArg List.length h5
  rw [recL_len, List.length_take] at this
  omega
theorem bulkR_app (a b : RL) : bulkR (a ++ b) = bulkR a + bulkR b := by
  induction a with
  | nil => simp [bulkR]
  | cons r a ih => simp only [List.cons_append, bulkR, ih]; omega
theorem bulk_rep {bs : List UInt8} : ∀ K, (∀ i, i < K → okR bs i) → bulkR (repR bs K) = atR bs K := by
  intro K
  induction K with
  | zero => intro _; rfl
  | succ K ih =>
    intro h
    rw [repR_succ, bulkR_app, ih (fun i hi => h i (by omega)), atR_succ]
    have := dec_n _ (h K (by omega)).1
    show _ + (15 + (recR bs K).id.length + 0) = _ + (recR bs K).n
    unfold recR at this ⊢
    omega
theorem read_len {m : Nat} {s : Dk} (h : Bd m s) (nm : Nm) : (s.read nm).1.length ≤ m := by
  unfold Dk.read
  split
  · exact Nat.zero_le _
  · split
    · exact Nat.zero_le _
    · cases atN s.now nm with
      | none => exact Nat.zero_le _
      | some k => exact h.2.2.2.2.2 k
theorem rsd_own {o : Ow} {g lb : Nat} {s : Dk} {c : Int} {W0 W : World} {v : Value} {rs : RL} (h : LogS o g lb s c W0) (ho : OwnR W0 v rs W) : Rsd o lb W0.heap.size v rs W := by
  refine ⟨holdsR_own ho, fun ad n c' e => ?_⟩
  subst e
  have hx := ho.1.lt ad.block (by
    obtain ⟨hl, h1 | ⟨gg, cap, cur, hv, _⟩⟩ := id ho.1
    · cases h1.1
    · simp only [Value.slice.injEq, Option.some.injEq] at hv; rw [hv.1]; rfl)
  exact ⟨none_of_lt (dsk_lt h.dsk) hx.1, by have := h.blk.2; omega, hx.1, hx.2⟩
theorem rsd_low {o : Ow} {lb n0 n1 : Nat} {v : Value} {rs : RL} {W : World} (h : Rsd o lb n0 v rs W) (hn : n1 ≤ n0) : Rsd o lb n1 v rs W :=
  ⟨h.1, fun ad n c e => by obtain ⟨p1, p2, p3, p4⟩ := h.2 ad n c e; exact ⟨p1, p2, by omega, p4⟩⟩
theorem own_loR {w0 w : World} {ao : Option Addr} {vl vc : Nat} {bs : List UInt8} (ho : Own w0 (.slice ao vl vc) bs w) : ∀ ad, ao = some ad → ad.block < w.heap.size := by
  intro ad e
  subst e
  exact (ho.1.lt ad.block (by
    obtain ⟨hl, h1 | ⟨gg, cap, cur, hv, _⟩⟩ := id ho.1
    · cases h1.1
    · simp only [Value.slice.injEq, Option.some.injEq] at hv; rw [hv.1]; rfl)).2
set_option maxHeartbeats 2000000 in
theorem readG {o : Ow} {g lb : Nat} {s : Dk} {c : Int} {W : World} (h : LogS o g lb s c W) (m : Nat) (hm : 13 * m + 40 ≤ 80000000) (hB : Bd m s) :
    Calls Tryz.prog 25 #[lptr lb] W fun e W' => RdPost o g lb (rdT (s, c)) W e W' ∧ Bd (13 * m + 40) (rdT (s, c)).1.1.1 := by
  by_cases hr : (s.read lgN).2 = 90
  · refine (readNone h m (by omega) hB hr).mono ?_
    rintro e W' ⟨p1, p2⟩
    have R : rdT (s, c) = (beginT (s, c), []) := by unfold rdT; rw [if_pos hr]
    rw [R]
    exact ⟨p1, bd_mono p2 (by omega)⟩
  · have CR := hide' (readC h.dsk lgB (by decide) (bd_mono hB (by omega)))
    have RLE := hide' (read_len hB lgN)
    obtain ⟨c0, _, _⟩ := logS_cells h
    have H := hide' h
    have HB := hide' hB
    clear h hB
    obtain ⟨bs, hbs⟩ : ∃ bs, bs = (s.read lgN).1 := ⟨_, rfl⟩
    obtain ⟨y, hy⟩ : ∃ y, y = (s.read lgN).2 := ⟨_, rfl⟩
    have e1 : (s.read (lgB).data.toList).1 = bs := hbs.symm
    have e2 : (s.read (lgB).data.toList).2 = y := hy.symm
    rw [e1, e2] at CR
    rw [← hbs] at RLE
    by_cases hz : y = 0
    · obtain ⟨K, hKe⟩ : ∃ K, K = sndK bs := ⟨_, rfl⟩
      have hK : Stops bs K := by rw [hKe]; exact sndK_stops bs
      have hbk := bulk_rep K hK.1
      have hal := atR_le bs K
      have HKS := hide' hK
      by_cases ha : atR bs K = bs.length
      · have R : Hid (rdT (s, c) = (((s, c), 0), repR bs K)) := by
          unfold Hid rdT; rw [if_neg hr, if_neg (by rw [← hy, hz]; exact fun h => h rfl)]; dsimp only; rw [← hbs, ← hKe, if_pos ha]
        have HA := hide' ha
        have HR := hide' hr
        subst hz
        clear hr hK hKe hbk hal ha e1 e2 hbs hy
        go_enter Tryz.func25, Tryz.ntmps25
        go_wp2_with fail
        refine CR.out.mono ?_
        rintro e w1 ⟨v, rfl, hv⟩
        obtain ⟨va, vc, hve⟩ := row_sl hv.1
        obtain ⟨N, hN⟩ : ∃ N, N = bs.length := ⟨_, rfl⟩
        rw [← hN] at hve
        subst hve
        have CP := hide' (replayC va N vc bs w1 (holdsB_own hv) (by have := RLE.out; omega) (own_loR hv))
        have B1 := hide' hv.2
        have H1 := hide' (logS_below H.out hv.2)
        have HN := hide' hN
        clear hv hN
        go_wp2_with fail
        refine CP.out.mono ?_
        rintro e w2 ⟨L, r, rfl, hL, ho⟩
        obtain rfl := stops_one hL HKS.out
        have H2 := hide' (logS_below H1.out ho.2)
        have RS := hide' (rsd_own H1.out ho)
        have BB := hide' (B1.out.trans (ho.2.mono B1.out.size))
        rw [HA.out, ← HN.out]
        clear ho hL CP CR
        go_wp2_with fail
        go_ret2
        rw [R.out]
        exact ⟨⟨r, o, rfl, H2.out, growL_below BB.out, rsd_low RS.out B1.out.size⟩, bd_mono HB.out (by omega)⟩
      · have R : Hid (rdT (s, c) = (rewT (repR bs K) (s, c), repR bs K)) := by
          unfold Hid rdT; rw [if_neg hr, if_neg (by rw [← hy, hz]; exact fun h => h rfl)]; dsimp only; rw [← hbs, ← hKe, if_neg ha]
        obtain ⟨A, hA⟩ : ∃ A, A = atR bs K := ⟨_, rfl⟩
        obtain ⟨N, hN⟩ : ∃ N, N = bs.length := ⟨_, rfl⟩
        have hne : ¬ (A : Int) = (N : Int) := by rw [hA, hN]; omega
        have hne1 : ((A : Int) == (N : Int)) = false := by simpa using hne
        have hne2 : ¬ A = N := by omega
        have hne3 : decide (A = N) = false := by simpa using hne2
        have HA : Hid (atR bs K = A) := hA.symm
        have HN := hide' hN
        have HBK := hide' hbk
        have HAL := hide' hal
        subst hz
        clear hr hK hKe hbk hal ha e1 e2 hbs hy hA hN
        go_enter Tryz.func25, Tryz.ntmps25
        go_wp2_with fail
        refine CR.out.mono ?_
        rintro e w1 ⟨v, rfl, hv⟩
        obtain ⟨va, vc, hve⟩ := row_sl hv.1
        rw [← HN.out] at hve
        subst hve
        have CP := hide' (replayC va N vc bs w1 (holdsB_own hv) (by have := RLE.out; omega) (own_loR hv))
        have B1 := hide' hv.2
        have H1 := hide' (logS_below H.out hv.2)
        clear hv
        go_wp2_with fail
        refine CP.out.mono ?_
        rintro e w2 ⟨L, r, rfl, hL, ho⟩
        obtain rfl := stops_one hL HKS.out
        obtain ⟨ra, rc, hre⟩ := ownR_sl ho
        rw [repR_len] at hre
        subst hre
        have h2 := logS_below H1.out ho.2
        have RS := hide' (rsd_low (rsd_own H1.out ho) B1.out.size)
        have CW := hide' (rewriteC h2 m HB.out ra L rc (repR bs L) (holdsR_own ho) (by rw [HBK.out]; have h1 := HAL.out; have h2 := RLE.out; omega))
        have BB := hide' (B1.out.trans (ho.2.mono B1.out.size))
        rw [HA.out]
        clear ho hL CP CR h2
        go_wp2_with fail
        refine CW.out.mono ?_
        rintro e w3 ⟨P, hbd⟩
        have PP := hide' P
        have HBD := hide' hbd
        obtain ⟨rfl, _⟩ := P
        clear hbd
        go_wp2_with fail
        go_ret2
        rw [R.out]
        obtain ⟨_, o', hl, hg⟩ := PP.out
        exact ⟨⟨_, o', rfl, hl, (growL_below BB.out).trans hg, rsd_grow RS.out hg⟩, bd_mono HBD.out (by rw [HBK.out]; have h1 := HAL.out; have h2 := RLE.out; omega)⟩
    · have R : Hid (rdT (s, c) = (((s, c), y), [])) := by
        unfold Hid rdT; rw [if_neg hr, if_pos (by rw [← hy]; exact hz), hy]
      have y0 : decide (y = 0) = false := by simpa using hz
      have y9' : ¬ y = 90 := by rw [hy]; exact hr
      have y9 : decide (y = 90) = false := by simpa using y9'
      have y91 : (y == 90) = false := by simpa using y9'
      clear hr e1 e2 hbs hy
      go_enter Tryz.func25, Tryz.ntmps25
      go_wp2_with fail
      refine CR.out.mono ?_
      rintro e w1 ⟨v, rfl, hv⟩
      have B1 := hide' hv.2
      have H1 := hide' (logS_below H.out hv.2)
      clear hv
      go_wp2_with fail
      go_ret2
      rw [R.out]
      exact ⟨⟨_, o, rfl, H1.out, growL_below B1.out, rsd_nil _ _ _ _⟩, bd_mono HB.out (by omega)⟩
end Go.Proofs.YtijnjgnckipghaaGreat
