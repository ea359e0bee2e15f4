/- The contract of split. -/
import Derived.Test.YtbbaajlabpjnlaaDoorHdE
namespace Go.Proofs.YtbbaajlabpjnlaaDoor
open Go.RowKit
theorem mark4 (W : World) : Sem.run Tryd.prog (convert 22 22 (.slice (some ⟨W.heap.size, 0, none⟩) 4 4)) (W.alloc (.cells #[.int .u8 13, .int .u8 10, .int .u8 13, .int .u8 10] 5)) = .ok (.slice (some ⟨W.heap.size, 0, none⟩) 4 4) (W.alloc (.cells #[.int .u8 13, .int .u8 10, .int .u8 13, .int .u8 10] 5 (4, 5))) :=
  Lib.run_convert_bytes_const W 22 5 #[.int .u8 13, .int .u8 10, .int .u8 13, .int .u8 10] 4 4 Tryd.underlying22 Tryd.underlying5
theorem four_cells (W : World) : ∀ i, i < 4 → (W.alloc (.cells #[.int .u8 13, .int .u8 10, .int .u8 13, .int .u8 10] 5 (4, 5))).cell? ((⟨W.heap.size, 0, none⟩ : Addr).add i) = some (.int .u8 (([13, 10, 13, 10] : List Int).getD i 0)) := by
  intro i hi
  rw [Go.WideShapes.add_plain]
  match i, hi with
  | 0, _ => simp [World.cell?_alloc_mark]
  | 1, _ => simp [World.cell?_alloc_mark]
  | 2, _ => simp [World.cell?_alloc_mark]
  | 3, _ => simp [World.cell?_alloc_mark]
theorem indexB (ao : Option Addr) (cap : Nat) (bs : List UInt8) (W : World) (hv : HoldsB W (.slice ao bs.length cap) bs) (M : MaxV W) (hs : bs.length < 4294967281) :
    Calls Tryd.prog 28 #[.slice ao bs.length cap, .slice (some ⟨W.heap.size, 0, none⟩) 4 4] (W.alloc (.cells #[.int .u8 13, .int .u8 10, .int .u8 13, .int .u8 10] 5 (4, 5))) fun e w' => e = .returned (.int .i64 (Lib.index bs E4)) ∧ Below W.heap.size W w' := by
  have bA := below_alloc' W (.cells #[.int .u8 13, .int .u8 10, .int .u8 13, .int .u8 10] 5 (4, 5))
  obtain ⟨m, hm⟩ := maxV_below M bA
  have h1 := in_of_holdsB (holdsB_mono hv bA)
  obtain ⟨ao', cap', e, h0, hcp, _⟩ := hv
  simp only [Value.slice.injEq] at e
  obtain ⟨rfl, _, rfl⟩ := e
  cases ao with
  | none =>
    obtain rfl := h0 rfl
    have : bs = [] := List.eq_nil_of_length_eq_zero (by omega)
    subst this
    refine (Any.bytes_Index_nil Tryd.lays185 (some ⟨W.heap.size, 0, none⟩) 4 4 _ (by decide) (fun h => absurd h (by decide))).mono ?_
    rintro e w' ⟨rfl, rfl⟩
    exact ⟨rfl, bA⟩
  | some a =>
    refine (Any.bytes_Index_at Tryd.lays185 a ⟨W.heap.size, 0, none⟩ bs.length cap 4 4 (bs.map fun b => (b.toNat : Int)) [13, 10, 13, 10] m _ (by simp) rfl (byte_range bs) (by decide) ?_ (four_cells W) hcp hs (by decide) hm).mono ?_
    · intro i hi
      obtain ⟨b, off, e, hc⟩ := h1 (by omega)
      simp only [Option.some.injEq] at e
      subst e
      rw [Go.WideShapes.add_plain]
      exact hc i hi
    · rintro e w' ⟨rfl, q, rfl⟩
      rw [bytesOf_map', show Lib.bytesOf [13, 10, 13, 10] = E4 from rfl]
      exact ⟨rfl, bt' bA (below_drewN _ q)⟩
theorem cutp_at (b off n cap k : Nat) (e : Int) (m : Nat) (hm : e = m) (hk : k ≤ m) (he : m ≤ n) (hkn : k < n) (hc : n ≤ cap) (w : World) : Sem.run Tryd.prog (Instr.slice 22 (.slice (some ⟨b, off, none⟩) n cap) (some (.int .i64 k)) (some (.int .i64 e)) none) w = .ok (.slice (some ⟨b, off + k, none⟩) (m - k) (cap - k)) w := by
  subst hm
  have hel : Tryd.prog.elem 22 = 5 := by kernel_rfl
  have h := run_slice_lh (P := Tryd.prog) w 22 (some ⟨b, off, none⟩) n cap (by rw [hel]; exact Tryd.underlying22) .i64 .i64 k m (by omega) (by omega) (by omega)
  rw [hel, Tryd.sizeOf5] at h
  simp only [Result.andThen, Int.toNat_natCast, sliced] at h
  rw [h]
  have : ¬ cap = k := by omega
  simp [Addr.add, this]
set_option maxRecDepth 20000 in
set_option maxHeartbeats 1000000 in
theorem splitNone (v : Value) (bs : List UInt8) (p : Nat) (w : World) (hv : HoldsB w v bs) (M : MaxV w) (hp : p ≤ bs.length) (hs : bs.length < 4294967281) (h : (endOf bs p).1 = 0) :
    Calls Tryd.prog 13 #[v, .int .i64 (p : Int)] w fun e w' => e = .returned (.tuple #[.string ⟨#[]⟩, .slice none 0 0, .int .i64 0, .int .i64 (endOf bs p).2]) ∧ Below w.heap.size w w' := by
  have HV := hide' hv
  obtain ⟨ao, cap, rfl, h0, hcp, _⟩ := hv
  obtain ⟨n, hn⟩ : ∃ n, n = bs.length := ⟨_, rfl⟩
  have HS := holdsB_suf HV.out p hp
  obtain ⟨a2, c2, e2, _⟩ := HS
  have HS' := holdsB_suf HV.out p hp
  rw [e2] at HS'
  have sl := fun W => from_run ao bs.length cap p hp hcp W
  rw [e2] at sl
  have cI := indexB a2 c2 (bs.drop p) w HS' M (by rw [List.length_drop]; omega)
  have kc := mark4 w
  have hdl : (bs.drop p).length = n - p := by rw [List.length_drop, hn]
  rw [hdl] at sl cI
  rcases index_cases (bs.drop p) E4 with hi | ⟨i, hi⟩
  · have en := end_none bs p hi
    rw [hi] at cI
    have C := hide' cI
    rw [← hn] at hp hs hcp en sl ⊢
    clear cI h HV HS' e2 h0 hdl hn hi M
    by_cases hl : 8192 ≤ n
    · rw [if_pos hl] at en
      have t1 : decide ((n : Int) < 8192) = false := by simp; omega
      rw [en]
      clear en
      go_enter Tryd.func13, Tryd.ntmps13
      go_wp2_with fail
      refine C.out.mono ?_
      clear kc sl
      rintro e w1 ⟨rfl, b1⟩
      have B1 := hide' b1
      clear b1
      go_wp2_with fail
      exact bodyPost_ret (v := .tuple #[.string ⟨#[]⟩, .slice none 0 0, .int .i64 0, .int .i64 51]) (by simp [results, Tryd.results13, go_sem]) rfl ⟨rfl, B1.out⟩
    · rw [if_neg hl] at en
      have t1 : decide ((n : Int) < 8192) = true := by simp; omega
      rw [en]
      clear en
      go_enter Tryd.func13, Tryd.ntmps13
      go_wp2_with fail
      refine C.out.mono ?_
      clear kc sl
      rintro e w1 ⟨rfl, b1⟩
      have B1 := hide' b1
      clear b1
      go_wp2_with fail
      exact bodyPost_ret (v := .tuple #[.string ⟨#[]⟩, .slice none 0 0, .int .i64 0, .int .i64 0]) (by simp [results, Tryd.results13, go_sem]) rfl ⟨rfl, B1.out⟩
  · have en := end_some bs p i hi
    have hro := occ_len _ _ _ (by decide) (index_is _ _ _ hi).2.1
    rw [hdl, show E4.length = 4 from rfl] at hro
    rw [hi] at cI
    have C := hide' cI
    by_cases hl : 8192 < p + i + 4
    · rw [if_pos hl] at en
      rw [en, ← hn]
      rw [← hn] at hp hs hcp sl
      clear cI h HV HS' e2 h0 hdl hn hi M en
      have t2 : decide ((8192 : Int) < (p : Int) + (i : Int) + 4) = true := by simp; omega
      have t3 : (8192 : Int) < (p : Int) + (i : Int) + 4 := by omega
      go_enter Tryd.func13, Tryd.ntmps13
      go_wp2_with fail
      refine C.out.mono ?_
      clear kc sl
      rintro e w1 ⟨rfl, b1⟩
      have B1 := hide' b1
      clear b1
      go_wp2_with fail
      exact bodyPost_ret (v := .tuple #[.string ⟨#[]⟩, .slice none 0 0, .int .i64 0, .int .i64 51]) (by simp [results, Tryd.results13, go_sem]) rfl ⟨rfl, B1.out⟩
    · rw [en, if_neg hl] at h
      simp at h
set_option maxRecDepth 20000 in
set_option maxHeartbeats 1000000 in
theorem splitSome (v : Value) (bs : List UInt8) (p i : Nat) (w : World) (hv : HoldsB w v bs) (M : MaxV w) (hs : bs.length < 4294967281) (hi : Lib.index (bs.drop p) E4 = i) (hc : p + i + 4 ≤ 8192) (hl : p + i + 4 ≤ bs.length) :
    Calls Tryd.prog 13 #[v, .int .i64 (p : Int)] w fun e w' => ∃ bv, e = .returned (.tuple #[.string ⟨(lineH (headH bs p (p + i + 4))).toArray⟩, bv, .int .i64 ((p + i + 4 : Nat) : Int), .int .i64 0]) ∧ HoldsB w' bv (blkH (headH bs p (p + i + 4))) ∧ Below w.heap.size w w' := by
  have HV := hide' hv
  obtain ⟨ao, cap, rfl, h0, hcp, hcell⟩ := hv
  obtain ⟨b, off, rfl, hlt, _⟩ := hcell (fun e => by rw [e] at hl; simp at hl)
  clear hcell
  obtain ⟨n, hn⟩ : ∃ n, n = bs.length := ⟨_, rfl⟩
  have hp : p ≤ bs.length := by omega
  have e2 : Lib.fromV (some ⟨b, off, none⟩) bs.length cap p = .slice (some ⟨b, off + p, none⟩) (bs.length - p) (cap - p) := by
    unfold Lib.fromV
    rw [if_neg (by omega)]
    simp [Addr.add]
  have HS' := holdsB_suf HV.out p hp
  rw [e2] at HS'
  have sl := fun W => from_run (some ⟨b, off, none⟩) bs.length cap p hp hcp W
  rw [e2] at sl
  have hdl : (bs.drop p).length = n - p := by rw [List.length_drop, hn]
  rw [← List.length_drop] at HS'
  have cI := indexB (some ⟨b, off + p, none⟩) (cap - p) (bs.drop p) w HS' M (by rw [hdl]; omega)
  have kc := mark4 w
  rw [hi, hdl] at cI
  obtain ⟨j, hj, hji, hhl⟩ := headH_index bs p i hi hl
  have eh : headH bs p (p + i + 4) = (bs.drop p).take (i + 2) := by
    unfold headH
    rw [List.drop_take]
    congr 1
    omega
  have HH := holdsB_pre HS' (i + 2) (by rw [hdl]; omega)
  rw [← eh] at HH
  have EL : Hid (lineH (headH bs p (p + i + 4)) = (headH bs p (p + i + 4)).take j) := by unfold Hid lineH; rw [hj, Int.toNat_natCast]
  have EB : Hid (blkH (headH bs p (p + i + 4)) = (headH bs p (p + i + 4)).drop (j + 2)) := by unfold Hid blkH; rw [hj, Int.toNat_natCast]
  rw [EL.out, EB.out]
  obtain ⟨H, hH⟩ : ∃ H, H = headH bs p (p + i + 4) := ⟨_, rfl⟩
  rw [← hH] at HH hj hhl ⊢
  clear hH eh EL EB
  have s2 := fun W (e : Int) (he : e = ((p + i + 2 : Nat) : Int)) => cutp_at b off bs.length cap p e (p + i + 2) he (by omega) (by omega) (by omega) hcp W
  rw [show p + i + 2 - p = i + 2 by omega] at s2
  rw [← hhl] at HH
  have cC := fun W (hb : Below w.heap.size w W) => cutB (some ⟨b, off + p, none⟩) (cap - p) H W (holdsB_mono HH hb) (maxV_below M hb) (by rw [hhl]; omega)
  rw [show ([13, 10] : List UInt8) = E2 from rfl, hj, hhl] at cC
  unfold Lib.cutV at cC
  rw [if_pos (by omega), Int.toNat_natCast] at cC
  have HL := holdsB_pre HH j (by omega)
  have hjl : (H.take j).length = j := by rw [List.length_take]; omega
  have CV := fun W (hb : Below w.heap.size w W) => conv_holdsB W (some ⟨b, off + p, none⟩) (cap - p) (H.take j) (by rw [hjl]; exact holdsB_mono HL hb)
  rw [hjl] at CV
  have HB := holdsB_suf HH (j + 2) (by omega)
  rw [hhl] at HB
  obtain ⟨vb, hvb⟩ : ∃ vb, vb = Lib.fromV (some ⟨b, off + p, none⟩) (i + 2) (cap - p) (j + 2) := ⟨_, rfl⟩
  rw [← hvb] at cC HB
  have CI := hide' cI
  have CC := hide' cC
  have CVH := hide' CV
  have HBH := hide' HB
  have S2 := s2
  rw [← hn] at hl hs hp hcp sl S2 ⊢
  have t2 : decide ((8192 : Int) < (p : Int) + (i : Int) + 4) = false := by simp; omega
  have bp : p < 4294967281 := by omega
  have bi : i < 4294967281 := by omega
  have s3 := fun W => S2 W ((p : Int) + (i : Int) + 4 - 2) (by omega)
  have s4 := fun W => S2 W ((p : Int) + (i : Int) + 2) (by omega)
  have HC := hide' hc
  have HL2 := hide' hl
  clear cI cC CV HB s2 S2 HV HS' e2 h0 hn hi M HH hj hhl hjl HL hvb hdl hc hl hji
  generalize H.take j = ll at CVH ⊢
  generalize H.drop (j + 2) = bb at HBH ⊢
  go_enter Tryd.func13, Tryd.ntmps13
  go_wp2_with fail
  refine CI.out.mono ?_
  clear kc
  rintro e w1 ⟨rfl, b1⟩
  have B1 := hide' b1
  have kc2 := mark2 w1
  clear b1
  go_wp2_with fail
  refine (CC.out w1 B1.out).mono ?_
  clear kc2
  rintro e w2 ⟨rfl, b2⟩
  have B2 := hide' (bt' B1.out b2)
  have cv := CVH.out w2 B2.out
  clear b2
  go_wp2_with fail
  exact bodyPost_ret (v := .tuple #[.string ⟨ll.toArray⟩, vb, .int .i64 ((p : Int) + (i : Int) + 4), .int .i64 0]) (by simp [results, Tryd.results13, go_sem]) rfl ⟨vb, by simp, holdsB_mono HBH.out B2.out, B2.out⟩
end Go.Proofs.YtbbaajlabpjnlaaDoor
