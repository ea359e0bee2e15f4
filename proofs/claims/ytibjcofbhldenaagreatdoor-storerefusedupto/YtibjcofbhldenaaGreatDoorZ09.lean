/- The contract of split. A block of four cells that may be written; strings.Cut at a blank; the contract of requestLine. Two requests, two responses that are alike are told as such. The contract of Request. What Print prints, in plain words; a text appended to bytes; the contract of Print. What is printed is read as it was; what is read is good. What is printed as a head, in plain words, and that it is read as it was, whatever stands behind it. -/
import Derived.Lib.AppendStr
import Derived.Test.YtibjcofbhldenaaGreatDoorZ08
import Derived.Test.YtibjcofbhldenaaGreatDoorZ02
import Derived.Test.YtibjcofbhldenaaGreatDoorZ03
namespace Go.Proofs.YtibjcofbhldenaaGreatDoor
open Go.RowKit
theorem mark4 (W : World) : Sem.run Tryz.prog (convert 57 57 (.slice (some ⟨W.heap.size, 0, none⟩) 4 4)) (W.alloc (.cells #[.int .u8 13, .int .u8 10, .int .u8 13, .int .u8 10] 5)) = .ok (.slice (some ⟨W.heap.size, 0, none⟩) 4 4) (W.alloc (.cells #[.int .u8 13, .int .u8 10, .int .u8 13, .int .u8 10] 5 (4, 5))) :=
  Lib.run_convert_bytes_const W 57 5 #[.int .u8 13, .int .u8 10, .int .u8 13, .int .u8 10] 4 4 Tryz.underlying57 Tryz.underlying5
theorem four_cells (W : World) : ∀ i, i < 4 → (W.alloc (.cells #[.int .u8 13, .int .u8 10, .int .u8 13, .int .u8 10] 5 (4, 5))).cell? ((⟨W.heap.size, 0, none⟩ : Addr).add i) = some (.int .u8 (([13, 10, 13, 10] : List Int).getD i 0)) := by
  intro i hi
  rw [Go.WideShapes.add_plain]
  match i, hi with
  | 0, _ => simp [World.cell?_alloc_mark]
  | 1, _ => simp [World.cell?_alloc_mark]
  | 2, _ => simp [World.cell?_alloc_mark]
  | 3, _ => simp [World.cell?_alloc_mark]
theorem indexB (ao : Option Addr) (cap : Nat) (bs : List UInt8) (W : World) (hv : HoldsB W (.slice ao bs.length cap) bs) (M : MaxV W) (hs : bs.length < 4294967281) :
    Calls Tryz.prog 238 #[.slice ao bs.length cap, .slice (some ⟨W.heap.size, 0, none⟩) 4 4] (W.alloc (.cells #[.int .u8 13, .int .u8 10, .int .u8 13, .int .u8 10] 5 (4, 5))) fun e w' => e = .returned (.int .i64 (Lib.index bs E4)) ∧ Below W.heap.size W w' := by
  have bA := below_alloc' W (.cells #[.int .u8 13, .int .u8 10, .int .u8 13, .int .u8 10] 5 (4, 5))
  obtain ⟨m, hm⟩ := maxV_below M bA
  have h1 := in_of_holdsB (holdsB_mono hv bA)
  obtain ⟨ao', cap', e, h0, hcp, _⟩ := hv
  simp only [Value.slice.injEq] at e
  obtain ⟨rfl, _, rfl⟩ := e
  cases ao with
  | none =>
    obtain rfl := h0 rfl
    have : bs = [] := List.eq_nil_of_length_eq_zero (by omega)
    subst this
    refine (Any.bytes_Index_nil Tryz.lays185 (some ⟨W.heap.size, 0, none⟩) 4 4 _ (by decide) (fun h => absurd h (by decide))).mono ?_
    rintro e w' ⟨rfl, rfl⟩
    exact ⟨rfl, bA⟩
  | some a =>
    refine (Any.bytes_Index_at Tryz.lays185 a ⟨W.heap.size, 0, none⟩ bs.length cap 4 4 (bs.map fun b => (b.toNat : Int)) [13, 10, 13, 10] m _ (by simp) rfl (byte_range bs) (by decide) ?_ (four_cells W) hcp hs (by decide) hm).mono ?_
    · intro i hi
      obtain ⟨b, off, e, hc⟩ := h1 (by omega)
      simp only [Option.some.injEq] at e
      subst e
      rw [Go.WideShapes.add_plain]
      exact hc i hi
    · rintro e w' ⟨rfl, q, rfl⟩
      rw [bytesOf_map', show Lib.bytesOf [13, 10, 13, 10] = E4 from rfl]
      exact ⟨rfl, bt' bA (below_drewN _ q)⟩
theorem cutp_at (b off n cap k : Nat) (e : Int) (m : Nat) (hm : e = m) (hk : k ≤ m) (he : m ≤ n) (hkn : k < n) (hc : n ≤ cap) (w : World) : Sem.run Tryz.prog (Instr.slice 57 (.slice (some ⟨b, off, none⟩) n cap) (some (.int .i64 k)) (some (.int .i64 e)) none) w = .ok (.slice (some ⟨b, off + k, none⟩) (m - k) (cap - k)) w := by
  subst hm
  have hel : Tryz.prog.elem 57 = 5 := by kernel_rfl
  have h := run_slice_lh (P := Tryz.prog) w 57 (some ⟨b, off, none⟩) n cap (by rw [hel]; exact Tryz.underlying57) .i64 .i64 k m (by omega) (by omega) (by omega)
  rw [hel, Tryz.sizeOf5] at h
  simp only [Result.andThen, Int.toNat_natCast, sliced] at h
  rw [h]
  have : ¬ cap = k := by omega
  simp [Addr.add, this]
set_option maxRecDepth 20000 in
set_option maxHeartbeats 1000000 in
theorem splitNone (v : Value) (bs : List UInt8) (p : Nat) (w : World) (hv : HoldsB w v bs) (M : MaxV w) (hp : p ≤ bs.length) (hs : bs.length < 4294967281) (h : (endOf bs p).1 = 0) :
    Calls Tryz.prog 216 #[v, .int .i64 (p : Int)] w fun e w' => e = .returned (.tuple #[.string ⟨#[]⟩, .slice none 0 0, .int .i64 0, .int .i64 (endOf bs p).2]) ∧ Below w.heap.size w w' := by
  have HV := hide' hv
  obtain ⟨ao, cap, rfl, h0, hcp, _⟩ := hv
  obtain ⟨n, hn⟩ : ∃ n, n = bs.length := ⟨_, rfl⟩
  have HS := holdsB_suf HV.out p hp
  obtain ⟨a2, c2, e2, _⟩ := HS
  have HS' := holdsB_suf HV.out p hp
  rw [e2] at HS'
  have sl := fun W => from_run ao bs.length cap p hp hcp W
  rw [e2] at sl
  have cI := indexB a2 c2 (bs.drop p) w HS' M (by rw [List.length_drop]; omega)
  have kc := mark4 w
  have hdl : (bs.drop p).length = n - p := by rw [List.length_drop, hn]
  rw [hdl] at sl cI
  rcases index_cases (bs.drop p) E4 with hi | ⟨i, hi⟩
  · have en := end_none bs p hi
    rw [hi] at cI
    have C := hide' cI
    rw [← hn] at hp hs hcp en sl ⊢
    clear cI h HV HS' e2 h0 hdl hn hi M
    by_cases hl : 8192 ≤ n
    · rw [if_pos hl] at en
      have t1 : decide ((n : Int) < 8192) = false := by simp; omega
      rw [en]
      clear en
      go_enter Tryz.func216, Tryz.ntmps216
      go_wp2_with fail
      refine C.out.mono ?_
      clear kc sl
      rintro e w1 ⟨rfl, b1⟩
      have B1 := hide' b1
      clear b1
      go_wp2_with fail
      exact bodyPost_ret (v := .tuple #[.string ⟨#[]⟩, .slice none 0 0, .int .i64 0, .int .i64 51]) (by simp [results, Tryz.results216, go_sem]) rfl ⟨rfl, B1.out⟩
    · rw [if_neg hl] at en
      have t1 : decide ((n : Int) < 8192) = true := by simp; omega
      rw [en]
      clear en
      go_enter Tryz.func216, Tryz.ntmps216
      go_wp2_with fail
      refine C.out.mono ?_
      clear kc sl
      rintro e w1 ⟨rfl, b1⟩
      have B1 := hide' b1
      clear b1
      go_wp2_with fail
      exact bodyPost_ret (v := .tuple #[.string ⟨#[]⟩, .slice none 0 0, .int .i64 0, .int .i64 0]) (by simp [results, Tryz.results216, go_sem]) rfl ⟨rfl, B1.out⟩
  · have en := end_some bs p i hi
    have hro := occ_len _ _ _ (by decide) (index_is _ _ _ hi).2.1
    rw [hdl, show E4.length = 4 from rfl] at hro
    rw [hi] at cI
    have C := hide' cI
    by_cases hl : 8192 < p + i + 4
    · rw [if_pos hl] at en
      rw [en, ← hn]
      rw [← hn] at hp hs hcp sl
      clear cI h HV HS' e2 h0 hdl hn hi M en
      have t2 : decide ((8192 : Int) < (p : Int) + (i : Int) + 4) = true := by simp; omega
      have t3 : (8192 : Int) < (p : Int) + (i : Int) + 4 := by omega
      go_enter Tryz.func216, Tryz.ntmps216
      go_wp2_with fail
      refine C.out.mono ?_
      clear kc sl
      rintro e w1 ⟨rfl, b1⟩
      have B1 := hide' b1
      clear b1
      go_wp2_with fail
      exact bodyPost_ret (v := .tuple #[.string ⟨#[]⟩, .slice none 0 0, .int .i64 0, .int .i64 51]) (by simp [results, Tryz.results216, go_sem]) rfl ⟨rfl, B1.out⟩
    · rw [en, if_neg hl] at h
      simp at h
set_option maxRecDepth 20000 in
set_option maxHeartbeats 1000000 in
theorem splitSome (v : Value) (bs : List UInt8) (p i : Nat) (w : World) (hv : HoldsB w v bs) (M : MaxV w) (hs : bs.length < 4294967281) (hi : Lib.index (bs.drop p) E4 = i) (hc : p + i + 4 ≤ 8192) (hl : p + i + 4 ≤ bs.length) :
    Calls Tryz.prog 216 #[v, .int .i64 (p : Int)] w fun e w' => ∃ bv, e = .returned (.tuple #[.string ⟨(lineH (headH bs p (p + i + 4))).toArray⟩, bv, .int .i64 ((p + i + 4 : Nat) : Int), .int .i64 0]) ∧ HoldsB w' bv (blkH (headH bs p (p + i + 4))) ∧ Below w.heap.size w w' := by
  have HV := hide' hv
  obtain ⟨ao, cap, rfl, h0, hcp, hcell⟩ := hv
  obtain ⟨b, off, rfl, hlt, _⟩ := hcell (fun e => by rw [e] at hl; simp at hl)
  clear hcell
  obtain ⟨n, hn⟩ : ∃ n, n = bs.length := ⟨_, rfl⟩
  have hp : p ≤ bs.length := by omega
  have e2 : Lib.fromV (some ⟨b, off, none⟩) bs.length cap p = .slice (some ⟨b, off + p, none⟩) (bs.length - p) (cap - p) := by
    unfold Lib.fromV
    rw [if_neg (by omega)]
    simp [Addr.add]
  have HS' := holdsB_suf HV.out p hp
  rw [e2] at HS'
  have sl := fun W => from_run (some ⟨b, off, none⟩) bs.length cap p hp hcp W
  rw [e2] at sl
  have hdl : (bs.drop p).length = n - p := by rw [List.length_drop, hn]
  rw [← List.length_drop] at HS'
  have cI := indexB (some ⟨b, off + p, none⟩) (cap - p) (bs.drop p) w HS' M (by rw [hdl]; omega)
  have kc := mark4 w
  rw [hi, hdl] at cI
  obtain ⟨j, hj, hji, hhl⟩ := headH_index bs p i hi hl
  have eh : headH bs p (p + i + 4) = (bs.drop p).take (i + 2) := by
    unfold headH
    rw [List.drop_take]
    congr 1
    omega
  have HH := holdsB_pre HS' (i + 2) (by rw [hdl]; omega)
  rw [← eh] at HH
  have EL : Hid (lineH (headH bs p (p + i + 4)) = (headH bs p (p + i + 4)).take j) := by unfold Hid lineH; rw [hj, Int.toNat_natCast]
  have EB : Hid (blkH (headH bs p (p + i + 4)) = (headH bs p (p + i + 4)).drop (j + 2)) := by unfold Hid blkH; rw [hj, Int.toNat_natCast]
  rw [EL.out, EB.out]
  obtain ⟨H, hH⟩ : ∃ H, H = headH bs p (p + i + 4) := ⟨_, rfl⟩
  rw [← hH] at HH hj hhl ⊢
  clear hH eh EL EB
  have s2 := fun W (e : Int) (he : e = ((p + i + 2 : Nat) : Int)) => cutp_at b off bs.length cap p e (p + i + 2) he (by omega) (by omega) (by omega) hcp W
  rw [show p + i + 2 - p = i + 2 by omega] at s2
  rw [← hhl] at HH
  have cC := fun W (hb : Below w.heap.size w W) => cutB (some ⟨b, off + p, none⟩) (cap - p) H W (holdsB_mono HH hb) (maxV_below M hb) (by rw [hhl]; omega)
  rw [show ([13, 10] : List UInt8) = E2 from rfl, hj, hhl] at cC
  unfold Lib.cutV at cC
  rw [if_pos (by omega), Int.toNat_natCast] at cC
  have HL := holdsB_pre HH j (by omega)
  have hjl : (H.take j).length = j := by rw [List.length_take]; omega
  have CV := fun W (hb : Below w.heap.size w W) => conv_holdsB W (some ⟨b, off + p, none⟩) (cap - p) (H.take j) (by rw [hjl]; exact holdsB_mono HL hb)
  rw [hjl] at CV
  have HB := holdsB_suf HH (j + 2) (by omega)
  rw [hhl] at HB
  obtain ⟨vb, hvb⟩ : ∃ vb, vb = Lib.fromV (some ⟨b, off + p, none⟩) (i + 2) (cap - p) (j + 2) := ⟨_, rfl⟩
  rw [← hvb] at cC HB
  have CI := hide' cI
  have CC := hide' cC
  have CVH := hide' CV
  have HBH := hide' HB
  have S2 := s2
  rw [← hn] at hl hs hp hcp sl S2 ⊢
  have t2 : decide ((8192 : Int) < (p : Int) + (i : Int) + 4) = false := by simp; omega
  have bp : p < 4294967281 := by omega
  have bi : i < 4294967281 := by omega
  have s3 := fun W => S2 W ((p : Int) + (i : Int) + 4 - 2) (by omega)
  have s4 := fun W => S2 W ((p : Int) + (i : Int) + 2) (by omega)
  have HC := hide' hc
  have HL2 := hide' hl
  clear cI cC CV HB s2 S2 HV HS' e2 h0 hn hi M HH hj hhl hjl HL hvb hdl hc hl hji
  generalize H.take j = ll at CVH ⊢
  generalize H.drop (j + 2) = bb at HBH ⊢
  go_enter Tryz.func216, Tryz.ntmps216
  go_wp2_with fail
  refine CI.out.mono ?_
  clear kc
  rintro e w1 ⟨rfl, b1⟩
  have B1 := hide' b1
  have kc2 := mark2 w1
  clear b1
  go_wp2_with fail
  refine (CC.out w1 B1.out).mono ?_
  clear kc2
  rintro e w2 ⟨rfl, b2⟩
  have B2 := hide' (bt' B1.out b2)
  have cv := CVH.out w2 B2.out
  clear b2
  go_wp2_with fail
  exact bodyPost_ret (v := .tuple #[.string ⟨ll.toArray⟩, vb, .int .i64 ((p : Int) + (i : Int) + 4), .int .i64 0]) (by simp [results, Tryz.results216, go_sem]) rfl ⟨vb, by simp, holdsB_mono HBH.out B2.out, B2.out⟩
end Go.Proofs.YtibjcofbhldenaaGreatDoor
namespace Go.Proofs.YtibjcofbhldenaaGreatDoor
open Go.RowKit
theorem cutBlank (s : ByteArray) (hs : s.size < 4294967281) (w : World) (M : MaxV w) :
    Calls Tryz.prog 240 #[.string s, .string ⟨#[32]⟩] w fun e w' => e = .returned (.tuple #[.string ⟨(word s.data.toList).toArray⟩, .string ⟨(past s.data.toList).toArray⟩, .bool (! s.data.toList.all noBl)]) ∧ Below w.heap.size w w' := by
  obtain ⟨m, hm⟩ := M
  refine (Any.strings_Cut Tryz.lays145 s ⟨#[32]⟩ m w hs hm).mono ?_
  rintro e w' ⟨rfl, n, rfl⟩
  refine ⟨?_, below_drewN w n⟩
  rw [show (⟨#[32]⟩ : ByteArray).data.toList = [32] from rfl, cut_blank]
end Go.Proofs.YtibjcofbhldenaaGreatDoor
namespace Go.Proofs.YtibjcofbhldenaaGreatDoor
open Go.RowKit
end Go.Proofs.YtibjcofbhldenaaGreatDoor
namespace Go.Proofs.YtibjcofbhldenaaGreatDoor
open Go.RowKit
theorem blkH_len (h : List UInt8) : (blkH h).length ≤ h.length := by unfold blkH; rw [List.length_drop]; omega
theorem lineH_len (h : List UInt8) : (lineH h).length ≤ h.length := by unfold lineH; rw [List.length_take]; omega
end Go.Proofs.YtibjcofbhldenaaGreatDoor
namespace Go.Proofs.YtibjcofbhldenaaGreatDoor
open Go.RowKit
def lineB (f : List UInt8 × List UInt8) : List UInt8 := f.1 ++ [58, 32] ++ f.2 ++ [13, 10]
def printOf (fs : FL) : List UInt8 := (fs.map lineB).flatten
def printP (fs : FL) : List UInt8 × Int := if fs.all goodF = false then ([], 40) else if 100 < fs.length then ([], 42) else (printOf fs, 0)
theorem lineB_len (f : List UInt8 × List UInt8) : (lineB f).length = f.1.length + f.2.length + 4 := by
  unfold lineB; simp only [List.length_append, List.length_cons, List.length_nil]; omega
theorem print_snoc (fs : FL) (j : Nat) (h : j < fs.length) : printOf (fs.take (j + 1)) = printOf (fs.take j) ++ lineB fs[j] := by
  unfold printOf
  rw [List.take_succ_eq_append_getElem h, List.map_append, List.flatten_append]
  simp
theorem print_take (fs : FL) (j : Nat) : (printOf (fs.take j)).length ≤ (printOf fs).length := by
  have e : printOf fs = printOf (fs.take j) ++ printOf (fs.drop j) := by
    unfold printOf
    rw [← List.flatten_append, ← List.map_append, List.take_append_drop]
  rw [e, List.length_append]; omega
/-- a block that holds two texts -/
def Two2 (w : World) (b : Nat) (x y : List UInt8) : Prop := w.heap[b]? = some (.cells #[S x, S y] 208)
theorem two2_cell {w : World} {b : Nat} {x y : List UInt8} (h : Two2 w b x y) : w.cell? ⟨b, 0, none⟩ = some (.string ⟨x.toArray⟩) ∧ w.cell? ⟨b, 1, none⟩ = some (.string ⟨y.toArray⟩) := by
  unfold Two2 at h
  constructor <;> simp [World.cell?, h, S]
theorem two2_new (w : World) (x y : List UInt8) : Two2 (w.alloc (.cells #[S x, S y] 208)) w.heap.size x y := by
  unfold Two2; rw [heap_alloc_new]
/-- a text's bytes appended -/
theorem appStr {ops : Array Oper} {rest : List Oper} {o : Oper} {a : Act} {Q : Exit → Act → World → Prop} {wr : World} (hgd : o.guard = none) (s z : Operand)
    (ho : o.op = .call { callee := .builtin .append, args := #[s, z], argTypes := #[57, 9] }) (w0 : World) (v : Value) (ps : List UInt8) (hs : a.eval s = v) (hown : Own w0 v ps wr)
    (q : List UInt8) (hz : a.eval z = .string ⟨q.toArray⟩) (hlen : ps.length + q.length ≤ 140737488355328)
    (h : ∀ v' w', Own w0 v' (ps ++ q) w' → (∀ b x y, Two2 wr b x y → Two2 w' b x y) → wpList Tryz.prog ops Q rest (a.put o.dst v') w') : wpList Tryz.prog ops Q (o :: rest) a wr := by
  obtain ⟨i0, hi, hz0, hz1, hz2⟩ := info_parts Tryz.info5
  have hsz := hown.2.size
  have hq : (⟨q.toArray⟩ : ByteArray).size = q.length := size_l q
  have hc : Lib.strCells ⟨q.toArray⟩ = q.map B := by unfold Lib.strCells B; simp
  refine Lib.wpList_append_own_string _ hgd s z 57 9 ho w0.heap.size 5 i0 Tryz.underlying57 Tryz.underlying9 hi hz0 hz1 hz2 v ps.length (ps.map B) hs hown.1 ⟨q.toArray⟩ hz (by rw [hq]; unfold maxLen; omega) (by rw [hq]; exact hlen) hsz ?_
  intro v' w' h1 h2 _
  rw [hq, hc] at h1
  refine h v' w' ⟨by rw [List.map_append, List.length_append]; exact h1, ?_⟩ ?_
  · refine Below.grown hown.2 h2 (by omega) ?_
    intro k hk
    exact (hown.1.lt k hk).1
  · intro b x y hb
    unfold Two2 at hb ⊢
    have hlt : b < wr.heap.size := (Array.getElem?_eq_some_iff.1 hb).1
    rw [h2.block b hlt ?_]
    · exact hb
    · intro e
      obtain ⟨_, h3 | ⟨g, cap, cur, hv, _, hh, _⟩⟩ := hown.1
      · rw [h3.1] at e; simp [Value.ownBlock] at e
      · rw [hv] at e
        simp only [Value.ownBlock, Option.some.injEq] at e
        subst e
        rw [hh] at hb
        simp at hb
set_option maxRecDepth 20000 in
set_option maxHeartbeats 4000000 in
theorem printTok (v : Value) (fs : FL) (w : World) (hv : HoldsF w v fs) (hfit : Fit fs) (hl : fs.length ≤ 140737488351232) (hP : (printOf fs).length ≤ 140737488355328) :
    Calls Tryz.prog 180 #[v] w fun e w' => ∃ u, e = .returned (.tuple #[u, .int .i64 (printP fs).2]) ∧ Own w u (printP fs).1 w' := by
  obtain ⟨ao, ca, b1, o1, rfl, hca⟩ := holdsF_parts hv
  have CA : Hid _ := hca
  have FT : Hid _ := hfit
  clear hca hv hfit
  obtain ⟨n, en⟩ : ∃ n, n = fs.length := ⟨_, rfl⟩
  have N : Hid (fs.length = n) := en.symm
  rw [N.out] at hl ⊢
  have HP := hide' hP
  clear en hP
  go_enter Tryz.func180, Tryz.ntmps180
  go_wp2_with fail
  go_loopw [11] (fun i wr => ∃ j : Nat, j ≤ n ∧ i = .int .i64 j ∧ Hid ((fs.take j).all goodF = true) ∧ Hid (Below w.heap.size w wr)) (fun i _ => n - (intOf i).toNat)
  case atStart => exact ⟨0, Nat.zero_le _, rfl, by unfold Hid; simp, Below.refl _ _⟩
  case round =>
    obtain ⟨j, hj, rfl, hg, hb⟩ := hrel
    by_cases hlt : j < n
    · have G : Hid (j < fs.length) := by unfold Hid; rw [N.out]; exact hlt
      obtain ⟨hao, hblt, hcell⟩ := CA.out (by have := G.out; omega)
      subst hao
      obtain ⟨h1, h2⟩ := hcell j G.out
      have c1 : wr.cell? ⟨b1, o1 + j * 2, none⟩ = some (.string ⟨(fs[j]'G.out).1.toArray⟩) := by
        rw [hb.out.cell (p := ⟨b1, o1 + j * 2, none⟩) hblt]; exact h1
      have c2 : wr.cell? ⟨b1, o1 + j * 2 + 1, none⟩ = some (.string ⟨(fs[j]'G.out).2.toArray⟩) := by
        rw [hb.out.cell (p := ⟨b1, o1 + j * 2 + 1, none⟩) hblt]; exact h2
      obtain ⟨hs1, hs2⟩ := fit_at FT.out j G.out
      have cG := fun W => goodTok ⟨(fs[j]'G.out).1.toArray⟩ ⟨(fs[j]'G.out).2.toArray⟩ W (by rw [size_l]; exact hs1) (by rw [size_l]; exact hs2)
      simp only at cG
      clear hcell h1 h2
      cases hgf : goodF (fs[j]'G.out) with
      | true =>
        have R : Hid ((fs.take (j + 1)).all goodF = true) := by
          unfold Hid; rw [List.take_succ_eq_append_getElem G.out, List.all_append, hg.out]; simp [hgf]
        rw [show ((fs[j]'G.out).1, (fs[j]'G.out).2) = fs[j]'G.out from rfl, hgf] at cG
        have CG := hide' cG
        clear cG hgf hs1 hs2
        generalize (fs[j]'G.out).1 = q1 at c1 CG
        generalize (fs[j]'G.out).2 = q2 at c2 CG
        go_wp2_with (go_at_call 201; refine (CG.out _).mono ?_; rintro e w2 ⟨rfl, hb2⟩; have B2 := hide' (bt' (bt' hb.out (below_alloc' wr (.cells #[.string ⟨q1.toArray⟩, .string ⟨q2.toArray⟩] 208))) hb2); clear hb2 c1 c2)
        go_roundw
        case rel => exact ⟨j + 1, by omega, by go_num, R, B2⟩
        case measure => simp [intOf]; omega
      | false =>
        have R : Hid (printP fs = ([], 40)) := by
          unfold Hid printP
          rw [if_pos]
          rw [Bool.eq_false_iff]
          intro h
          have := List.all_eq_true.1 h _ (List.getElem_mem G.out)
          rw [hgf] at this
          cases this
        rw [show ((fs[j]'G.out).1, (fs[j]'G.out).2) = fs[j]'G.out from rfl, hgf] at cG
        have CG := hide' cG
        clear cG hgf hs1 hs2
        generalize (fs[j]'G.out).1 = q1 at c1 CG
        generalize (fs[j]'G.out).2 = q2 at c2 CG
        go_wp2_with (go_at_call 201; refine (CG.out _).mono ?_; rintro e w2 ⟨rfl, hb2⟩; have B2 := hide' (bt' (bt' hb.out (below_alloc' wr (.cells #[.string ⟨q1.toArray⟩, .string ⟨q2.toArray⟩] 208))) hb2); clear hb2 c1 c2)
        go_ret2
        rw [R.out]
        exact ⟨_, rfl, own_nil _ _ B2.out⟩
    · have hall : fs.all goodF = true := by
        have := hg.out; rwa [List.take_of_length_le (by rw [N.out]; omega)] at this
      by_cases h100 : 100 < n
      · have R : Hid (printP fs = ([], 42)) := by
          unfold Hid printP
          rw [if_neg (by rw [hall]; simp), if_pos (by rw [N.out]; exact h100)]
        clear hall
        go_wp2_with fail
        go_ret2
        rw [R.out]
        exact ⟨_, rfl, own_nil _ _ hb.out⟩
      · have R : Hid (printP fs = (printOf fs, 0)) := by
          unfold Hid printP
          rw [if_neg (by rw [hall]; simp), if_neg (by rw [N.out]; exact h100)]
        clear hall
        obtain ⟨wa, ewa⟩ : ∃ wa, wa = wr := ⟨_, rfl⟩
        rw [← ewa] at hb ⊢
        clear ewa
        go_wp2_with fail
        go_loopw [6, 24] (fun v i wr => ∃ j : Nat, j ≤ n ∧ i = .int .i64 j ∧ Hid (Own wa v (printOf (fs.take j)) wr)) (fun _ i _ => n - (intOf i).toNat)
        case atStart => exact ⟨0, Nat.zero_le _, rfl, own_nil _ _ (Below.refl _ _)⟩
        case round =>
          obtain ⟨j, hj, rfl, ho⟩ := hrel
          by_cases hlt : j < n
          · have G : Hid (j < fs.length) := by unfold Hid; rw [N.out]; exact hlt
            obtain ⟨hao, hblt, hcell⟩ := CA.out (by have := G.out; omega)
            subst hao
            obtain ⟨h1, h2⟩ := hcell j G.out
            have hblta : b1 < wa.heap.size := Nat.lt_of_lt_of_le hblt hb.out.size
            have c1 : wr.cell? ⟨b1, o1 + j * 2, none⟩ = some (.string ⟨(fs[j]'G.out).1.toArray⟩) := by
              rw [ho.out.2.cell (p := ⟨b1, o1 + j * 2, none⟩) hblta, hb.out.cell (p := ⟨b1, o1 + j * 2, none⟩) hblt]; exact h1
            have c2 : wr.cell? ⟨b1, o1 + j * 2 + 1, none⟩ = some (.string ⟨(fs[j]'G.out).2.toArray⟩) := by
              rw [ho.out.2.cell (p := ⟨b1, o1 + j * 2 + 1, none⟩) hblta, hb.out.cell (p := ⟨b1, o1 + j * 2 + 1, none⟩) hblt]; exact h2
            have R : Hid (printOf (fs.take (j + 1)) = printOf (fs.take j) ++ (fs[j]'G.out).1 ++ [58, 32] ++ (fs[j]'G.out).2 ++ [13, 10]) := by
              unfold Hid; rw [print_snoc fs j G.out]; unfold lineB; simp only [List.append_assoc]
            have LN : Hid ((printOf (fs.take j)).length + (fs[j]'G.out).1.length + (fs[j]'G.out).2.length + 4 ≤ 140737488355328) := by
              unfold Hid
              have t1 := print_take fs (j + 1)
              rw [print_snoc fs j G.out, List.length_append, lineB_len] at t1
              have t2 := HP.out
              omega
            clear hcell h1 h2
            generalize (fs[j]'G.out).1 = q1 at c1 R LN
            generalize (fs[j]'G.out).2 = q2 at c2 R LN
            generalize printOf (fs.take j) = acc at ho R LN
            have T0 := hide' (two2_new wr q1 q2)
            have O0 := hide' (own_mono ho.out (below_alloc' wr (.cells #[S q1, S q2] 208)))
            go_wp2_with (first
              | (at_builtin; refine appStr rfl (.tmp 28) (.tmp 30) rfl wa _ acc rfl O0.out q1 rfl (by have := LN.out; omega) ?_; intro v2 w2 ho2 k2; have O2 := hide' ho2; have T2 := hide' (k2 _ _ _ T0.out); have d2 := (two2_cell T2.out).2; clear ho2 k2 T0 O0 c1 c2)
              | (at_builtin; refine appStr rfl (.tmp 32) _ rfl wa _ _ rfl O2.out [58, 32] rfl (by have := LN.out; simp only [List.length_append, List.length_cons, List.length_nil]; omega) ?_; intro v3 w3 ho3 k3; have O3 := hide' ho3; have T3 := hide' (k3 _ _ _ T2.out); have d3 := (two2_cell T3.out).2; clear ho3 k3 T2 O2 d2)
              | (at_builtin; refine appStr rfl (.tmp 34) (.tmp 36) rfl wa _ _ rfl O3.out q2 rfl (by have := LN.out; simp only [List.length_append, List.length_cons, List.length_nil]; omega) ?_; intro v4 w4 ho4 k4; have O4 := hide' ho4; clear ho4 k4 T3 O3 d3)
              | (at_builtin; refine appStr rfl (.tmp 38) _ rfl wa _ _ rfl O4.out [13, 10] rfl (by have := LN.out; simp only [List.length_append, List.length_cons, List.length_nil]; omega) ?_; intro v5 w5 ho5 k5; have O5 := hide' ho5; clear ho5 k5 O4))
            go_roundw
            case rel => exact ⟨j + 1, by omega, by go_num, by unfold Hid; rw [R.out]; exact O5.out⟩
            case measure => simp [intOf]; omega
          · have E : Hid (fs.take j = fs) := List.take_of_length_le (by rw [N.out]; omega)
            rw [E.out] at ho
            go_wp2_with fail
            go_ret2
            rw [R.out]
            exact ⟨_, rfl, own_base ho.out hb.out⟩
end Go.Proofs.YtibjcofbhldenaaGreatDoor
namespace Go.Proofs.YtibjcofbhldenaaGreatDoor
open Go.RowKit
theorem dw_self {p : UInt8 → Bool} {l : List UInt8} (h : (l.dropWhile p).length = l.length) : l = [] ∨ ∃ c t, l = c :: t ∧ p c = false := by
  cases l with
  | nil => exact Or.inl rfl
  | cons c t =>
    right
    refine ⟨c, t, rfl, ?_⟩
    cases hp : p c with
    | false => rfl
    | true =>
      rw [List.dropWhile_cons, hp] at h
      have := dropWhile_len p t
      simp only [if_true, List.length_cons] at h
      omega
theorem trim_blank (v : List UInt8) (h : trimT v = v) : trimT (32 :: v) = v := by
  have h0 := h
  unfold trimT Lib.trimS Lib.trimLeftS Lib.trimRightS at h
  have hl := congrArg List.length h
  have a1 := dropWhile_len (fun x => ([32, 9] : List UInt8).contains x) v.reverse
  have a2 := dropWhile_len (fun x => ([32, 9] : List UInt8).contains x) (List.dropWhile (fun x => ([32, 9] : List UInt8).contains x) v.reverse).reverse
  rw [List.length_reverse] at a1 a2
  have e1 : (v.reverse.dropWhile (fun x => ([32, 9] : List UInt8).contains x)).length = v.reverse.length := by rw [List.length_reverse]; omega
  have hr : (32 :: v).reverse = v.reverse ++ [32] := by simp
  unfold trimT Lib.trimS Lib.trimLeftS Lib.trimRightS
  rw [hr]
  rcases dw_self e1 with e | ⟨c, t, e, hc⟩
  · have : v = [] := by simpa using e
    subst this
    rfl
  · have e2 : v = (c :: t).reverse := by rw [← e]; simp
    have e3 : (v.reverse ++ [32]).dropWhile (fun x => ([32, 9] : List UInt8).contains x) = v.reverse ++ [32] := by
      rw [e, List.cons_append, List.dropWhile_cons, if_neg (by rw [hc]; simp)]
    have e4 : v.reverse.dropWhile (fun x => ([32, 9] : List UInt8).contains x) = v.reverse := by
      rw [e, List.dropWhile_cons, if_neg (by rw [hc]; simp)]
    rw [e4, List.reverse_reverse] at h
    rw [e3, List.reverse_append, List.reverse_reverse]
    show List.dropWhile _ (32 :: v) = v
    rw [List.dropWhile_cons, if_pos (by decide)]
    exact h
theorem tok_facts (c : UInt8) (h : tokI (c.toNat : Int) = true) : isEnd c = false ∧ noCol c = true ∧ blankI (c.toNat : Int) = false := by
  have : ∀ n : Nat, n < 256 → tokI ((UInt8.ofNat n).toNat : Int) = true → isEnd (UInt8.ofNat n) = false ∧ noCol (UInt8.ofNat n) = true ∧ blankI ((UInt8.ofNat n).toNat : Int) = false := by decide +kernel
  have k := this c.toNat c.toNat_lt
  rw [UInt8.ofNat_toNat] at k
  exact k h
theorem txt_facts (c : UInt8) (h : txt c = true) : isEnd c = false := by
  have : ∀ n : Nat, n < 256 → txt (UInt8.ofNat n) = true → isEnd (UInt8.ofNat n) = false := by decide +kernel
  have k := this c.toNat c.toNat_lt
  rw [UInt8.ofNat_toNat] at k
  exact k h
theorem good_parts {f : List UInt8 × List UInt8} (h : goodF f = true) : (∃ c t, f.1 = c :: t) ∧ (∀ c ∈ f.1, tokI (c.toNat : Int) = true) ∧ (∀ c ∈ f.2, txt c = true) ∧ trimT f.2 = f.2 := by
  unfold goodF isTok goodV at h
  simp only [Bool.and_eq_true, Bool.not_eq_true', decide_eq_true_eq, List.all_eq_true] at h
  obtain ⟨⟨h1, h2⟩, h3, h4⟩ := h
  refine ⟨?_, h2, h3, h4⟩
  cases hf : f.1 with
  | nil => rw [hf] at h1; simp at h1
  | cons c t => exact ⟨c, t, rfl⟩
theorem step_line : ∀ (l r : List UInt8), (∀ c ∈ l, isEnd c = false) → stepOf (l ++ 13 :: 10 :: r) = some (l, r) := by
  intro l
  induction l with
  | nil => intro r _; simp [stepOf]
  | cons b t ih =>
    intro r h
    have hb := h b (List.mem_cons_self ..)
    have h13 : b ≠ 13 := by intro e; subst e; exact absurd hb (by decide)
    have h10 : b ≠ 10 := by intro e; subst e; exact absurd hb (by decide)
    rw [List.cons_append, stepOf.eq_def]
    simp only
    rw [if_neg h13, if_neg h10, ih r (fun c hc => h c (List.mem_cons_of_mem _ hc))]
    rfl
theorem line_print (f : List UInt8 × List UInt8) (h : goodF f = true) : lineOf (f.1 ++ 58 :: 32 :: f.2) = (f, 0) := by
  obtain ⟨⟨c, t, e⟩, htok, _, htrim⟩ := good_parts h
  have hb : blankFirst (f.1 ++ 58 :: 32 :: f.2) = false := by
    rw [e, List.cons_append]
    exact (tok_facts c (htok c (by rw [e]; exact List.mem_cons_self ..))).2.2
  have ha : (f.1 ++ 58 :: 32 :: f.2).all noCol = false := by
    rw [List.all_append, List.all_cons, show noCol 58 = false from by decide]; simp
  have hn : nameOf (f.1 ++ 58 :: 32 :: f.2) = f.1 := by
    unfold nameOf
    rw [List.takeWhile_append_of_pos (fun a ha => (tok_facts a (htok a ha)).2.1), List.takeWhile_cons, if_neg (by decide), List.append_nil]
  have hr : restOf (f.1 ++ 58 :: 32 :: f.2) = 32 :: f.2 := by
    unfold restOf
    rw [List.dropWhile_append_of_pos (fun a ha => (tok_facts a (htok a ha)).2.1), List.dropWhile_cons, if_neg (by decide)]
    rfl
  unfold lineOf
  rw [if_neg (by rw [hb]; simp), if_neg (by rw [ha]; simp), hn, hr, trim_blank f.2 htrim, if_pos (by exact h)]
theorem parse_print : ∀ (fs acc : FL), fs.all goodF = true → acc.length + fs.length ≤ 100 → parseG (printOf fs) acc = (acc ++ fs, 0) := by
  intro fs
  induction fs with
  | nil => intro acc _ _; rw [List.append_nil]; exact parse_nil acc
  | cons f r ih =>
    intro acc h hl
    rw [List.all_cons, Bool.and_eq_true] at h
    rw [List.length_cons] at hl
    obtain ⟨_, htok, htxt, _⟩ := good_parts h.1
    have e : printOf (f :: r) = (f.1 ++ 58 :: 32 :: f.2) ++ 13 :: 10 :: printOf r := by
      unfold printOf lineB; simp
    have hs : stepOf (printOf (f :: r)) = some (f.1 ++ 58 :: 32 :: f.2, printOf r) := by
      rw [e]
      refine step_line _ _ (fun c hc => ?_)
      rcases List.mem_append.1 hc with hc | hc
      · exact (tok_facts c (htok c hc)).1
      · rcases List.mem_cons.1 hc with rfl | hc
        · decide
        · rcases List.mem_cons.1 hc with rfl | hc
          · decide
          · exact txt_facts c (htxt c hc)
    have hp := line_print f h.1
    rw [parse_next _ _ _ acc hs (by rw [hp]) (by omega), hp, ih _ h.2 (by rw [List.length_append, List.length_singleton]; omega), List.append_assoc]
    rfl
theorem parse_printP (fs : FL) (h : (printP fs).2 = 0) : parseOf (printP fs).1 = (fs, 0) := by
  unfold printP at h ⊢
  by_cases h1 : fs.all goodF = false
  · rw [if_pos h1] at h; cases h
  · by_cases h2 : 100 < fs.length
    · rw [if_neg h1, if_pos h2] at h; cases h
    · rw [if_neg h1, if_neg h2]
      exact parse_print fs [] (by simpa using h1) (by simpa using Nat.le_of_not_lt h2)
theorem line_good (l : List UInt8) (h : (lineOf l).2 = 0) : goodF (lineOf l).1 = true ∧ (lineOf l).1.1.length + (lineOf l).1.2.length + 1 ≤ l.length := by
  unfold lineOf at h ⊢
  by_cases h1 : blankFirst l = true
  · rw [if_pos h1] at h; cases h
  · by_cases h2 : l.all noCol = true
    · rw [if_neg h1, if_pos h2] at h; cases h
    · by_cases h3 : goodF (nameOf l, trimT (restOf l)) = true
      · rw [if_neg h1, if_neg h2, if_pos h3]
        refine ⟨h3, ?_⟩
        have t1 := trimT_len (restOf l)
        have e : l = nameOf l ++ l.dropWhile noCol := (List.takeWhile_append_dropWhile).symm
        have el := congrArg List.length e
        rw [List.length_append] at el
        have hne : l.dropWhile noCol ≠ [] := by
          intro e0
          rw [e0, List.append_nil] at e
          apply h2
          rw [List.all_eq_true]
          intro x hx
          rw [e] at hx
          exact List.all_eq_true.1 (List.all_takeWhile (p := noCol) (l := l)) x hx
        have hp : 0 < (l.dropWhile noCol).length := List.length_pos_iff.2 hne
        have hd : (restOf l).length = (l.dropWhile noCol).length - 1 := by unfold restOf; rw [List.length_drop]
        show (nameOf l).length + (trimT (restOf l)).length + 1 ≤ l.length
        omega
      · rw [if_neg h1, if_neg h2, if_neg h3] at h; cases h
theorem print_app (a b : FL) : (printOf (a ++ b)).length = (printOf a).length + (printOf b).length := by
  unfold printOf; rw [List.map_append, List.flatten_append, List.length_append]
theorem parseF_good : ∀ (n : Nat) (bs : List UInt8) (acc : FL), acc.all goodF = true → ((parseF n bs acc).2 = 0 → (parseF n bs acc).1.all goodF = true) ∧ (printOf (parseF n bs acc).1).length ≤ (printOf acc).length + 2 * bs.length ∧ ((parseF n bs acc).2 ≠ 0 → (parseF n bs acc).1 = []) := by
  intro n
  induction n with
  | zero => intro bs acc h; exact ⟨fun _ => h, by show (printOf acc).length ≤ _; omega, fun e => absurd rfl e⟩
  | succ n ih =>
    intro bs acc h
    unfold parseF
    by_cases h0 : bs = []
    · rw [if_pos h0]; exact ⟨fun _ => h, by show (printOf acc).length ≤ _; omega, fun e => absurd rfl e⟩
    · rw [if_neg h0]
      cases hs : stepOf bs with
      | none => exact ⟨(fun e => by cases e), by simp [printOf], fun _ => rfl⟩
      | some p =>
        obtain ⟨l, r⟩ := p
        have hl := step_len hs
        simp only
        by_cases h1 : (lineOf l).2 ≠ 0
        · rw [if_pos h1]; exact ⟨fun e => absurd e h1, by simp [printOf], fun _ => rfl⟩
        · rw [if_neg h1]
          by_cases h2 : 100 ≤ acc.length
          · rw [if_pos h2]; exact ⟨(fun e => by cases e), by simp [printOf], fun _ => rfl⟩
          · rw [if_neg h2]
            obtain ⟨g1, g2⟩ := line_good l (Classical.not_not.1 h1)
            obtain ⟨i1, i2, i3⟩ := ih r (acc ++ [(lineOf l).1]) (by rw [List.all_append, h]; simp [g1])
            refine ⟨i1, ?_, i3⟩
            rw [print_app] at i2
            have e : (printOf [(lineOf l).1]).length = (lineOf l).1.1.length + (lineOf l).1.2.length + 4 := by
              unfold printOf; simp only [List.map_cons, List.map_nil, List.flatten_cons, List.flatten_nil, List.append_nil]; exact lineB_len _
            omega
theorem parse_plen (bs : List UInt8) : (printOf (parseOf bs).1).length ≤ 2 * bs.length := by
  have h := (parseF_good (bs.length + 1) bs [] rfl).2.1
  have e : (printOf []).length = 0 := rfl
  rw [e, Nat.zero_add] at h
  exact h
theorem print_mem (fs : FL) : ∀ f ∈ fs, f.1.length + f.2.length ≤ (printOf fs).length := by
  induction fs with
  | nil => intro f hf; cases hf
  | cons g r ih =>
    intro f hf
    have e : (printOf (g :: r)).length = (lineB g).length + (printOf r).length := by unfold printOf; simp
    have e2 := lineB_len g
    rcases List.mem_cons.1 hf with rfl | hf
    · omega
    · have := ih f hf; omega
theorem print_bulk (fs : FL) : (printOf fs).length ≤ 2 * bulkF fs := by
  induction fs with
  | nil => simp [printOf, bulkF]
  | cons g r ih =>
    have e : (printOf (g :: r)).length = (lineB g).length + (printOf r).length := by unfold printOf; simp
    have e2 := lineB_len g
    simp only [bulkF]
    omega
end Go.Proofs.YtibjcofbhldenaaGreatDoor
namespace Go.Proofs.YtibjcofbhldenaaGreatDoor
open Go.RowKit
def M7 : List UInt8 := [72, 84, 84, 80, 47, 49, 46]
def minD (k : Int) : List UInt8 := if k = 1 then [49] else [48]
def stD (s : Int) : List UInt8 := [UInt8.ofNat (48 + s.toNat / 100), UInt8.ofNat (48 + s.toNat / 10 % 10), UInt8.ofNat (48 + s.toNat % 10)]
def goodK (k : Int) : Bool := decide (k = 0 ∨ k = 1)
def lineS (s : Rs) : List UInt8 := (M7 ++ minD s.k) ++ 32 :: (stD s.s ++ 32 :: s.r)
def wholeP (line : List UInt8) (fs : FL) : List UInt8 × Int :=
  if (printP fs).2 ≠ 0 then ([], (printP fs).2) else if 8192 < line.length + (printP fs).1.length + 4 then ([], 51) else (line ++ 13 :: 10 :: ((printP fs).1 ++ [13, 10]), 0)
def prR (s : Rs) : List UInt8 × Int := if (goodK s.k && s.r.all txt) = false then ([], 50) else if goodS s.s = false then ([], 53) else wholeP (lineS s) s.fs
def clean (l : List UInt8) : Prop := ∀ c ∈ l, isEnd c = false
theorem clean_app {a b : List UInt8} (ha : clean a) (hb : clean b) : clean (a ++ b) := by
  intro c hc; rcases List.mem_append.1 hc with h | h
  · exact ha c h
  · exact hb c h
theorem clean_cons {c : UInt8} {l : List UInt8} (hc : isEnd c = false) (hl : clean l) : clean (c :: l) := by
  intro d hd; rcases List.mem_cons.1 hd with rfl | h
  · exact hc
  · exact hl d h
theorem no13 {c : UInt8} (h : isEnd c = false) : c ≠ 13 := by intro e; subst e; exact absurd h (by decide)
/-- a pattern that opens with 13 stands at none of the clean bytes -/
theorem occ_clean (x y p : List UInt8) (hx : clean x) (j : Nat) (hj : j < x.length) : Lib.occAt (x ++ y) (13 :: p) j = false := by
  unfold Lib.occAt
  rw [List.drop_append_of_le_length (by omega), List.drop_eq_getElem_cons hj, List.cons_append, List.isPrefixOf_cons_cons]
  have := no13 (hx x[j] (List.getElem_mem hj))
  have e : ((13 : UInt8) == x[j]) = false := by rw [beq_eq_false_iff_ne]; exact fun e => this e.symm
  rw [e]; rfl
theorem idx_line2 (x y : List UInt8) (hx : clean x) : Lib.index (x ++ 13 :: 10 :: y) E2 = x.length := by
  refine Lib.index_first (by simp) ?_ (fun j hj => occ_clean x _ [10] hx j hj)
  unfold Lib.occAt
  rw [List.drop_append_of_le_length (Nat.le_refl _), List.drop_length, List.nil_append]
  unfold E2
  simp [List.isPrefixOf]
theorem idx_line4 (x y : List UInt8) (hx : clean x) (hy : pairB y = true) : Lib.index (x ++ 13 :: 10 :: y) E4 = x.length := by
  obtain ⟨t, rfl⟩ := (pair_iff y).1 hy
  refine Lib.index_first (by simp) ?_ (fun j hj => occ_clean x _ [10, 13, 10] hx j hj)
  unfold Lib.occAt
  rw [List.drop_append_of_le_length (Nat.le_refl _), List.drop_length, List.nil_append]
  unfold E4
  simp [List.isPrefixOf]
theorem idx_next4 (x y : List UInt8) (hx : clean x) (hy : pairB y = false) (i : Nat) (h : Lib.index y E4 = i) : Lib.index (x ++ 13 :: 10 :: y) E4 = ((x.length + 2 + i : Nat) : Int) := by
  obtain ⟨h1, h2, h3⟩ := index_is y E4 i h
  have hd : ∀ j, (x ++ 13 :: 10 :: y).drop (x.length + 2 + j) = y.drop j := by
    intro j
    rw [show x.length + 2 + j = x.length + (2 + j) by omega, ← List.drop_drop, List.drop_append_of_le_length (Nat.le_refl _), List.drop_length, List.nil_append, Nat.add_comm 2 j]
    rfl
  refine Lib.index_first (by simp; omega) (by unfold Lib.occAt at h2 ⊢; rw [hd]; exact h2) (fun j hj => ?_)
  rcases Nat.lt_or_ge j x.length with hjx | hjx
  · exact occ_clean x _ [10, 13, 10] hx j hjx
  · rcases Nat.lt_or_ge j (x.length + 2) with hj2 | hj2
    · rcases (by omega : j = x.length ∨ j = x.length + 1) with rfl | rfl
      · unfold Lib.occAt
        rw [List.drop_append_of_le_length (Nat.le_refl _), List.drop_length, List.nil_append]
        cases e : E4.isPrefixOf (13 :: 10 :: y) with
        | false => rfl
        | true =>
          have : pairB y = true := by
            unfold E4 at e; unfold pairB E2
            simpa [List.isPrefixOf] using e
          rw [hy] at this; cases this
      · unfold Lib.occAt
        rw [← List.drop_drop, List.drop_append_of_le_length (Nat.le_refl _), List.drop_length, List.nil_append]
        rfl
    · have := h3 (j - (x.length + 2)) (by omega)
      unfold Lib.occAt at this ⊢
      rw [show j = x.length + 2 + (j - (x.length + 2)) by omega, hd]
      exact this
theorem good_clean {f : List UInt8 × List UInt8} (h : goodF f = true) : clean (f.1 ++ 58 :: 32 :: f.2) ∧ ∃ c t, f.1 = c :: t ∧ isEnd c = false := by
  obtain ⟨⟨c, t, e⟩, htok, htxt, _⟩ := good_parts h
  refine ⟨clean_app (fun c hc => (tok_facts c (htok c hc)).1) (clean_cons (by decide) (clean_cons (by decide) (fun c hc => txt_facts c (htxt c hc)))), c, t, e, (tok_facts c (htok c (by rw [e]; exact List.mem_cons_self ..))).1⟩
theorem idx_head : ∀ (fs : FL) (x rest : List UInt8), clean x → fs.all goodF = true → Lib.index (x ++ 13 :: 10 :: (printOf fs ++ 13 :: 10 :: rest)) E4 = ((x.length + (printOf fs).length : Nat) : Int) := by
  intro fs
  induction fs with
  | nil =>
    intro x rest hx _
    rw [show printOf [] = [] from rfl, List.nil_append]
    rw [idx_line4 x _ hx ((pair_iff _).2 ⟨_, rfl⟩)]
    simp
  | cons f fs ih =>
    intro x rest hx hg
    rw [List.all_cons, Bool.and_eq_true] at hg
    obtain ⟨hc, c, t, e, hce⟩ := good_clean hg.1
    have e1 : printOf (f :: fs) ++ 13 :: 10 :: rest = (f.1 ++ 58 :: 32 :: f.2) ++ 13 :: 10 :: (printOf fs ++ 13 :: 10 :: rest) := by
      unfold printOf lineB; simp
    have hl : (printOf (f :: fs)).length = (f.1 ++ 58 :: 32 :: f.2).length + 2 + (printOf fs).length := by
      unfold printOf lineB; simp; omega
    have h2 := ih (f.1 ++ 58 :: 32 :: f.2) rest hc hg.2
    rw [e1]
    have hp : pairB ((f.1 ++ 58 :: 32 :: f.2) ++ 13 :: 10 :: (printOf fs ++ 13 :: 10 :: rest)) = false := by
      cases hh : pairB ((f.1 ++ 58 :: 32 :: f.2) ++ 13 :: 10 :: (printOf fs ++ 13 :: 10 :: rest)) with
      | false => rfl
      | true =>
        obtain ⟨t', ht⟩ := (pair_iff _).1 hh
        rw [e] at ht
        simp only [List.cons_append, List.cons.injEq] at ht
        exact absurd ht.1 (no13 hce)
    rw [idx_next4 x _ hx hp _ h2, hl]
    congr 1
    omega
theorem printP_parts (fs : FL) (h : (printP fs).2 = 0) : (printP fs).1 = printOf fs ∧ fs.all goodF = true := by
  unfold printP at h ⊢
  by_cases h1 : fs.all goodF = false
  · rw [if_pos h1] at h; cases h
  · by_cases h2 : 100 < fs.length
    · rw [if_neg h1, if_pos h2] at h; cases h
    · rw [if_neg h1, if_neg h2]; exact ⟨rfl, by simpa using h1⟩
/-- a head of a clean first line and printed fields: its end, its line, its fields -/
theorem head_read (line rest : List UInt8) (fs : FL) (hl : clean line) (hne : ∃ c t, line = c :: t) (h : (printP fs).2 = 0) (hc : line.length + (printP fs).1.length + 4 ≤ 8192) :
    leadOf (line ++ 13 :: 10 :: ((printP fs).1 ++ [13, 10]) ++ rest) = 0 ∧ endOf (line ++ 13 :: 10 :: ((printP fs).1 ++ [13, 10]) ++ rest) 0 = (line.length + (printP fs).1.length + 4, 0) ∧
    lineH (headH (line ++ 13 :: 10 :: ((printP fs).1 ++ [13, 10]) ++ rest) 0 (line.length + (printP fs).1.length + 4)) = line ∧
    parseOf (blkH (headH (line ++ 13 :: 10 :: ((printP fs).1 ++ [13, 10]) ++ rest) 0 (line.length + (printP fs).1.length + 4))) = (fs, 0) := by
  have hpp := parse_printP fs h
  obtain ⟨e1, hg⟩ := printP_parts fs h
  rw [e1] at hpp hc ⊢
  have ew : line ++ 13 :: 10 :: (printOf fs ++ [13, 10]) ++ rest = line ++ 13 :: 10 :: (printOf fs ++ 13 :: 10 :: rest) := by simp
  have hi := idx_head fs line rest hl hg
  have eh : headH (line ++ 13 :: 10 :: (printOf fs ++ 13 :: 10 :: rest)) 0 (line.length + (printOf fs).length + 4) = line ++ 13 :: 10 :: printOf fs := by
    unfold headH
    rw [List.drop_zero, show line ++ 13 :: 10 :: (printOf fs ++ 13 :: 10 :: rest) = (line ++ 13 :: 10 :: printOf fs) ++ 13 :: 10 :: rest by simp]
    exact List.take_left' (by simp; omega)
  have h2 := idx_line2 line (printOf fs) hl
  rw [ew]
  refine ⟨?_, ?_, ?_, ?_⟩
  · apply lead_no
    obtain ⟨c, t, rfl⟩ := hne
    cases hh : pairB (c :: t ++ 13 :: 10 :: (printOf fs ++ 13 :: 10 :: rest)) with
    | false => rfl
    | true =>
      obtain ⟨t', ht⟩ := (pair_iff _).1 hh
      simp only [List.cons_append, List.cons.injEq] at ht
      exact absurd ht.1 (no13 (hl c (List.mem_cons_self ..)))
  · rw [end_some _ 0 (line.length + (printOf fs).length) (by rw [List.drop_zero]; exact hi), if_neg (by omega)]
    simp
  · rw [eh]; unfold lineH; rw [h2, Int.toNat_natCast]; simp
  · rw [eh]; unfold blkH; rw [h2, Int.toNat_natCast]
    rw [← List.drop_drop, List.drop_append_of_le_length (Nat.le_refl _), List.drop_length, List.nil_append]
    exact hpp
theorem bl_facts (c : UInt8) : (tokI (c.toNat : Int) = true → noBl c = true ∧ isEnd c = false) ∧ (vis c = true → noBl c = true ∧ isEnd c = false) ∧ (dig c = true → noBl c = true ∧ isEnd c = false) := by
  have : ∀ n : Nat, n < 256 → (tokI ((UInt8.ofNat n).toNat : Int) = true → noBl (UInt8.ofNat n) = true ∧ isEnd (UInt8.ofNat n) = false) ∧ (vis (UInt8.ofNat n) = true → noBl (UInt8.ofNat n) = true ∧ isEnd (UInt8.ofNat n) = false) ∧ (dig (UInt8.ofNat n) = true → noBl (UInt8.ofNat n) = true ∧ isEnd (UInt8.ofNat n) = false) := by decide +kernel
  have k := this c.toNat c.toNat_lt
  rw [UInt8.ofNat_toNat] at k
  exact k
theorem word_app (a b : List UInt8) (ha : ∀ c ∈ a, noBl c = true) : word (a ++ 32 :: b) = a ∧ past (a ++ 32 :: b) = b := by
  have := while_app noBl a (32 :: b) ha (fun c r e => by simp only [List.cons.injEq] at e; rw [← e.1]; rfl)
  unfold word past
  rw [this.1, this.2]
  exact ⟨rfl, rfl⟩
theorem ver_min (k : Int) : isVer (M7 ++ minD k) = true ∧ (goodK k = true → minOf (M7 ++ minD k) = (k, 0)) ∧ (∀ c ∈ M7 ++ minD k, noBl c = true) ∧ clean (M7 ++ minD k) := by
  unfold minD
  by_cases h : k = 1
  · subst h; exact ⟨by decide, fun _ => by decide, by decide, by unfold clean; decide⟩
  · rw [if_neg h]
    refine ⟨by decide, fun hk => ?_, by decide, by unfold clean; decide⟩
    have : k = 0 := by unfold goodK at hk; simp at hk; omega
    subst this; decide
theorem st_facts : ∀ n : Nat, n < 600 → 100 ≤ n → num3 (stD (n : Int)) = (n : Int) ∧ (stD (n : Int)).all dig = true := by decide +kernel
theorem lineS_facts (s : Rs) (h : (goodK s.k && s.r.all txt) = true) (hg : goodS s.s = true) : clean (lineS s) ∧ (∃ c t, lineS s = c :: t) ∧ lineR (lineS s) = (⟨s.s, s.r, s.k, []⟩, 0) := by
  simp only [Bool.and_eq_true] at h
  obtain ⟨h3, h2⟩ := h
  obtain ⟨v1, v2, v3, v4⟩ := ver_min s.k
  have hs : 100 ≤ s.s ∧ s.s ≤ 599 := by unfold goodS at hg; simpa using hg
  obtain ⟨n, hn⟩ : ∃ n : Nat, s.s = n := ⟨s.s.toNat, by omega⟩
  have sf := st_facts n (by omega) (by omega)
  rw [← hn] at sf
  have hd : ∀ c ∈ stD s.s, dig c = true := fun c hc => List.all_eq_true.1 sf.2 c hc
  have w1 := word_app (M7 ++ minD s.k) (stD s.s ++ 32 :: s.r) v3
  have w2 := word_app (stD s.s) s.r (fun c hc => ((bl_facts c).2.2 (hd c hc)).1)
  refine ⟨clean_app v4 (clean_cons (by decide) (clean_app (fun c hc => ((bl_facts c).2.2 (hd c hc)).2) (clean_cons (by decide) (fun c hc => txt_facts c (List.all_eq_true.1 h2 c hc))))), ⟨72, _, rfl⟩, ?_⟩
  · unfold lineR lineS
    rw [w1.1, w1.2, w2.1, w2.2, h2, v1, v2 h3, sf.1, sf.2, hg, show (stD s.s).length = 3 from rfl]
    simp
theorem whole_parts {line w : List UInt8} {fs : FL} (h : wholeP line fs = (w, 0)) : (printP fs).2 = 0 ∧ line.length + (printP fs).1.length + 4 ≤ 8192 ∧ w = line ++ 13 :: 10 :: ((printP fs).1 ++ [13, 10]) := by
  unfold wholeP at h
  split at h
  · rename_i h1; rw [Prod.mk.injEq] at h; exact absurd h.2 h1
  · rename_i h1
    split at h
    · cases h
    · rename_i h2
      rw [Prod.mk.injEq] at h
      exact ⟨by simpa using h1, by omega, h.1.symm⟩
theorem whole_len (line : List UInt8) (fs : FL) : (line ++ 13 :: 10 :: ((printP fs).1 ++ [13, 10])).length = line.length + (printP fs).1.length + 4 := by simp; omega
theorem resp_round (s : Rs) (w rest : List UInt8) (h : prR s = (w, 0)) : respOf (w ++ rest) = (s, w.length, 0) := by
  unfold prR at h
  split at h
  · cases h
  · rename_i h1
    split at h
    · cases h
    · rename_i h2
      obtain ⟨a1, a2, a3⟩ := whole_parts h
      obtain ⟨b1, b2, b3⟩ := lineS_facts s (by simpa using h1) (by simpa using h2)
      obtain ⟨c1, c2, c3, c4⟩ := head_read (lineS s) rest s.fs b1 b2 a1 a2
      have hw := whole_len (lineS s) s.fs
      rw [← a3] at c1 c2 c3 c4 hw
      rw [resp_some (w ++ rest) ((lineS s).length + (printP s.fs).1.length + 4) (Nat.succ_ne_zero _) c2, c3, c4, b3, hw]
      unfold respG
      rw [if_neg (by simp), if_neg (by simp)]
theorem prR_pos (s : Rs) (w : List UInt8) (h : prR s = (w, 0)) : 4 ≤ w.length ∧ w.length ≤ 8192 := by
  unfold prR at h
  split at h
  · cases h
  · split at h
    · cases h
    · obtain ⟨a1, a2, a3⟩ := whole_parts h
      have := whole_len (lineS s) s.fs
      rw [← a3] at this; omega
end Go.Proofs.YtibjcofbhldenaaGreatDoor
