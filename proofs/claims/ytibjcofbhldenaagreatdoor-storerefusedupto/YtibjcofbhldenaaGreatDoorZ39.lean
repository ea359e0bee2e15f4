/- The contract of begin: a disk of copies. The contract of the laws' do: a step. A disk of the call's own; the contract of alive. The contract of alive. The contract of the store's putAt: an entry's bytes in the file of a free number. Plain: a life of a log: begun, records added, the power lost, read again. -/
import Derived.Deep.RegionHeld3
import Derived.Test.YtibjcofbhldenaaGreatDoorZ38
import Derived.Test.YtibjcofbhldenaaGreatDoorZ34
import Derived.Test.YtibjcofbhldenaaGreatDoorZ32
import Derived.Test.YtibjcofbhldenaaGreatDoorZ16
namespace Go.Proofs.YtibjcofbhldenaaGreatDoor
open Go.RowKit
end Go.Proofs.YtibjcofbhldenaaGreatDoor
namespace Go.Proofs.YtibjcofbhldenaaGreatDoor
open Go.RowKit
end Go.Proofs.YtibjcofbhldenaaGreatDoor
namespace Go.Proofs.YtibjcofbhldenaaGreatDoor
open Go.RowKit
end Go.Proofs.YtibjcofbhldenaaGreatDoor
namespace Go.Proofs.YtibjcofbhldenaaGreatDoor
open Go.RowKit Go.Shelf
set_option maxRecDepth 20000
end Go.Proofs.YtibjcofbhldenaaGreatDoor
namespace Go.Proofs.YtibjcofbhldenaaGreatDoor
open Go.RowKit Go.Maps
/-- the name of the file of a number -/
def nameN (z : Int) : Nm := (pathB z).data.toList
theorem path_size (z : Int) : (pathB z).size ≤ 140737488351232 := by
  unfold pathB
  split
  · decide
  · rw [size_l]; unfold pathL; simp
/-- bytes that lie aside from the store -/
def BytS (o : Ow) (lb tm : Nat) (v : Value) (bs : List UInt8) (W : World) : Prop := HoldsB W v bs ∧ ∀ ad n c, v = .slice (some ad) n c → o ad.block = none ∧ ad.block ≠ lb ∧ ad.block ≠ tm ∧ ad.block < W.heap.size
theorem bytS_grow {o o' : Ow} {lb tm : Nat} {v : Value} {bs : List UInt8} {W W' : World} (h : BytS o lb tm v bs W) (hg : GrowT lb tm o W o' W') : BytS o' lb tm v bs W' := by
  refine ⟨holdsB_off h.1 hg.off (fun ad n c e hh => ?_), fun ad n c e => ?_⟩
  · obtain ⟨h1, h2, h3, _⟩ := h.2 ad n c e
    rcases hh with hh | hh | hh
    · exact hh h1
    · exact h2 hh
    · exact h3 hh
  · obtain ⟨h1, h2, h3, h4⟩ := h.2 ad n c e
    exact ⟨none_growT hg h1 h4, h2, h3, Nat.lt_of_lt_of_le h4 hg.off.size⟩
/-- what stands behind the record: the old file away, the table, a shorter log -/
def behT (no : Nat) (id : Nm) (q : LSt × NL) : LSt × NL := (tidyT (putN q.2 id no) (match atN q.2 id with | some k => (opT ⟨6, nameN (k : Int), [], []⟩ q.1).1 | none => q.1), putN q.2 id no)
def fadT (no : Nat) (id : Nm) (d : List UInt8) (st : LSt) : LSt × Int := if (fileT (nameN (no : Int)) d st).2 = 0 then addT 1 (no : Int) id (fileT (nameN (no : Int)) d st).1 else fileT (nameN (no : Int)) d st
def putAtT (no : Nat) (id : Nm) (d : List UInt8) (q : LSt × NL) : (LSt × NL) × Int :=
  if (createT (nameN (no : Int)) q.1).2 ≠ 0 then (((createT (nameN (no : Int)) q.1).1, q.2), (createT (nameN (no : Int)) q.1).2)
  else if (fadT no id d (createT (nameN (no : Int)) q.1).1).1.2 = (createT (nameN (no : Int)) q.1).1.2 then (((opT ⟨6, nameN (no : Int), [], []⟩ (fadT no id d (createT (nameN (no : Int)) q.1).1).1).1, q.2), (fadT no id d (createT (nameN (no : Int)) q.1).1).2)
  else (behT no id ((fadT no id d (createT (nameN (no : Int)) q.1).1).1, q.2), (fadT no id d (createT (nameN (no : Int)) q.1).1).2)
theorem ins_lenK (n : Nm) (k : Nat) : ∀ l : NL, (insN n k l).length = l.length + 1 := by
  intro l
  induction l with
  | nil => rfl
  | cons q r ih =>
    rw [insN]
    split
    · rfl
    · rw [List.length_cons, ih]; rfl
theorem put_lenK (t : NL) (id : Nm) (no : Nat) : (putN t id no).length ≤ t.length + 1 := by
  unfold putN
  rw [ins_lenK]
  have : (delN t id).length ≤ t.length := List.length_filter_le _ _
  omega
theorem put_sml {t : NL} {id : Nm} {no : Nat} (h : SmlT t) (hid : id.length ≤ 1000000) : SmlT (putN t id no) := by
  intro p hp
  rcases mem_put.1 hp with e | ⟨e, _⟩
  · rw [e]; exact hid
  · exact h p e
set_option maxRecDepth 20000
set_option maxHeartbeats 4000000
theorem putAtC {o : Ow} {g lb sb tm : Nat} {slots : Int} {s : Dk} {c : Int} {t : NL} {W : World} (h : StoS o g lb sb tm slots s c t W) (m : Nat) (hB : Bd m s) (no : Nat) (id : ByteArray) (hid : id.size ≤ 1000000) (dv : Value) (d : List UInt8) (hd : BytS o lb tm dv d W) (hdl : d.length ≤ 1000000)
    (hm : m + 20000 + d.length + 4 * (8 + 3 * bulkR (recsOf (putN t id.data.toList no))) ≤ 50000000) (ht : SmlT t) (htl : t.length + 1 ≤ 1000000) :
    Calls Tryz.prog 67 #[lptr sb, .int .i64 (no : Int), .string id, dv] W fun e W' => TPost o g lb sb tm slots (putAtT no id.data.toList d ((s, c), t)) W e W' ∧ Bd (m + 20000 + d.length + 4 * (8 + 3 * bulkR (recsOf (putN t id.data.toList no)))) (putAtT no id.data.toList d ((s, c), t)).1.1.1 := by
  have H := hide' h
  have HD := hide' hd
  have BB := hide' hB
  have TT := hide' ht
  have NN : Hid ((pathB (no : Int)).data.toList = nameN (no : Int)) := rfl
  have CP := hide' (pathC (no : Int) W)
  have idl : id.data.toList.length = id.size := by simp
  have IL := hide' idl
  have hps := path_size (no : Int)
  clear h hd hB ht idl
  go_enter Tryz.func67, Tryz.ntmps67
  go_wp2_with fail
  refine CP.out.mono ?_
  rintro e w1 ⟨rfl, b1⟩
  have HS1 := hide' (stoS_below H.out b1)
  have G1 : Hid (GrowT lb tm o W o w1) := growT_below b1
  have HD1 := hide' (bytS_grow HD.out G1.out)
  have CC := hide' (createSC HS1.out m BB.out (by omega) (pathB (no : Int)) hps)
  rw [NN.out] at CC
  clear b1 CP H HD
  generalize hpb : pathB (no : Int) = pb at CC hps ⊢
  have PB := hide' hpb
  clear hpb
  go_wp2_with fail
  refine CC.out.mono ?_
  rintro e w2 ⟨⟨rfl, o2, S2, g2⟩, b2⟩
  have HS2 := hide' S2
  have G2 := hide' (G1.out.trans g2)
  have HD2 := hide' (bytS_grow HD1.out g2)
  have BB2 := hide' b2
  have PT : Hid (putAtT no id.data.toList d ((s, c), t) = if (createT (nameN (no : Int)) (s, c)).2 ≠ 0 then (((createT (nameN (no : Int)) (s, c)).1, t), (createT (nameN (no : Int)) (s, c)).2) else if (fadT no id.data.toList d (createT (nameN (no : Int)) (s, c)).1).1.2 = (createT (nameN (no : Int)) (s, c)).1.2 then (((opT ⟨6, nameN (no : Int), [], []⟩ (fadT no id.data.toList d (createT (nameN (no : Int)) (s, c)).1).1).1, t), (fadT no id.data.toList d (createT (nameN (no : Int)) (s, c)).1).2) else (behT no id.data.toList ((fadT no id.data.toList d (createT (nameN (no : Int)) (s, c)).1).1, t), (fadT no id.data.toList d (createT (nameN (no : Int)) (s, c)).1).2)) := rfl
  clear S2 g2 b2 CC HS1 G1 HD1
  simp only at HS2
  generalize createT (nameN (no : Int)) (s, c) = q2 at HS2 BB2 PT ⊢
  obtain ⟨⟨s2, c2⟩, e2⟩ := q2
  simp only at HS2 BB2 PT ⊢
  by_cases he2 : e2 = 0
  · subst he2
    rw [if_neg (by simp)] at PT
    have CN := hide' (countC HS2.out.log)
    have CF := hide' (fillC HS2.out (m + 4) BB2.out (by omega) pb hps dv d HD2.out.1 hdl (fun ad n c e => (HD2.out.2 ad n c e).1))
    have NP : Hid (pb.data.toList = nameN (no : Int)) := by unfold Hid; rw [← PB.out]; exact NN.out
    rw [NP.out] at CF
    obtain ⟨c0, c1, c2', c3⟩ := stoS_cells HS2.out
    go_wp2_with fail
    refine CN.out.mono ?_
    rintro e w9 ⟨rfl, ew⟩
    rw [ew]
    clear ew w9
    go_wp2_with fail
    refine CF.out.mono ?_
    rintro e w3 ⟨⟨rfl, o3, S3, g3⟩, b3⟩
    have HS3 := hide' S3
    have G3 := hide' (G2.out.trans g3)
    have BB3 := hide' b3
    have FT : Hid (fadT no id.data.toList d (s2, c2) = if (fileT (nameN (no : Int)) d (s2, c2)).2 = 0 then addT 1 (no : Int) id.data.toList (fileT (nameN (no : Int)) d (s2, c2)).1 else fileT (nameN (no : Int)) d (s2, c2)) := rfl
    clear S3 g3 b3 CF CN HS2 G2 HD2 c0 c1 c2' c3
    simp only at HS3
    generalize fileT (nameN (no : Int)) d (s2, c2) = q3 at HS3 BB3 FT ⊢
    obtain ⟨⟨s3, c3⟩, e3⟩ := q3
    simp only at HS3 BB3 FT ⊢
    by_cases he3 : e3 = 0
    · subst he3
      rw [if_pos rfl] at FT
      have CA := hide' (addC HS3.out.log (m + 4 + 6 + d.length) BB3.out 1 (no : Int) id.data.toList (by rw [IL.out]; omega) (by omega))
      rw [ba_eta] at CA
      obtain ⟨c0, c1, c2', c3'⟩ := stoS_cells HS3.out
      go_wp2_with fail
      refine CA.out.mono ?_
      rintro e w4 ⟨p4, b4⟩
      have P4 := hide' (tpost_log HS3.out p4)
      obtain ⟨rfl, -⟩ := p4
      obtain ⟨-, o4, S4, g4⟩ := P4.out
      have HS4 := hide' S4
      have G4 := hide' (G3.out.trans g4)
      have BB4 := hide' b4
      clear P4 S4 g4 b4 CA HS3 G3 c0 c1 c2' c3'
      simp only at HS4
      generalize addT 1 (no : Int) id.data.toList (s3, c3) = q4 at HS4 BB4 FT ⊢
      obtain ⟨⟨s4, c4⟩, e4⟩ := q4
      simp only at HS4 BB4 FT ⊢
      rw [FT.out] at PT
      simp only at PT
      clear FT
      have CN := hide' (countC HS4.out.log)
      obtain ⟨c0, c1, c2', c3'⟩ := stoS_cells HS4.out
      go_wp2_with fail
      refine CN.out.mono ?_
      rintro e w9 ⟨rfl, ew⟩
      rw [ew]
      clear ew w9 CN
      by_cases hcc : c4 = c2
      · subst hcc
        rw [if_pos rfl] at PT
        have CR := hide' (removeC HS4.out.log.dsk pb [] [] hps (bd_mono BB4.out (by omega)))
        rw [NP.out] at CR
        have BB5 := hide' (bd_step BB4.out ⟨6, nameN (no : Int), [], []⟩)
        go_wp2_with fail
        refine CR.out.mono ?_
        intro e w5 sp
        have P5 := hide' (tpost_step HS4.out sp)
        obtain ⟨rfl, -⟩ := sp
        obtain ⟨-, o5, S5, g5⟩ := P5.out
        have HS5 := hide' S5
        have G5 := hide' (G4.out.trans g5)
        clear S5 g5 P5 CR HS4 G4 c0 c1 c2' c3'
        go_wp2_with fail
        go_ret
        rw [PT.out]
        exact ⟨⟨rfl, o5, HS5.out, G5.out⟩, bd_mono BB5.out (by simp only [List.length_nil]; omega)⟩
      · rw [if_neg hcc] at PT
        have hcc' : (c4 == c2) = false := by simpa using hcc
        have hptl := put_lenK t id.data.toList no
        have hpsm := hide' (put_sml (no := no) TT.out (by rw [IL.out]; exact hid))
        unfold behT at PT
        cases hat : atN t id.data.toList with
        | none =>
          have hlk := tbi_none HS4.out.tab (by omega) hat
          rw [hat] at PT
          simp only at PT
          clear hcc hat
          obtain ⟨w6, hup, t6, f6⟩ := tbi_update HS4.out.tab (s := id) (by omega) no (by omega)
          have HS6 := hide' (stoS_tab HS4.out t6 f6 (sorted_put HS4.out.srt _ _))
          have G6 := hide' (G4.out.trans (growT_tab (lb := lb) (o := o4) f6))
          have CT := hide' (tidyC HS6.out (m + 4 + 6 + d.length + 13000) BB4.out (by omega) hpsm.out (by omega))
          clear t6 f6
          go_wp2_with fail
          refine CT.out.mono ?_
          rintro e w7 ⟨rfl, ⟨o7, S7, g7⟩, b7⟩
          have HS7 := hide' S7
          have G7 := hide' (G6.out.trans g7)
          have BB7 := hide' b7
          clear S7 g7 b7 CT HS6 G6
          go_wp2_with fail
          go_ret
          rw [PT.out]
          exact ⟨⟨rfl, o7, HS7.out, G7.out⟩, bd_mono BB7.out (by omega)⟩
        | some k =>
          have hlk := tbi_some HS4.out.tab (by omega) hat
          rw [hat] at PT
          simp only at PT
          clear hcc hat
          have kP := hide' (fun W' (hb : Below w4.heap.size w4 W') => (pathC (k : Int) W').mono (R' := fun e w' => e = .returned (.string (pathB (k : Int))) ∧ Hid (Below w4.heap.size w4 w') ∧ w'.cell? ⟨sb, 0, none⟩ = some (lptr g)) (by
            rintro e w' ⟨rfl, hb'⟩
            have h1 := hb.trans (hb'.mono hb.size)
            exact ⟨rfl, h1, (stoS_cells (stoS_below HS4.out h1)).1⟩))
          have kR := hide' (fun W' (hb : Below w4.heap.size w4 W') => (removeC (stoS_below HS4.out hb).log.dsk (pathB (k : Int)) [] [] (path_size _) (bd_mono BB4.out (by omega))).mono (R' := fun e w' => ∃ o', e = .returned (.int .i64 (s4.step ⟨6, nameN (k : Int), [], []⟩).2) ∧ Hid (StoS o' g lb sb tm slots (s4.step ⟨6, nameN (k : Int), [], []⟩).1 c4 t w') ∧ Hid (GrowT lb tm o4 w4 o' w') ∧ w'.cell? ⟨sb, 0, none⟩ = some (lptr g)) (by
            intro e w' sp
            obtain ⟨he, o', h1, h2⟩ := tpost_step (stoS_below HS4.out hb) sp
            exact ⟨o', he, h1, (growT_below hb).trans h2, (stoS_cells h1).1⟩))
          have BB5 := hide' (bd_step BB4.out ⟨6, nameN (k : Int), [], []⟩)
          generalize pathB (k : Int) = pk at kP kR
          go_wp2_with fail
          go_region_held3 (fun w' => w'.cell? ⟨sb, 0, none⟩ = some (lptr g)) (go_keep)
            (first
              | (go_at_call 32; refine (kP.out _ ?_).mono ?_; (first | exact (Below.refl _ _).drew | exact Below.refl _ _); rintro e w5 ⟨rfl, O5, k5⟩)
              | (go_at_call 57; refine (kR.out _ O5.out).mono ?_; rintro e w6 ⟨o6, rfl, HS6, G6', k6⟩))
          have G6 := hide' (G4.out.trans G6'.out)
          obtain ⟨d0, d1, d2, d3⟩ := stoS_cells HS6.out
          obtain ⟨w7, hup, t7, f7⟩ := tbi_update HS6.out.tab (s := id) (by omega) no (by omega)
          have HS7 := hide' (stoS_tab HS6.out t7 f7 (sorted_put HS6.out.srt _ _))
          have G7 := hide' (G6.out.trans (growT_tab (lb := lb) (o := o6) f7))
          have CT := hide' (tidyC HS7.out _ BB5.out (by simp only [List.length_nil]; omega) hpsm.out (by omega))
          clear t7 f7 kP kR k5 k6 O5 HS4 G4 c0 c1 c2' c3'
          go_wp2_with fail
          refine CT.out.mono ?_
          rintro e w8 ⟨rfl, ⟨o8, S8, g8⟩, b8⟩
          have HS8 := hide' S8
          have G8 := hide' (G7.out.trans g8)
          have BB8 := hide' b8
          clear S8 g8 b8 CT HS7 G7
          go_wp2_with fail
          go_ret
          rw [PT.out]
          exact ⟨⟨rfl, o8, HS8.out, G8.out⟩, bd_mono BB8.out (by simp only [List.length_nil]; omega)⟩
    · have he3' : (e3 == 0) = false := by simpa using he3
      rw [if_neg he3] at FT
      obtain ⟨o4, ho4⟩ : ∃ x, x = o3 := ⟨_, rfl⟩
      obtain ⟨s4, hs4⟩ : ∃ x, x = s3 := ⟨_, rfl⟩
      obtain ⟨c4, hc4⟩ : ∃ x, x = c3 := ⟨_, rfl⟩
      obtain ⟨e4, he4⟩ : ∃ x, x = e3 := ⟨_, rfl⟩
      rw [← ho4, ← hs4, ← hc4] at HS3
      rw [← ho4] at G3
      rw [← hs4, ← hc4, ← he4] at FT
      rw [← hs4] at BB3
      rw [← he4] at he3' ⊢
      have HS4 := HS3
      have G4 := G3
      have BB4 := hide' (bd_mono BB3.out (Nat.le_add_right _ 13000))
      rw [FT.out] at PT
      simp only at PT
      clear FT HS3 G3 BB3 ho4 hs4 hc4 he4 he3
      have CN := hide' (countC HS4.out.log)
      obtain ⟨c0, c1, c2', c3'⟩ := stoS_cells HS4.out
      go_wp2_with fail
      refine CN.out.mono ?_
      rintro e w9 ⟨rfl, ew⟩
      rw [ew]
      clear ew w9 CN
      by_cases hcc : c4 = c2
      · subst hcc
        rw [if_pos rfl] at PT
        have CR := hide' (removeC HS4.out.log.dsk pb [] [] hps (bd_mono BB4.out (by omega)))
        rw [NP.out] at CR
        have BB5 := hide' (bd_step BB4.out ⟨6, nameN (no : Int), [], []⟩)
        go_wp2_with fail
        refine CR.out.mono ?_
        intro e w5 sp
        have P5 := hide' (tpost_step HS4.out sp)
        obtain ⟨rfl, -⟩ := sp
        obtain ⟨-, o5, S5, g5⟩ := P5.out
        have HS5 := hide' S5
        have G5 := hide' (G4.out.trans g5)
        clear S5 g5 P5 CR HS4 G4 c0 c1 c2' c3'
        go_wp2_with fail
        go_ret
        rw [PT.out]
        exact ⟨⟨rfl, o5, HS5.out, G5.out⟩, bd_mono BB5.out (by simp only [List.length_nil]; omega)⟩
      · rw [if_neg hcc] at PT
        have hcc' : (c4 == c2) = false := by simpa using hcc
        have hptl := put_lenK t id.data.toList no
        have hpsm := hide' (put_sml (no := no) TT.out (by rw [IL.out]; exact hid))
        unfold behT at PT
        cases hat : atN t id.data.toList with
        | none =>
          have hlk := tbi_none HS4.out.tab (by omega) hat
          rw [hat] at PT
          simp only at PT
          clear hcc hat
          obtain ⟨w6, hup, t6, f6⟩ := tbi_update HS4.out.tab (s := id) (by omega) no (by omega)
          have HS6 := hide' (stoS_tab HS4.out t6 f6 (sorted_put HS4.out.srt _ _))
          have G6 := hide' (G4.out.trans (growT_tab (lb := lb) (o := o4) f6))
          have CT := hide' (tidyC HS6.out (m + 4 + 6 + d.length + 13000) BB4.out (by omega) hpsm.out (by omega))
          clear t6 f6
          go_wp2_with fail
          refine CT.out.mono ?_
          rintro e w7 ⟨rfl, ⟨o7, S7, g7⟩, b7⟩
          have HS7 := hide' S7
          have G7 := hide' (G6.out.trans g7)
          have BB7 := hide' b7
          clear S7 g7 b7 CT HS6 G6
          go_wp2_with fail
          go_ret
          rw [PT.out]
          exact ⟨⟨rfl, o7, HS7.out, G7.out⟩, bd_mono BB7.out (by omega)⟩
        | some k =>
          have hlk := tbi_some HS4.out.tab (by omega) hat
          rw [hat] at PT
          simp only at PT
          clear hcc hat
          have kP := hide' (fun W' (hb : Below w3.heap.size w3 W') => (pathC (k : Int) W').mono (R' := fun e w' => e = .returned (.string (pathB (k : Int))) ∧ Hid (Below w3.heap.size w3 w') ∧ w'.cell? ⟨sb, 0, none⟩ = some (lptr g)) (by
            rintro e w' ⟨rfl, hb'⟩
            have h1 := hb.trans (hb'.mono hb.size)
            exact ⟨rfl, h1, (stoS_cells (stoS_below HS4.out h1)).1⟩))
          have kR := hide' (fun W' (hb : Below w3.heap.size w3 W') => (removeC (stoS_below HS4.out hb).log.dsk (pathB (k : Int)) [] [] (path_size _) (bd_mono BB4.out (by omega))).mono (R' := fun e w' => ∃ o', e = .returned (.int .i64 (s4.step ⟨6, nameN (k : Int), [], []⟩).2) ∧ Hid (StoS o' g lb sb tm slots (s4.step ⟨6, nameN (k : Int), [], []⟩).1 c4 t w') ∧ Hid (GrowT lb tm o4 w3 o' w') ∧ w'.cell? ⟨sb, 0, none⟩ = some (lptr g)) (by
            intro e w' sp
            obtain ⟨he, o', h1, h2⟩ := tpost_step (stoS_below HS4.out hb) sp
            exact ⟨o', he, h1, (growT_below hb).trans h2, (stoS_cells h1).1⟩))
          have BB5 := hide' (bd_step BB4.out ⟨6, nameN (k : Int), [], []⟩)
          generalize pathB (k : Int) = pk at kP kR
          go_wp2_with fail
          go_region_held3 (fun w' => w'.cell? ⟨sb, 0, none⟩ = some (lptr g)) (go_keep)
            (first
              | (go_at_call 32; refine (kP.out _ ?_).mono ?_; (first | exact (Below.refl _ _).drew | exact Below.refl _ _); rintro e w5 ⟨rfl, O5, k5⟩)
              | (go_at_call 57; refine (kR.out _ O5.out).mono ?_; rintro e w6 ⟨o6, rfl, HS6, G6', k6⟩))
          have G6 := hide' (G4.out.trans G6'.out)
          obtain ⟨d0, d1, d2, d3⟩ := stoS_cells HS6.out
          obtain ⟨w7, hup, t7, f7⟩ := tbi_update HS6.out.tab (s := id) (by omega) no (by omega)
          have HS7 := hide' (stoS_tab HS6.out t7 f7 (sorted_put HS6.out.srt _ _))
          have G7 := hide' (G6.out.trans (growT_tab (lb := lb) (o := o6) f7))
          have CT := hide' (tidyC HS7.out _ BB5.out (by simp only [List.length_nil]; omega) hpsm.out (by omega))
          clear t7 f7 kP kR k5 k6 O5 HS4 G4 c0 c1 c2' c3'
          go_wp2_with fail
          refine CT.out.mono ?_
          rintro e w8 ⟨rfl, ⟨o8, S8, g8⟩, b8⟩
          have HS8 := hide' S8
          have G8 := hide' (G7.out.trans g8)
          have BB8 := hide' b8
          clear S8 g8 b8 CT HS7 G7
          go_wp2_with fail
          go_ret
          rw [PT.out]
          exact ⟨⟨rfl, o8, HS8.out, G8.out⟩, bd_mono BB8.out (by simp only [List.length_nil]; omega)⟩
  · have he2' : (e2 == 0) = false := by simpa using he2
    rw [if_pos he2] at PT
    go_wp2_with fail
    go_ret
    rw [PT.out]
    exact ⟨⟨rfl, o2, HS2.out, G2.out⟩, bd_mono BB2.out (by omega)⟩
end Go.Proofs.YtibjcofbhldenaaGreatDoor
namespace Go.Proofs.YtibjcofbhldenaaGreatDoor
def lN : NL := [(lgN, 0)]
def sE (R pw : Int) (n : Nat) : Dk := ⟨[], [], [], [], [], R, [], pw, n⟩
def sC (R pw : Int) (n : Nat) : Dk := ⟨lN, [], [lN], [[]], [0], R, [], pw, n⟩
def sL (R pw : Int) (n : Nat) (bs : List UInt8) (f : Nat) : Dk := ⟨lN, lN, [], [bs], [f], R, [], pw, n⟩
theorem stp {s : Dk} (o : DOp) (hd : s.down = false) (hf : s.fails = []) (hg : ¬ ((o.what ≠ 4 ∧ goodN o.name = false) ∨ (o.what = 5 ∧ goodN o.to = false))) :
    s.step o = (match atN s.now o.name with
    | none => if o.what = 1 ∨ o.what = 4 then { s with n := s.n + 1 }.act o 0 else ({ s with n := s.n + 1 }, 90)
    | some k => if o.what = 1 then ({ s with n := s.n + 1 }, 91) else { s with n := s.n + 1 }.act o k) := by
  unfold Dk.step
  rw [if_neg (by rw [hd]; simp), if_neg (by unfold Dk.fault; rw [hf]; simp), if_neg hg]
  rfl
theorem stp_down {s : Dk} (o : DOp) (hd : s.down = true) : s.step o = (s, 93) := by unfold Dk.step; rw [if_pos hd]
theorem e_create (R pw : Int) (n : Nat) (h : (sE R pw n).down = false) : (sE R pw n).step ⟨1, lgN, [], []⟩ = (sC R pw (n + 1), 0) := by
  rw [stp _ h rfl (by decide)]; rfl
theorem c_sync (R pw : Int) (n : Nat) (h : (sC R pw n).down = false) : (sC R pw n).step ⟨3, lgN, [], []⟩ = (sC R pw (n + 1), 0) := by
  rw [stp _ h rfl (by decide)]; rfl
theorem c_names (R pw : Int) (n : Nat) (h : (sC R pw n).down = false) : (sC R pw n).step ⟨4, [], [], []⟩ = (sL R pw (n + 1) [] 0, 0) := by
  rw [stp _ h rfl (by decide)]; rfl
end Go.Proofs.YtibjcofbhldenaaGreatDoor
